/-
  PtMath, Dig, DigWalk, DigSum, DigBit, DigDown
-/
import Derived.Laws.BitsAllLaws
import Derived.Test.YtfhoimfjfbbhaaaDoorRows
import Derived.WalkKit
import Derived.WalkSpells
import Derived.WalkLawsBesides
import Derived.Deep.Light

/-
  Plain mathematics of parts of 32 bits. No Go in sight.
-/
namespace Go.Proofs.YtfhoimfjfbbhaaaDoor.Pt
set_option maxRecDepth 100000

/-- What parts stand for, the lowest first. -/
def pv : List Nat → Nat
  | [] => 0
  | d :: r => d + 4294967296 * pv r
def Sm (ds : List Nat) : Prop := ∀ d ∈ ds, d < 4294967296
/-- No nought at the top. -/
def Tr (ds : List Nat) : Prop := ds.length = 0 ∨ 4294967296 ^ (ds.length - 1) ≤ pv ds
/-- How many bits a number has. -/
def bl (n : Nat) : Nat := if n = 0 then 0 else n.log2 + 1

theorem rpos (k : Nat) : 0 < 4294967296 ^ k := Nat.pow_pos (by decide)
theorem pow32 (k : Nat) : 4294967296 ^ k = 2 ^ (32 * k) := by rw [Nat.pow_mul]
theorem pv_append : ∀ (xs ys : List Nat), pv (xs ++ ys) = pv xs + 4294967296 ^ xs.length * pv ys := by
  intro xs ys
  induction xs with
  | nil => simp [pv]
  | cons d r ih => rw [List.cons_append, pv, pv, ih, List.length_cons, Nat.pow_succ', Nat.mul_add, Nat.mul_assoc, Nat.add_assoc]
theorem pv_snoc (xs : List Nat) (d : Nat) : pv (xs ++ [d]) = pv xs + 4294967296 ^ xs.length * d := by
  rw [pv_append]; simp [pv]
theorem pv_lt : ∀ (ds : List Nat), Sm ds → pv ds < 4294967296 ^ ds.length := by
  intro ds
  induction ds with
  | nil => intro _; simp [pv]
  | cons d r ih =>
    intro hs
    have hd : d < 4294967296 := hs d (by simp)
    have := ih (fun x hx => hs x (by simp [hx]))
    rw [List.length_cons, Nat.pow_succ']
    unfold pv
    omega
theorem sm_take {ds : List Nat} (k : Nat) (hs : Sm ds) : Sm (ds.take k) := fun x hx => hs x (List.mem_of_mem_take hx)
theorem sm_snoc {ds : List Nat} {d : Nat} (hs : Sm ds) (hd : d < 4294967296) : Sm (ds ++ [d]) := by
  intro x hx
  rcases List.mem_append.1 hx with h | h
  · exact hs x h
  · simp at h; omega
theorem sm_set {ds : List Nat} {k d : Nat} (hs : Sm ds) (hd : d < 4294967296) : Sm (ds.set k d) := by
  intro x hx
  rcases List.mem_or_eq_of_mem_set hx with h | h
  · exact hs x h
  · omega
theorem sm_getD {ds : List Nat} (k : Nat) (hs : Sm ds) : ds.getD k 0 < 4294967296 := by
  rw [List.getD_eq_getElem?_getD]
  rcases Nat.lt_or_ge k ds.length with h | h
  · rw [List.getElem?_eq_getElem h]; exact hs _ (List.getElem_mem h)
  · rw [List.getElem?_eq_none h]; decide
theorem pv_take_succ : ∀ (ds : List Nat) (k : Nat), pv (ds.take (k + 1)) = pv (ds.take k) + 4294967296 ^ k * ds.getD k 0 := by
  intro ds
  induction ds with
  | nil => intro k; simp [pv]
  | cons d r ih =>
    intro k
    cases k with
    | zero => simp [pv]
    | succ k => rw [List.take_succ_cons, List.take_succ_cons, pv, pv, ih, List.getD_cons_succ, Nat.mul_add, Nat.pow_succ', Nat.mul_assoc, Nat.add_assoc]
theorem pv_set_take : ∀ (rs : List Nat) (k y : Nat), k < rs.length → pv ((rs.set k y).take (k + 1)) = pv (rs.take k) + 4294967296 ^ k * y := by
  intro rs
  induction rs with
  | nil => intro k y h; simp at h
  | cons d r ih =>
    intro k y h
    cases k with
    | zero => simp [pv]
    | succ k =>
      rw [List.set_cons_succ, List.take_succ_cons, List.take_succ_cons, pv, pv, ih k y (by simpa using h), Nat.mul_add, Nat.pow_succ', Nat.mul_assoc, Nat.add_assoc]
theorem pget_set {rs : List Nat} {k j y : Nat} (h : k ≠ j) : (rs.set k y).getD j 0 = rs.getD j 0 := by
  rw [List.getD_eq_getElem?_getD, List.getD_eq_getElem?_getD, List.getElem?_set_ne h]

/-- A step of the product. -/
theorem times_step {rs ds : List Nat} {k by' more cc : Nat} (hk : k < rs.length) (h : pv (rs.take k) + 4294967296 ^ k * cc = pv (ds.take k) * by' + more) :
    pv ((rs.set k ((cc + ds.getD k 0 * by') % 4294967296)).take (k + 1)) + 4294967296 ^ (k + 1) * ((cc + ds.getD k 0 * by') / 4294967296) = pv (ds.take (k + 1)) * by' + more := by
  rw [pv_set_take _ _ _ hk, pv_take_succ ds k, Nat.pow_succ, Nat.mul_assoc, Nat.add_assoc, ← Nat.mul_add, Nat.mod_add_div, Nat.mul_add, ← Nat.add_assoc, h, Nat.add_mul, ← Nat.mul_assoc]
  omega
theorem times_cc {cc d by' : Nat} (h1 : cc < 4294967296) (h2 : d < 4294967296) (h3 : by' < 4294967296) : d * by' ≤ 18446744065119617025 ∧ (cc + d * by') / 4294967296 < 4294967296 := by
  have h : d * by' ≤ 4294967295 * 4294967295 := Nat.mul_le_mul (by omega) (by omega)
  exact ⟨h, by omega⟩
theorem tr_times {ds rs : List Nat} {by' more : Nat} (hl : rs.length = ds.length) (ht : Tr ds) (hb : 1 ≤ by') (h : pv rs = pv ds * by' + more) : Tr rs := by
  unfold Tr
  rcases ht with h0 | h0
  · exact Or.inl (by omega)
  · refine Or.inr ?_
    rw [hl, h]
    have := Nat.le_mul_of_pos_right (pv ds) hb
    omega
theorem tr_snoc {rs : List Nat} {cc : Nat} (hc : cc ≠ 0) : Tr (rs ++ [cc]) := by
  refine Or.inr ?_
  rw [pv_snoc, List.length_append, List.length_singleton, Nat.add_sub_cancel]
  have := Nat.le_mul_of_pos_right (4294967296 ^ rs.length) (Nat.pos_of_ne_zero hc)
  omega
theorem take_all {ds : List Nat} {k : Nat} (h : k = ds.length) : ds.take k = ds := by subst h; simp

/-- A step of the difference. -/
theorem minus_step {rs ds ms : List Nat} {k bw df b2 : Nat} (hk : k < rs.length) (h : pv (rs.take k) + pv (ms.take k) = pv (ds.take k) + 4294967296 ^ k * bw) (hd : df + ms.getD k 0 + bw = ds.getD k 0 + 4294967296 * b2) :
    pv ((rs.set k df).take (k + 1)) + pv (ms.take (k + 1)) = pv (ds.take (k + 1)) + 4294967296 ^ (k + 1) * b2 := by
  rw [pv_set_take _ _ _ hk, pv_take_succ ds k, pv_take_succ ms k, Nat.pow_succ, Nat.mul_assoc]
  have e : 4294967296 ^ k * (df + ms.getD k 0 + bw) = 4294967296 ^ k * (ds.getD k 0 + 4294967296 * b2) := by rw [hd]
  rw [Nat.mul_add, Nat.mul_add, Nat.mul_add] at e
  omega
theorem len_le {ds ms : List Nat} (hm : Tr ms) (hs : Sm ds) (h : pv ms ≤ pv ds) : ms.length ≤ ds.length := by
  rcases hm with h0 | h0
  · omega
  · have := pv_lt ds hs
    have h1 : 4294967296 ^ (ms.length - 1) < 4294967296 ^ ds.length := by omega
    have := (Nat.pow_lt_pow_iff_right (by decide : 1 < 4294967296)).1 h1
    omega
theorem pm_end {rs ds ms : List Nat} {bw : Nat} (hl : rs.length = ds.length) (hr : Sm rs) (hs : Sm ds) (hm : Tr ms) (h : pv ms ≤ pv ds) (he : pv (rs.take ds.length) + pv (ms.take ds.length) = pv (ds.take ds.length) + 4294967296 ^ ds.length * bw) :
    pv rs = pv ds - pv ms := by
  have hle := len_le hm hs h
  rw [take_all hl.symm, take_all rfl, List.take_of_length_le hle] at he
  have h1 := pv_lt rs hr
  rw [hl] at h1
  rcases Nat.eq_zero_or_pos bw with c | c
  · subst c; omega
  · have := Nat.le_mul_of_pos_right (4294967296 ^ ds.length) c
    omega

/-- Trimming. -/
theorem trim_step {ds : List Nat} {k : Nat} (h : pv (ds.take (k + 1)) = pv ds) (hz : ds.getD k 0 = 0) : pv (ds.take k) = pv ds := by
  rw [pv_take_succ, hz] at h; omega
theorem trim_end {ds : List Nat} {k : Nat} (hk : k + 1 ≤ ds.length) (hz : ds.getD k 0 ≠ 0) : Tr (ds.take (k + 1)) := by
  refine Or.inr ?_
  rw [pv_take_succ, List.length_take, Nat.min_eq_left hk, Nat.add_sub_cancel]
  have := Nat.le_mul_of_pos_right (4294967296 ^ k) (Nat.pos_of_ne_zero hz)
  omega

/-- Comparing. -/
theorem pv_split (ds : List Nat) (k : Nat) (hk : k ≤ ds.length) : pv ds = pv (ds.take k) + 4294967296 ^ k * pv (ds.drop k) := by
  have h := pv_append (ds.take k) (ds.drop k)
  rw [List.take_append_drop, List.length_take, Nat.min_eq_left hk] at h
  exact h
theorem cmp_len {ds ms : List Nat} (hs : Sm ds) (hm : Tr ms) (h : ds.length < ms.length) : pv ds < pv ms := by
  rcases hm with h0 | h0
  · omega
  · have h1 := pv_lt ds hs
    have := Nat.pow_le_pow_right (show 0 < 4294967296 by decide) (show ds.length ≤ ms.length - 1 by omega)
    omega
theorem cmp_at {ds ms : List Nat} {k : Nat} (hs : Sm ds) (hk : k < ds.length) (hl : ds.length = ms.length) (hd : pv (ds.drop (k + 1)) = pv (ms.drop (k + 1))) (h : ds.getD k 0 < ms.getD k 0) : pv ds < pv ms := by
  rw [pv_split ds (k + 1) hk, pv_split ms (k + 1) (by omega), hd, pv_take_succ, pv_take_succ]
  have h1 := pv_lt (ds.take k) (sm_take k hs)
  rw [List.length_take, Nat.min_eq_left (by omega)] at h1
  have h2 := Nat.mul_le_mul_left (4294967296 ^ k) (show ds.getD k 0 + 1 ≤ ms.getD k 0 from h)
  rw [Nat.mul_add] at h2
  omega
theorem drop_succ (ds : List Nat) (k : Nat) : pv (ds.drop k) = ds.getD k 0 + 4294967296 * pv (ds.drop (k + 1)) := by
  induction ds generalizing k with
  | nil => simp [pv]
  | cons d r ih =>
    cases k with
    | zero => simp [pv]
    | succ k => rw [List.drop_succ_cons, List.drop_succ_cons, List.getD_cons_succ]; exact ih k

/-- Bits. -/
theorem bl_of {n e : Nat} (h1 : 2 ^ e ≤ n) (h2 : n < 2 ^ (e + 1)) : bl n = e + 1 := by
  have h0 : n ≠ 0 := by have := Nat.two_pow_pos e; omega
  unfold bl
  rw [if_neg h0]
  have a := (Nat.le_log2 h0).2 h1
  have b := (Nat.log2_lt h0).2 h2
  omega
theorem bl_lt (n : Nat) : n < 2 ^ bl n := by
  unfold bl
  split
  · rename_i h; subst h; simp
  · exact Nat.lt_log2_self
theorem bl_ge {n : Nat} (h : n ≠ 0) : 2 ^ (bl n - 1) ≤ n := by
  unfold bl
  rw [if_neg h, Nat.add_sub_cancel]
  exact Nat.log2_self_le h
theorem bl_le {n k : Nat} (h : n < 2 ^ k) : bl n ≤ k := by
  unfold bl
  split
  · omega
  · rename_i h0
    have := (Nat.log2_lt h0).2 h
    omega
theorem bl_parts {ds : List Nat} {l : Nat} (hs : Sm ds) (hl : ds.length = l + 1) (ht : Tr ds) : ds.getD l 0 ≠ 0 ∧ bl (pv ds) = 32 * l + bl (ds.getD l 0) := by
  have hv : pv ds = pv (ds.take l) + 4294967296 ^ l * ds.getD l 0 := by
    rw [← pv_take_succ, List.take_of_length_le (by omega)]
  have h1 := pv_lt (ds.take l) (sm_take l hs)
  rw [List.length_take, Nat.min_eq_left (by omega)] at h1
  rcases ht with h0 | h0
  · omega
  · rw [hl, Nat.add_sub_cancel] at h0
    have hz : ds.getD l 0 ≠ 0 := by
      intro c
      rw [c, Nat.mul_zero] at hv
      omega
    refine ⟨hz, ?_⟩
    have b1 := bl_ge hz
    have b2 := bl_lt (ds.getD l 0)
    have b3 : 1 ≤ bl (ds.getD l 0) := by unfold bl; rw [if_neg hz]; omega
    obtain ⟨e, he⟩ : ∃ e, bl (ds.getD l 0) = e + 1 := ⟨bl (ds.getD l 0) - 1, by omega⟩
    rw [he] at b1 b2 ⊢
    rw [Nat.add_sub_cancel] at b1
    rw [← Nat.add_assoc]
    refine bl_of ?_ ?_
    · rw [hv, Nat.pow_add, ← pow32]
      have := Nat.mul_le_mul_left (4294967296 ^ l) b1
      omega
    · rw [hv, Nat.add_assoc, Nat.pow_add, ← pow32]
      have := Nat.mul_le_mul_left (4294967296 ^ l) (show ds.getD l 0 + 1 ≤ 2 ^ (e + 1) from b2)
      rw [Nat.mul_add] at this
      omega
theorem len_bound {ds : List Nat} {K : Nat} (ht : Tr ds) (h : pv ds < 2 ^ K) : ds.length ≤ K + 1 := by
  rcases ht with h0 | h0
  · omega
  · have h1 : 2 ^ (32 * (ds.length - 1)) < 2 ^ K := by rw [← pow32]; omega
    have := (Nat.pow_lt_pow_iff_right (by decide : 1 < 2)).1 h1
    omega

/-- The borrow, by its bits. -/
theorem nat_borrow {x y b : Nat} (hx : x < 4294967296) (hy : y < 4294967296) (hb : b ≤ 1) :
    ((x + 8589934592 - y - b) % 4294967296) + y + b = x + 4294967296 * (if x < y + b then 1 else 0) := by
  split <;> omega

end Go.Proofs.YtfhoimfjfbbhaaaDoor.Pt

/-
  Plain mathematics of digits of 16 bits. No Go in sight.
-/
namespace Go.Proofs.YtfhoimfjfbbhaaaDoor.Dg
set_option maxRecDepth 100000

/-- What digits stand for, the lowest first. -/
def val : List Nat → Nat
  | [] => 0
  | d :: r => d + 65536 * val r
def dig (n i : Nat) : Nat := n / 65536 ^ i % 65536
/-- How many digits a number has. -/
def dlen (n : Nat) : Nat := if n = 0 then 0 else n.log2 / 16 + 1
def Small16 (ds : List Nat) : Prop := ∀ d ∈ ds, d < 65536

theorem dig_lt (n i : Nat) : dig n i < 65536 := Nat.mod_lt _ (by decide)
theorem dig_zero (i : Nat) : dig 0 i = 0 := by unfold dig; simp
theorem pow16 (k : Nat) : 65536 ^ k = 2 ^ (16 * k) := by rw [Nat.pow_mul]

theorem val_dig : ∀ (ds : List Nat) (i : Nat), Small16 ds → ds.getD i 0 = dig (val ds) i := by
  intro ds
  induction ds with
  | nil => intro i _; simp [val, dig_zero]
  | cons d r ih =>
    intro i hs
    have hd : d < 65536 := hs d (by simp)
    cases i with
    | zero => simp only [List.getD_cons_zero, val, dig, Nat.pow_zero, Nat.div_one]; omega
    | succ i =>
      rw [List.getD_cons_succ, ih i (fun x hx => hs x (by simp [hx]))]
      show dig (val r) i = dig (d + 65536 * val r) (i + 1)
      unfold dig
      rw [Nat.pow_succ', ← Nat.div_div_eq_div_mul, show (d + 65536 * val r) / 65536 = val r by omega]
theorem val_getElem {ds : List Nat} {i : Nat} (hs : Small16 ds) (h : i < ds.length) : ds[i] = dig (val ds) i := by
  rw [← val_dig ds i hs, List.getD_eq_getElem?_getD, List.getElem?_eq_getElem h]; rfl
theorem val_lt : ∀ (ds : List Nat), Small16 ds → val ds < 65536 ^ ds.length := by
  intro ds
  induction ds with
  | nil => intro _; simp [val]
  | cons d r ih =>
    intro hs
    have hd : d < 65536 := hs d (by simp)
    have := ih (fun x hx => hs x (by simp [hx]))
    rw [List.length_cons, Nat.pow_succ']
    unfold val
    omega
theorem val_append : ∀ (xs ys : List Nat), val (xs ++ ys) = val xs + 65536 ^ xs.length * val ys := by
  intro xs ys
  induction xs with
  | nil => simp [val]
  | cons d r ih =>
    rw [List.cons_append, val, val, ih, List.length_cons, Nat.pow_succ', Nat.mul_add, Nat.mul_assoc, Nat.add_assoc]
theorem val_snoc (xs : List Nat) (d : Nat) : val (xs ++ [d]) = val xs + 65536 ^ xs.length * d := by
  rw [val_append]; simp [val]
theorem val_take (ds : List Nat) (k : Nat) (hs : Small16 ds) (hk : k ≤ ds.length) : val (ds.take k) = val ds % 65536 ^ k := by
  have h := val_append (ds.take k) (ds.drop k)
  rw [List.take_append_drop, List.length_take, Nat.min_eq_left hk] at h
  have hl := val_lt (ds.take k) (fun x hx => hs x (List.mem_of_mem_take hx))
  rw [List.length_take, Nat.min_eq_left hk] at hl
  rw [h, Nat.add_mul_mod_self_left, Nat.mod_eq_of_lt hl]
theorem small_take {ds : List Nat} (k : Nat) (hs : Small16 ds) : Small16 (ds.take k) := fun x hx => hs x (List.mem_of_mem_take hx)
theorem small_snoc {ds : List Nat} {d : Nat} (hs : Small16 ds) (hd : d < 65536) : Small16 (ds ++ [d]) := by
  intro x hx
  rcases List.mem_append.1 hx with h | h
  · exact hs x h
  · simp at h; omega
theorem val_replicate (k : Nat) : val (List.replicate k 0) = 0 := by
  induction k with
  | zero => rfl
  | succ k ih => rw [List.replicate_succ, val, ih]
theorem small_replicate (k : Nat) : Small16 (List.replicate k 0) := by
  intro x hx
  rw [List.eq_of_mem_replicate hx]; decide

/-! Digits by their number. -/
theorem dig_step (n i : Nat) : n % 65536 ^ (i + 1) = n % 65536 ^ i + 65536 ^ i * dig n i := by
  unfold dig
  rw [Nat.pow_succ, Nat.mod_mul]
theorem dig_ge {n i : Nat} (h : n < 65536 ^ i) : dig n i = 0 := by
  unfold dig; rw [Nat.div_eq_of_lt h]
theorem lt_of_dig {n i : Nat} (h : n < 65536 ^ (i + 1)) (h0 : dig n i = 0) : n < 65536 ^ i := by
  have := dig_step n i
  rw [h0, Nat.mod_eq_of_lt h] at this
  rw [this]
  exact Nat.mod_lt _ (Nat.pow_pos (by decide))
theorem ge_of_dig {n i : Nat} (h0 : dig n i ≠ 0) : 65536 ^ i ≤ n := by
  rcases Nat.lt_or_ge n (65536 ^ i) with h | h
  · exact absurd (dig_ge h) h0
  · exact h

theorem dlen_lt (n : Nat) : n < 65536 ^ dlen n := by
  unfold dlen
  split
  · rename_i h; subst h; simp
  · rename_i h
    have := Nat.lt_log2_self (n := n)
    rw [pow16]
    exact Nat.lt_of_lt_of_le this (Nat.pow_le_pow_right (by decide) (by omega))
theorem dlen_ge {n k : Nat} (h : 65536 ^ k ≤ n) : k < dlen n := by
  have hn : n ≠ 0 := by have : 0 < 65536 ^ k := Nat.pow_pos (by decide); omega
  unfold dlen
  rw [if_neg hn]
  rw [pow16] at h
  have := (Nat.le_log2 hn).2 h
  omega
theorem dlen_le {n k : Nat} (h : n < 65536 ^ k) : dlen n ≤ k := by
  unfold dlen
  split
  · omega
  · rename_i hn
    rw [pow16] at h
    have := (Nat.log2_lt hn).2 h
    omega
theorem dlen_eq {n k : Nat} (h : n < 65536 ^ k) (h2 : k = 0 ∨ dig n (k - 1) ≠ 0) : k = dlen n := by
  have h1 := dlen_le h
  rcases h2 with h2 | h2
  · omega
  · rcases Nat.eq_zero_or_pos k with k0 | k0
    · omega
    · have := dlen_ge (ge_of_dig h2); omega
theorem dlen_mono {n m : Nat} (h : n ≤ m) : dlen n ≤ dlen m := dlen_le (Nat.lt_of_le_of_lt h (dlen_lt m))
theorem dlen_zero : dlen 0 = 0 := rfl

end Go.Proofs.YtfhoimfjfbbhaaaDoor.Dg

/-
  Digits in memory, and the walks of the reference's smallest functions over them: at, most, Trim.
-/
namespace Go.Proofs.YtfhoimfjfbbhaaaDoor
set_option maxRecDepth 100000
open Go.RowKit Dg

theorem infoU : (Tryd.prog.info? 28).map (fun i => (i.zero, i.size, i.bytes)) = some (some (.int .u64 0), 1, 8) := by kernel_rfl

def cells (ds : List Nat) : List Value := ds.map fun (d : Nat) => Value.int .u64 (d : Int)
/-- The slice v holds digits of the number n, l of them. -/
def D (w : World) (v : Value) (n l : Nat) : Prop :=
  ∃ (ds : List Nat) (g cap : Nat), v = .slice (some ⟨g, 0, none⟩) l cap ∧ ds.length = l ∧ Small16 ds ∧ val ds = n ∧ w.ownsRow 0 28 1 v l (cells ds)

theorem ownsRow_below {w w' : World} {B e s n : Nat} {v : Value} {xs : List Value} (h : w.ownsRow 0 e s v n xs) (hb : Below B w w') (hB : w.heap.size ≤ B) : w'.ownsRow 0 e s v n xs := by
  refine ⟨h.1, ?_⟩
  rcases h.2 with hn | ⟨g, cap, cur, rfl, h0, hg, rest⟩
  · exact .inl hn
  · refine .inr ⟨g, cap, cur, rfl, h0, ?_, rest⟩
    rw [hb.block g (Nat.lt_of_lt_of_le (Array.getElem?_eq_some_iff.1 hg).1 hB)]
    exact hg
theorem D.below {w w' : World} {v : Value} {n l : Nat} (h : D w v n l) (hb : Below w.heap.size w w') : D w' v n l := by
  obtain ⟨ds, g, cap, h1, h2, h3, h4, h5⟩ := h
  exact ⟨ds, g, cap, h1, h2, h3, h4, ownsRow_below h5 hb (Nat.le_refl _)⟩
theorem D.lt {w : World} {v : Value} {n l : Nat} (h : D w v n l) : n < 65536 ^ l := by
  obtain ⟨ds, g, cap, h1, h2, h3, h4, h5⟩ := h
  rw [← h4, ← h2]; exact val_lt ds h3
/-- What a walk wants to know of it. -/
theorem D.shape {w : World} {v : Value} {n l : Nat} (h : D w v n l) : ∃ g cap, v = .slice (some ⟨g, 0, none⟩) l cap ∧ g < w.heap.size ∧ l ≤ cap ∧ cap ≤ maxLen ∧ ∀ i, i < l → w.cell? ⟨g, i, none⟩ = some (.int .u64 (dig n i : Nat)) := by
  obtain ⟨ds, g, cap, rfl, h2, h3, h4, h5⟩ := h
  have hb := h5.lt g rfl
  refine ⟨g, cap, rfl, hb.2, ?_, ?_, ?_⟩
  · rcases h5.2 with ⟨k, _⟩ | ⟨g', cap', cur, e, _, _, r1, r2, _⟩
    · simp at k
    · simp at e; omega
  · rcases h5.2 with ⟨k, _⟩ | ⟨g', cap', cur, e, _, _, r1, r2, _⟩
    · simp at k
    · simp at e; rw [e.2]; exact r2
  · intro i hi
    have hi2 : i < ds.length := by omega
    rw [h5.cellAt i (by omega), cells, List.getElem?_map, List.getElem?_eq_getElem hi2, val_getElem h3 hi2, h4]
    rfl

/-- The slice of no digits. -/
theorem D_empty (w : World) : D (w.alloc (.cells #[] 28)) (.slice (some ⟨w.heap.size, 0, none⟩) 0 0) 0 0 :=
  ⟨[], w.heap.size, 0, rfl, rfl, by intro x hx; simp at hx, rfl, World.ownsRow_made w #[] 0 (Nat.zero_le _) (by decide) rfl⟩

theorem cells_take (ds : List Nat) (k : Nat) : cells (ds.take k) = (cells ds).take k := by unfold cells; rw [List.map_take]
theorem cells_length (ds : List Nat) : (cells ds).length = ds.length := by unfold cells; simp
theorem cells_one (ds : List Nat) : ∀ u ∈ cells ds, u.oneCell' = true := by
  intro u hu
  unfold cells at hu
  obtain ⟨d, _, rfl⟩ := List.mem_map.1 hu
  rfl
/-- A made row, seen as digits. -/
theorem D.of_own {w : World} {v : Value} {ds : List Nat} {l : Nat} (h : w.ownsRow 0 28 1 v l (cells ds)) (hn : v ≠ .slice none 0 0) (hs : Small16 ds) : D w v (val ds) l := by
  have hl : ds.length = l := by have := h.1; rw [cells_length] at this; omega
  rcases h.2 with ⟨k, _⟩ | ⟨g, cap, cur, e, _⟩
  · exact absurd k hn
  · exact ⟨ds, g, cap, e, hl, hs, rfl, h⟩

theorem news_of_own {w : World} {g l cap k : Nat} {ds : List Nat} (h : w.ownsRow 0 28 1 (.slice (some ⟨g, 0, none⟩) l cap) l (cells ds)) (o : Obj) :
    ∀ j u, (cells (ds.take k))[j]? = some u → (w.alloc o).cell? ((⟨g, 0, none⟩ : Addr).add j) = some u := by
  intro j u hu
  refine (h.alloc o).cells (g := g) rfl j u ?_
  rw [cells_take, List.getElem?_take] at hu
  split at hu
  · exact hu
  · cases hu

theorem D.of_own_pos {w : World} {v : Value} {ds : List Nat} {l : Nat} (h : w.ownsRow 0 28 1 v l (cells ds)) (hn : 0 < l) (hs : Small16 ds) : D w v (val ds) l := by
  refine D.of_own h ?_ hs
  intro e
  rcases h.2 with ⟨_, k⟩ | ⟨g, cap, cur, e', _⟩
  · omega
  · rw [e] at e'; cases e'
/-- Behind an append onto a slice that was just made. -/
theorem below_fresh {w w1 : World} {o : Obj} {n c : Nat} (h : (w.alloc o).grownBy w1 (Value.ownBlock (.slice (some ⟨w.heap.size, 0, none⟩) n c))) : Below w.heap.size w w1 :=
  ((Below.refl w.heap.size w).alloc (Nat.le_refl _) o).grown h (by simp) (by intro k hk; simp [Value.ownBlock] at hk; omega)
theorem trim_close {w w1 : World} {v' : Value} {ds : List Nat} {n k : Nat} {o : Obj} (hown : w1.ownsRow 0 28 1 v' (k + 1) (cells (ds.take (k + 1))))
    (hgrow : (w.alloc o).grownBy w1 (Value.ownBlock (.slice (some ⟨w.heap.size, 0, none⟩) 0 0))) (hs : Small16 (ds.take (k + 1))) (hv : val (ds.take (k + 1)) = n ∧ k + 1 = dlen n) :
    D w1 v' n (dlen n) ∧ Below w.heap.size w w1 := by
  have hd := D.of_own_pos hown (by omega) hs
  rw [hv.1, hv.2] at hd
  exact ⟨hd, below_fresh hgrow⟩

end Go.Proofs.YtfhoimfjfbbhaaaDoor

/-
  The walks of the reference's Digits and Sum.
-/
namespace Go.Proofs.YtfhoimfjfbbhaaaDoor
set_option maxRecDepth 100000
open Go.RowKit Dg

theorem and16 (x : Nat) (h : x < 18446744073709551616) : bits .and .u64 (x : Int) 65535 = ((x % 65536 : Nat) : Int) := by
  rw [u64_and _ _ (Int.natCast_nonneg _) (by omega) (by decide) (by decide), Int.toNat_natCast, show (65535 : Int).toNat = 2 ^ 16 - 1 from by decide, Nat.and_two_pow_sub_one_eq_mod]

theorem val_four (a b c d : Nat) : val [a, b, c, d] = a + 65536 * (b + 65536 * (c + 65536 * d)) := by simp [val]

theorem ownsRow_base {w : World} {B e s n : Nat} {v : Value} {xs : List Value} (h : w.ownsRow B e s v n xs) : w.ownsRow 0 e s v n xs := by
  refine ⟨h.1, ?_⟩
  rcases h.2 with hn | ⟨g, cap, cur, rfl, h0, rest⟩
  · exact .inl hn
  · exact .inr ⟨g, cap, cur, rfl, Nat.zero_le _, rest⟩
theorem cells_snoc (ds : List Nat) (d : Nat) : cells ds ++ [.int .u64 (d : Int)] = cells (ds ++ [d]) := by unfold cells; simp
/-- One new cell, where an append lays it. -/
theorem one_new (w : World) (u : Value) (t : TypeId) : ∀ j x, [u][j]? = some x → (w.alloc (.cells #[u] t)).cell? ((⟨w.heap.size, 0, none⟩ : Addr).add j) = some x := by
  intro j x hj
  match j, hj with
  | 0, hj => simp at hj; subst hj; simp [Addr.add]

/-- What a round of Sum does to what was gathered. -/
theorem sum_step {w wr w1 : World} {v v' : Value} {os : List Nat} {k d : Nat} {B : Nat} (hown : wr.ownsRow B 28 1 v k (cells os)) (hb : Below B w wr) (hB : B ≤ wr.heap.size) {o : Obj}
    (hown' : w1.ownsRow B 28 1 v' (k + 1) (cells os ++ [.int .u64 (d : Int)])) (hgrow : (wr.alloc o).grownBy w1 v.ownBlock) :
    w1.ownsRow B 28 1 v' (k + 1) (cells (os ++ [d])) ∧ Below B w w1 ∧ B ≤ w1.heap.size := by
  rw [cells_snoc] at hown'
  refine ⟨hown', (hb.alloc hB o).grown hgrow (by simp; omega) (fun g hg => (hown.lt g hg).1), ?_⟩
  have := hgrow.size
  simp at this
  omega
theorem sum_math {n m k c p q : Nat} {os : List Nat} (hp : p = dig n k) (hq : q = dig m k) (hl : os.length = k) (h : val os + 65536 ^ k * c = n % 65536 ^ k + m % 65536 ^ k) :
    val (os ++ [(p + q + c) % 65536]) + 65536 ^ (k + 1) * ((p + q + c) / 65536) = n % 65536 ^ (k + 1) + m % 65536 ^ (k + 1) := by
  rw [val_snoc, hl, dig_step n k, dig_step m k, ← hp, ← hq, Nat.pow_succ]
  have e : 65536 ^ k * ((p + q + c) % 65536) + 65536 ^ k * 65536 * ((p + q + c) / 65536) = 65536 ^ k * p + 65536 ^ k * q + 65536 ^ k * c := by
    rw [Nat.mul_assoc, ← Nat.mul_add, ← Nat.mul_add, ← Nat.mul_add, Nat.mod_add_div]
  omega

theorem sum_end {w : World} {v : Value} {os : List Nat} {n m j c L : Nat} (h : w.ownsRow 0 28 1 v (j + 1) (cells (os ++ [c]))) (hs : Small16 os) (hc : c ≤ 1) (hl : os.length = j) (hj : j = L)
    (hn : n < 65536 ^ L) (hm : m < 65536 ^ L) (hv : val os + 65536 ^ j * c = n % 65536 ^ j + m % 65536 ^ j) : D w v (n + m) (j + 1) := by
  have hd := D.of_own_pos h (by omega) (small_snoc hs (by omega))
  rw [val_snoc, hl, hv, hj, Nat.mod_eq_of_lt hn, Nat.mod_eq_of_lt hm] at hd
  rw [hj]
  exact hd

end Go.Proofs.YtfhoimfjfbbhaaaDoor

/-
  The walks of the reference's Bit, Len, Small, Sign and Infinite.
-/
namespace Go.Proofs.YtfhoimfjfbbhaaaDoor
set_option maxRecDepth 100000
open Go.RowKit Dg

/-- How many bits a number has. -/
def blen (n : Nat) : Nat := if n = 0 then 0 else n.log2 + 1

theorem bit_dig (n q r : Nat) (hr : r < 16) : dig n q / 2 ^ r % 2 = n / 2 ^ (16 * q + r) % 2 := by
  unfold dig
  rw [pow16, Nat.pow_add, ← Nat.div_div_eq_div_mul]
  generalize n / 2 ^ (16 * q) = x
  have e : 65536 = 2 ^ r * 2 ^ (16 - r) := by rw [← Nat.pow_add, show r + (16 - r) = 16 by omega]
  rw [e, Nat.mod_mul_right_div_self]
  have d : 2 ∣ 2 ^ (16 - r) := by
    rw [show 16 - r = (15 - r) + 1 by omega, Nat.pow_succ]; exact Nat.dvd_mul_left _ _
  exact Nat.mod_mod_of_dvd _ d

theorem and1 (x : Nat) (h : x < 18446744073709551616) : bits .and .u64 (x : Int) 1 = ((x % 2 : Nat) : Int) := by
  rw [u64_and _ _ (Int.natCast_nonneg _) (by omega) (by decide) (by decide), Int.toNat_natCast, show (1 : Int).toNat = 1 from rfl, nat_mask1]

theorem blen_lt (n : Nat) : n < 2 ^ blen n := by
  unfold blen; split
  · rename_i h; subst h; simp
  · exact Nat.lt_log2_self
theorem blen_eq {n k : Nat} (h : n < 2 ^ k) (h2 : k = 0 ∨ n / 2 ^ (k - 1) % 2 = 1) : k = blen n := by
  unfold blen
  rcases Nat.eq_zero_or_pos k with k0 | k0
  · subst k0
    have : n = 0 := by simpa using h
    rw [if_pos this]
  · rcases h2 with h2 | h2
    · omega
    · have hge : 2 ^ (k - 1) ≤ n := by
        rcases Nat.lt_or_ge n (2 ^ (k - 1)) with hh | hh
        · rw [Nat.div_eq_of_lt hh] at h2; omega
        · exact hh
      have hn : n ≠ 0 := by have := Nat.two_pow_pos (k - 1); omega
      rw [if_neg hn]
      have := (Nat.log2_eq_iff hn).2 ⟨hge, by rw [show k - 1 + 1 = k by omega]; exact h⟩
      omega
theorem lt_of_bit {n k : Nat} (h : n < 2 ^ (k + 1)) (h2 : n / 2 ^ k % 2 = 0) : n < 2 ^ k := by
  have hq : n / 2 ^ k < 2 := (Nat.div_lt_iff_lt_mul (Nat.two_pow_pos k)).2 (by rw [← Nat.pow_succ']; exact h)
  rcases Nat.lt_or_ge n (2 ^ k) with hh | hh
  · exact hh
  · have := (Nat.le_div_iff_mul_le (Nat.two_pow_pos k)).2 (show 1 * 2 ^ k ≤ n by omega)
    generalize n / 2 ^ k = z at *
    omega

theorem join4 (n : Nat) (h : n < 18446744073709551616) : ((dig n 0 ||| dig n 1 * 65536) ||| dig n 2 * 4294967296) ||| dig n 3 * 281474976710656 = n := by
  have d0 := dig_lt n 0
  have d1 := dig_lt n 1
  have d2 := dig_lt n 2
  have d3 := dig_lt n 3
  rw [Nat.or_comm (dig n 0), nat_join 16 (dig n 1 * 65536) (dig n 0) (by omega) (by omega)]
  rw [Nat.or_comm _ (dig n 2 * 4294967296), nat_join 32 (dig n 2 * 4294967296) _ (by omega) (by omega)]
  rw [Nat.or_comm _ (dig n 3 * 281474976710656), nat_join 48 (dig n 3 * 281474976710656) _ (by omega) (by omega)]
  unfold dig
  simp only [Nat.pow_zero, Nat.div_one, Nat.pow_one]
  omega

theorem or_nat (a b : Nat) (ha : a < 18446744073709551616) (hb : b < 18446744073709551616) (B : Int) (e : B = (b : Int)) : bits .or .u64 (a : Int) B = ((a ||| b : Nat) : Int) := by
  subst e
  exact u64_or_nat a b ha hb

end Go.Proofs.YtfhoimfjfbbhaaaDoor

/-
  The walk of the reference's Down.
-/
namespace Go.Proofs.YtfhoimfjfbbhaaaDoor
set_option maxRecDepth 100000
open Go.RowKit Dg

theorem low_step (n j : Nat) : n % 2 ^ (j + 1) = n % 2 ^ j + 2 ^ j * (n / 2 ^ j % 2) := by rw [Nat.pow_succ, Nat.mod_mul]

theorem lost_step {n j : Nat} {lo : Bool} {b : Nat} (hl : lo = decide (n % 2 ^ j ≠ 0)) (hb : b = n / 2 ^ j % 2) : (lo || (b == 1)) = decide (n % 2 ^ (j + 1) ≠ 0) := by
  have hp := Nat.two_pow_pos j
  rw [low_step, ← hb, hl, Bool.eq_iff_iff]
  simp only [ne_eq, Bool.or_eq_true, decide_eq_true_eq, beq_iff_eq]
  have hb2 : b = 0 ∨ b = 1 := by rw [hb]; omega
  rcases hb2 with h | h
  · subst h; simp
  · subst h; simp
theorem lost_end {n l k j : Nat} (hn : n < 2 ^ (16 * l)) (hj : j ≤ k) (h : ¬ (j < k ∧ j < 16 * l)) : decide (n % 2 ^ j ≠ 0) = decide (n % 2 ^ k ≠ 0) := by
  by_cases c : j = k
  · rw [c]
  · have h1 : 2 ^ (16 * l) ≤ 2 ^ j := Nat.pow_le_pow_right (by decide) (by omega)
    have h2 : 2 ^ (16 * l) ≤ 2 ^ k := Nat.pow_le_pow_right (by decide) (by omega)
    rw [Nat.mod_eq_of_lt (by omega), Nat.mod_eq_of_lt (by omega)]

theorem bits_join {n s t x b : Nat} (hx : x = n / 2 ^ s % 2 ^ t) (hb : b = n / 2 ^ (s + t) % 2) (ht : t < 16) :
    bits .or .u64 (x : Int) (IntKind.u64.wrap ((b : Int) * 2 ^ t)) = ((n / 2 ^ s % 2 ^ (t + 1) : Nat) : Int) := by
  have hp : 2 ^ t ≤ 32768 := by
    have := Nat.pow_le_pow_right (n := 2) (by decide) (show t ≤ 15 by omega)
    omega
  have hx2 : x < 2 ^ t := by rw [hx]; exact Nat.mod_lt _ (Nat.two_pow_pos t)
  have hb2 : b ≤ 1 := by rw [hb]; omega
  have hbp : b * 2 ^ t ≤ 32768 := Nat.le_trans (Nat.mul_le_mul_right _ hb2) (by omega)
  have e : IntKind.u64.wrap ((b : Int) * 2 ^ t) = ((b * 2 ^ t : Nat) : Int) := by
    rw [IntKind.wrap_u64, show (b : Int) * 2 ^ t = ((b * 2 ^ t : Nat) : Int) by rw [Int.natCast_mul, Int.natCast_pow]; rfl]
    omega
  rw [e, u64_or_nat x _ (by omega) (by omega), Nat.or_comm, nat_join t _ _ (Nat.mul_mod_left _ _) hx2, low_step, ← hx]
  congr 1
  rw [Nat.add_comm, Nat.mul_comm b, hb, Nat.div_div_eq_div_mul, ← Nat.pow_add]

theorem down_digit {n k j : Nat} : n / 2 ^ (k + 16 * j) % 2 ^ 16 = dig (n / 2 ^ k) j := by
  unfold dig
  rw [pow16, Nat.div_div_eq_div_mul, ← Nat.pow_add]
theorem down_val {m j : Nat} {os : List Nat} (hl : os.length = j) (hv : val os = m % 65536 ^ j) : val (os ++ [dig m j]) = m % 65536 ^ (j + 1) := by
  rw [val_snoc, hl, hv, dig_step]

theorem down_end {w : World} {v : Value} {os : List Nat} {n l k j : Nat} (h : w.ownsRow 0 28 1 v j (cells os)) (hnil : v ≠ .slice none 0 0) (hs : Small16 os) (hv : val os = n / 2 ^ k % 65536 ^ j) (hn : n < 2 ^ (16 * l)) (hj : 16 * l ≤ k + 16 * j) : D w v (n / 2 ^ k) j := by
  have hd := D.of_own h hnil hs
  have : n / 2 ^ k < 65536 ^ j := by
    rw [pow16]
    refine (Nat.div_lt_iff_lt_mul (Nat.two_pow_pos k)).2 ?_
    rw [← Nat.pow_add]
    exact Nat.lt_of_lt_of_le hn (Nat.pow_le_pow_right (by decide) (by omega))
  rw [hv, Nat.mod_eq_of_lt this] at hd
  exact hd

theorem own_pos {w : World} {B e n : Nat} {v : Value} {xs : List Value} (h : w.ownsRow B e 1 v (n + 1) xs) : v ≠ .slice none 0 0 := by
  intro k
  rcases h.2 with ⟨_, k2⟩ | ⟨g, cap, cur, e', _⟩
  · omega
  · rw [k] at e'; cases e'

end Go.Proofs.YtfhoimfjfbbhaaaDoor
