/-
  FloRung, Dig, DigWalk, DigSum, DigBit, DigDown
-/
import Derived.Laws.BitsAllLaws
import Derived.Test.YtjkedocppbcncaaDoorRows
import Derived.WalkKit
import Derived.WalkSpells
import Derived.WalkLawsBesides
import Derived.Deep.Light
import Derived.Test.YtjkedocppbcncaaDoorZ01

/-
  Plain mathematics: the rung of a whole number times a power of two.
-/
namespace Go.Proofs.YtjkedocppbcncaaDoor.Flo
set_option maxRecDepth 100000

/-- How many places below the least number's place the units lie. -/
def G : Nat := 300
theorem G_eq : G = 300 := rfl

theorem scaled_lt {n L E : Nat} (h : n < 2 ^ L) : n * 2 ^ E < 2 ^ (L + E) := by
  rw [Nat.pow_add]; exact Nat.mul_lt_mul_of_pos_right h (Nat.two_pow_pos E)
theorem scaled_ge {n L E : Nat} (h : 2 ^ L ≤ n) : 2 ^ (L + E) ≤ n * 2 ^ E := by
  rw [Nat.pow_add]; exact Nat.mul_le_mul_right _ h

theorem rne_up {n E d : Nat} (h : d ≤ E) : rne (n * 2 ^ E) d = n * 2 ^ (E - d) := by
  have e : n * 2 ^ E = n * 2 ^ (E - d) * 2 ^ d := by rw [Nat.mul_assoc, ← Nat.pow_add, show E - d + d = E by omega]
  rw [e, rne_exact]
theorem rne_down {n E d : Nat} (h : E ≤ d) : rne (n * 2 ^ E) d = rne n (d - E) := by
  have e := rne_scale n (d - E) E
  rw [show d - E + E = d by omega] at e
  exact e

theorem low_a {g n L E : Nat} (h : n < 2 ^ L) (hc : L + E ≤ g + 53) : lowest g (n * 2 ^ E) = g :=
  lowest_low (Nat.lt_of_lt_of_le (scaled_lt h) (Nat.pow_le_pow_right (by decide) hc))
theorem low_b {g n L E : Nat} (h0 : 2 ^ L ≤ n) (h : n < 2 ^ (L + 1)) (hc : g + 53 ≤ L + 1 + E) : lowest g (n * 2 ^ E) = L + 1 + E - 53 := by
  rcases Nat.lt_or_ge (g + 53) (L + 1 + E) with k | k
  · refine lowest_high (by omega) ?_ ?_
    · rw [show L + 1 + E - 53 + 52 = L + E by omega]; exact scaled_ge h0
    · rw [show L + 1 + E - 53 + 53 = L + 1 + E by omega]; exact scaled_lt h
  · rw [low_a h (by omega)]; omega

/-- The four ways, in the code's own words. -/
theorem rung_a0 {g n L E : Nat} (h0 : 2 ^ L ≤ n) (h : n < 2 ^ (L + 1)) (hc : g + 53 ≤ L + 1 + E) (hl : L + 1 ≤ 53) :
    rung g (n * 2 ^ E) = min ((L + 1 + E - 53 - g) * 4503599627370496 + n * 2 ^ (53 - (L + 1))) 9218868437227405312 := by
  unfold rung
  rw [low_b h0 h hc, rne_up (by omega), show E - (L + 1 + E - 53) = 53 - (L + 1) by omega]
theorem rung_a1 {g n L E : Nat} (h0 : 2 ^ L ≤ n) (h : n < 2 ^ (L + 1)) (hc : g + 53 ≤ L + 1 + E) (hl : 53 ≤ L + 1) :
    rung g (n * 2 ^ E) = min ((L + 1 + E - 53 - g) * 4503599627370496 + rne n (L + 1 - 53)) 9218868437227405312 := by
  unfold rung
  rw [low_b h0 h hc, rne_down (by omega), show L + 1 + E - 53 - E = L + 1 - 53 by omega]
theorem rung_b0 {g n L E : Nat} (h : n < 2 ^ L) (hc : L + E ≤ g + 53) (hl : g ≤ E) :
    rung g (n * 2 ^ E) = min (n * 2 ^ (E - g)) 9218868437227405312 := by
  unfold rung
  rw [low_a h hc, rne_up hl, Nat.sub_self, Nat.zero_mul, Nat.zero_add]
theorem rung_b1 {g n L E : Nat} (h : n < 2 ^ L) (hc : L + E ≤ g + 53) (hl : E ≤ g) :
    rung g (n * 2 ^ E) = min (rne n (g - E)) 9218868437227405312 := by
  unfold rung
  rw [low_a h hc, rne_down hl, Nat.sub_self, Nat.zero_mul, Nat.zero_add]

theorem kept_a0 {n L : Nat} (h : n < 2 ^ (L + 1)) (hl : L + 1 ≤ 53) : n * 2 ^ (53 - (L + 1)) < 9007199254740992 := by
  have := scaled_lt (E := 53 - (L + 1)) h
  rw [show L + 1 + (53 - (L + 1)) = 53 by omega] at this
  omega
theorem kept_b0 {g n L E : Nat} (h : n < 2 ^ L) (hc : L + E ≤ g + 53) (hl : g ≤ E) : n * 2 ^ (E - g) < 9007199254740992 := by
  have := scaled_lt (E := E - g) h
  have k : 2 ^ (L + (E - g)) ≤ 2 ^ 53 := Nat.pow_le_pow_right (by decide) (by omega)
  omega
theorem kept_1 {n L d : Nat} (h : n < 2 ^ L) (hc : L ≤ d + 53) : rne n d ≤ 9007199254740992 :=
  rne_le (Nat.lt_of_lt_of_le h (Nat.pow_le_pow_right (by decide) hc))

end Go.Proofs.YtjkedocppbcncaaDoor.Flo

/-
  Plain mathematics of digits of 16 bits. No Go in sight.
-/
namespace Go.Proofs.YtjkedocppbcncaaDoor.Dg
set_option maxRecDepth 100000

/-- What digits stand for, the lowest first. -/
def val : List Nat → Nat
  | [] => 0
  | d :: r => d + 65536 * val r
def dig (n i : Nat) : Nat := n / 65536 ^ i % 65536
/-- How many digits a number has. -/
def dlen (n : Nat) : Nat := if n = 0 then 0 else n.log2 / 16 + 1
def Small16 (ds : List Nat) : Prop := ∀ d ∈ ds, d < 65536

theorem dig_lt (n i : Nat) : dig n i < 65536 := Nat.mod_lt _ (by decide)
theorem dig_zero (i : Nat) : dig 0 i = 0 := by unfold dig; simp
theorem pow16 (k : Nat) : 65536 ^ k = 2 ^ (16 * k) := by rw [Nat.pow_mul]

theorem val_dig : ∀ (ds : List Nat) (i : Nat), Small16 ds → ds.getD i 0 = dig (val ds) i := by
  intro ds
  induction ds with
  | nil => intro i _; simp [val, dig_zero]
  | cons d r ih =>
    intro i hs
    have hd : d < 65536 := hs d (by simp)
    cases i with
    | zero => simp only [List.getD_cons_zero, val, dig, Nat.pow_zero, Nat.div_one]; omega
    | succ i =>
      rw [List.getD_cons_succ, ih i (fun x hx => hs x (by simp [hx]))]
      show dig (val r) i = dig (d + 65536 * val r) (i + 1)
      unfold dig
      rw [Nat.pow_succ', ← Nat.div_div_eq_div_mul, show (d + 65536 * val r) / 65536 = val r by omega]
theorem val_getElem {ds : List Nat} {i : Nat} (hs : Small16 ds) (h : i < ds.length) : ds[i] = dig (val ds) i := by
  rw [← val_dig ds i hs, List.getD_eq_getElem?_getD, List.getElem?_eq_getElem h]; rfl
theorem val_lt : ∀ (ds : List Nat), Small16 ds → val ds < 65536 ^ ds.length := by
  intro ds
  induction ds with
  | nil => intro _; simp [val]
  | cons d r ih =>
    intro hs
    have hd : d < 65536 := hs d (by simp)
    have := ih (fun x hx => hs x (by simp [hx]))
    rw [List.length_cons, Nat.pow_succ']
    unfold val
    omega
theorem val_append : ∀ (xs ys : List Nat), val (xs ++ ys) = val xs + 65536 ^ xs.length * val ys := by
  intro xs ys
  induction xs with
  | nil => simp [val]
  | cons d r ih =>
    rw [List.cons_append, val, val, ih, List.length_cons, Nat.pow_succ', Nat.mul_add, Nat.mul_assoc, Nat.add_assoc]
theorem val_snoc (xs : List Nat) (d : Nat) : val (xs ++ [d]) = val xs + 65536 ^ xs.length * d := by
  rw [val_append]; simp [val]
theorem val_take (ds : List Nat) (k : Nat) (hs : Small16 ds) (hk : k ≤ ds.length) : val (ds.take k) = val ds % 65536 ^ k := by
  have h := val_append (ds.take k) (ds.drop k)
  rw [List.take_append_drop, List.length_take, Nat.min_eq_left hk] at h
  have hl := val_lt (ds.take k) (fun x hx => hs x (List.mem_of_mem_take hx))
  rw [List.length_take, Nat.min_eq_left hk] at hl
  rw [h, Nat.add_mul_mod_self_left, Nat.mod_eq_of_lt hl]
theorem small_take {ds : List Nat} (k : Nat) (hs : Small16 ds) : Small16 (ds.take k) := fun x hx => hs x (List.mem_of_mem_take hx)
theorem small_snoc {ds : List Nat} {d : Nat} (hs : Small16 ds) (hd : d < 65536) : Small16 (ds ++ [d]) := by
  intro x hx
  rcases List.mem_append.1 hx with h | h
  · exact hs x h
  · simp at h; omega
theorem val_replicate (k : Nat) : val (List.replicate k 0) = 0 := by
  induction k with
  | zero => rfl
  | succ k ih => rw [List.replicate_succ, val, ih]
theorem small_replicate (k : Nat) : Small16 (List.replicate k 0) := by
  intro x hx
  rw [List.eq_of_mem_replicate hx]; decide

/-! Digits by their number. -/
theorem dig_step (n i : Nat) : n % 65536 ^ (i + 1) = n % 65536 ^ i + 65536 ^ i * dig n i := by
  unfold dig
  rw [Nat.pow_succ, Nat.mod_mul]
theorem dig_ge {n i : Nat} (h : n < 65536 ^ i) : dig n i = 0 := by
  unfold dig; rw [Nat.div_eq_of_lt h]
theorem lt_of_dig {n i : Nat} (h : n < 65536 ^ (i + 1)) (h0 : dig n i = 0) : n < 65536 ^ i := by
  have := dig_step n i
  rw [h0, Nat.mod_eq_of_lt h] at this
  rw [this]
  exact Nat.mod_lt _ (Nat.pow_pos (by decide))
theorem ge_of_dig {n i : Nat} (h0 : dig n i ≠ 0) : 65536 ^ i ≤ n := by
  rcases Nat.lt_or_ge n (65536 ^ i) with h | h
  · exact absurd (dig_ge h) h0
  · exact h

theorem dlen_lt (n : Nat) : n < 65536 ^ dlen n := by
  unfold dlen
  split
  · rename_i h; subst h; simp
  · rename_i h
    have := Nat.lt_log2_self (n := n)
    rw [pow16]
    exact Nat.lt_of_lt_of_le this (Nat.pow_le_pow_right (by decide) (by omega))
theorem dlen_ge {n k : Nat} (h : 65536 ^ k ≤ n) : k < dlen n := by
  have hn : n ≠ 0 := by have : 0 < 65536 ^ k := Nat.pow_pos (by decide); omega
  unfold dlen
  rw [if_neg hn]
  rw [pow16] at h
  have := (Nat.le_log2 hn).2 h
  omega
theorem dlen_le {n k : Nat} (h : n < 65536 ^ k) : dlen n ≤ k := by
  unfold dlen
  split
  · omega
  · rename_i hn
    rw [pow16] at h
    have := (Nat.log2_lt hn).2 h
    omega
theorem dlen_eq {n k : Nat} (h : n < 65536 ^ k) (h2 : k = 0 ∨ dig n (k - 1) ≠ 0) : k = dlen n := by
  have h1 := dlen_le h
  rcases h2 with h2 | h2
  · omega
  · rcases Nat.eq_zero_or_pos k with k0 | k0
    · omega
    · have := dlen_ge (ge_of_dig h2); omega
theorem dlen_mono {n m : Nat} (h : n ≤ m) : dlen n ≤ dlen m := dlen_le (Nat.lt_of_le_of_lt h (dlen_lt m))
theorem dlen_zero : dlen 0 = 0 := rfl

end Go.Proofs.YtjkedocppbcncaaDoor.Dg

/-
  Digits in memory, and the walks of the reference's smallest functions over them: at, most, Trim.
-/
namespace Go.Proofs.YtjkedocppbcncaaDoor
set_option maxRecDepth 100000
open Go.RowKit Dg

theorem infoU : (Tryd.prog.info? 32).map (fun i => (i.zero, i.size, i.bytes)) = some (some (.int .u64 0), 1, 8) := by kernel_rfl

def cells (ds : List Nat) : List Value := ds.map fun (d : Nat) => Value.int .u64 (d : Int)
/-- The slice v holds digits of the number n, l of them. -/
def D (w : World) (v : Value) (n l : Nat) : Prop :=
  ∃ (ds : List Nat) (g cap : Nat), v = .slice (some ⟨g, 0, none⟩) l cap ∧ ds.length = l ∧ Small16 ds ∧ val ds = n ∧ w.ownsRow 0 32 1 v l (cells ds)

theorem ownsRow_below {w w' : World} {B e s n : Nat} {v : Value} {xs : List Value} (h : w.ownsRow 0 e s v n xs) (hb : Below B w w') (hB : w.heap.size ≤ B) : w'.ownsRow 0 e s v n xs := by
  refine ⟨h.1, ?_⟩
  rcases h.2 with hn | ⟨g, cap, cur, rfl, h0, hg, rest⟩
  · exact .inl hn
  · refine .inr ⟨g, cap, cur, rfl, h0, ?_, rest⟩
    rw [hb.block g (Nat.lt_of_lt_of_le (Array.getElem?_eq_some_iff.1 hg).1 hB)]
    exact hg
theorem D.below {w w' : World} {v : Value} {n l : Nat} (h : D w v n l) (hb : Below w.heap.size w w') : D w' v n l := by
  obtain ⟨ds, g, cap, h1, h2, h3, h4, h5⟩ := h
  exact ⟨ds, g, cap, h1, h2, h3, h4, ownsRow_below h5 hb (Nat.le_refl _)⟩
theorem D.lt {w : World} {v : Value} {n l : Nat} (h : D w v n l) : n < 65536 ^ l := by
  obtain ⟨ds, g, cap, h1, h2, h3, h4, h5⟩ := h
  rw [← h4, ← h2]; exact val_lt ds h3
/-- What a walk wants to know of it. -/
theorem D.shape {w : World} {v : Value} {n l : Nat} (h : D w v n l) : ∃ g cap, v = .slice (some ⟨g, 0, none⟩) l cap ∧ g < w.heap.size ∧ l ≤ cap ∧ cap ≤ maxLen ∧ ∀ i, i < l → w.cell? ⟨g, i, none⟩ = some (.int .u64 (dig n i : Nat)) := by
  obtain ⟨ds, g, cap, rfl, h2, h3, h4, h5⟩ := h
  have hb := h5.lt g rfl
  refine ⟨g, cap, rfl, hb.2, ?_, ?_, ?_⟩
  · rcases h5.2 with ⟨k, _⟩ | ⟨g', cap', cur, e, _, _, r1, r2, _⟩
    · simp at k
    · simp at e; omega
  · rcases h5.2 with ⟨k, _⟩ | ⟨g', cap', cur, e, _, _, r1, r2, _⟩
    · simp at k
    · simp at e; rw [e.2]; exact r2
  · intro i hi
    have hi2 : i < ds.length := by omega
    rw [h5.cellAt i (by omega), cells, List.getElem?_map, List.getElem?_eq_getElem hi2, val_getElem h3 hi2, h4]
    rfl

theorem at_any (v : Value) (n l : Nat) (i : Int) (w : World) (hD : D w v n l) (h0 : 0 ≤ i) :
    Calls Tryd.prog 81 #[v, .int .i64 i] w fun e w' => e = .returned (.int .u64 (dig n i.toNat : Nat)) ∧ w' = w := by
  obtain ⟨g, cap, rfl, hg, hlc, hcm, hcell⟩ := hD.shape
  have hlt := hD.lt
  unfold maxLen at hcm
  obtain ⟨k, rfl⟩ := Int.eq_ofNat_of_zero_le h0
  rw [Int.toNat_natCast]
  by_cases c : k < l
  · have hc := hcell k c
    clear hcell hlt
    generalize dig n k = d at *
    go_enter Tryd.func81, Tryd.ntmps81
    go_wp2
    go_ret
    exact ⟨rfl, rfl⟩
  · have hz : dig n k = 0 := dig_ge (Nat.lt_of_lt_of_le hlt (Nat.pow_le_pow_right (by decide) (by omega)))
    rw [hz]
    clear hcell hlt hz
    go_enter Tryd.func81, Tryd.ntmps81
    go_wp2
    go_ret
    exact ⟨rfl, rfl⟩

/-- The slice of no digits. -/
theorem D_empty (w : World) : D (w.alloc (.cells #[] 32)) (.slice (some ⟨w.heap.size, 0, none⟩) 0 0) 0 0 :=
  ⟨[], w.heap.size, 0, rfl, rfl, by intro x hx; simp at hx, rfl, World.ownsRow_made w #[] 0 (Nat.zero_le _) (by decide) rfl⟩

theorem cells_take (ds : List Nat) (k : Nat) : cells (ds.take k) = (cells ds).take k := by unfold cells; rw [List.map_take]
theorem cells_length (ds : List Nat) : (cells ds).length = ds.length := by unfold cells; simp
theorem cells_one (ds : List Nat) : ∀ u ∈ cells ds, u.oneCell' = true := by
  intro u hu
  unfold cells at hu
  obtain ⟨d, _, rfl⟩ := List.mem_map.1 hu
  rfl
/-- A made row, seen as digits. -/
theorem D.of_own {w : World} {v : Value} {ds : List Nat} {l : Nat} (h : w.ownsRow 0 32 1 v l (cells ds)) (hn : v ≠ .slice none 0 0) (hs : Small16 ds) : D w v (val ds) l := by
  have hl : ds.length = l := by have := h.1; rw [cells_length] at this; omega
  rcases h.2 with ⟨k, _⟩ | ⟨g, cap, cur, e, _⟩
  · exact absurd k hn
  · exact ⟨ds, g, cap, e, hl, hs, rfl, h⟩

theorem news_of_own {w : World} {g l cap k : Nat} {ds : List Nat} (h : w.ownsRow 0 32 1 (.slice (some ⟨g, 0, none⟩) l cap) l (cells ds)) (o : Obj) :
    ∀ j u, (cells (ds.take k))[j]? = some u → (w.alloc o).cell? ((⟨g, 0, none⟩ : Addr).add j) = some u := by
  intro j u hu
  refine (h.alloc o).cells (g := g) rfl j u ?_
  rw [cells_take, List.getElem?_take] at hu
  split at hu
  · exact hu
  · cases hu

theorem D.of_own_pos {w : World} {v : Value} {ds : List Nat} {l : Nat} (h : w.ownsRow 0 32 1 v l (cells ds)) (hn : 0 < l) (hs : Small16 ds) : D w v (val ds) l := by
  refine D.of_own h ?_ hs
  intro e
  rcases h.2 with ⟨_, k⟩ | ⟨g, cap, cur, e', _⟩
  · omega
  · rw [e] at e'; cases e'
/-- Behind an append onto a slice that was just made. -/
theorem below_fresh {w w1 : World} {o : Obj} {n c : Nat} (h : (w.alloc o).grownBy w1 (Value.ownBlock (.slice (some ⟨w.heap.size, 0, none⟩) n c))) : Below w.heap.size w w1 :=
  ((Below.refl w.heap.size w).alloc (Nat.le_refl _) o).grown h (by simp) (by intro k hk; simp [Value.ownBlock] at hk; omega)
theorem trim_close {w w1 : World} {v' : Value} {ds : List Nat} {n k : Nat} {o : Obj} (hown : w1.ownsRow 0 32 1 v' (k + 1) (cells (ds.take (k + 1))))
    (hgrow : (w.alloc o).grownBy w1 (Value.ownBlock (.slice (some ⟨w.heap.size, 0, none⟩) 0 0))) (hs : Small16 (ds.take (k + 1))) (hv : val (ds.take (k + 1)) = n ∧ k + 1 = dlen n) :
    D w1 v' n (dlen n) ∧ Below w.heap.size w w1 := by
  have hd := D.of_own_pos hown (by omega) hs
  rw [hv.1, hv.2] at hd
  exact ⟨hd, below_fresh hgrow⟩

set_option maxHeartbeats 400000 in
theorem trim_any (v : Value) (n l : Nat) (w : World) (hD : D w v n l) (hl : l ≤ 1073741824) :
    Calls Tryd.prog 79 #[v] w fun e w' => ∃ v', e = .returned v' ∧ D w' v' n (dlen n) ∧ Below w.heap.size w w' := by
  have hsh := hD.shape
  have hlt := hD.lt
  obtain ⟨ds, g, cap, rfl, hlen, hsm, hval, hown⟩ := hD
  obtain ⟨g', cap', hv', hg, hlc, hcm, hcell⟩ := hsh
  obtain ⟨rfl, rfl⟩ : g = g' ∧ cap = cap' := by simpa using hv'
  clear hv'
  unfold maxLen at hcm
  obtain ⟨i0, hi, hz0, hz1, hz2⟩ := info_parts infoU
  go_enter Tryd.func79, Tryd.ntmps79
  go_wp2
  go_loop [3] (fun t => ∃ k : Nat, k ≤ l ∧ t = .int .i64 k ∧ n < 65536 ^ k) (fun t => (intOf t).toNat)
  case atStart => exact ⟨l, Nat.le_refl _, rfl, hlt⟩
  case round =>
    obtain ⟨k, hk, rfl, hn⟩ := hrel
    cases k with
    | zero =>
      have hz : n = 0 := by simpa using hn
      clear hcell
      go_wp2
      go_ret
      refine ⟨_, rfl, ?_, (Below.refl _ _).alloc (Nat.le_refl _) _⟩
      exact D_empty w
    | succ k =>
      have hc := hcell k (by omega)
      clear hcell
      by_cases c : dig n k = 0
      · rw [c] at hc
        go_wp2
        go_round
        case rel => exact ⟨k, by omega, by go_num, lt_of_dig hn c⟩
        case measure => simp [intOf]
      · have hcz : (((dig n k : Nat) : Int) == 0) = false := by rw [beq_eq_false_iff_ne]; omega
        have hds : (cells (ds.take (k + 1))).length = (k + 1) * 1 := by rw [cells_length, List.length_take]; omega
        have HN : Hid (∀ j u, (cells (ds.take (k + 1)))[j]? = some u → (w.alloc (.cells #[] 32)).cell? ((⟨g, 0, none⟩ : Addr).add j) = some u) := news_of_own hown _
        have hm : (w.alloc (.cells #[] 32)).ownsRow 0 32 1 (.slice (some ⟨w.heap.size, 0, none⟩) 0 0) 0 [] := World.ownsRow_made w #[] 0 (Nat.zero_le _) (by decide) rfl
        have h1 := cells_one (ds.take (k + 1))
        have hv : val (ds.take (k + 1)) = n := by rw [val_take ds (k + 1) hsm (by omega), hval, Nat.mod_eq_of_lt hn]
        have hlast : k + 1 = dlen n := dlen_eq hn (Or.inr (by simpa using c))
        have HV : Hid (val (ds.take (k + 1)) = n ∧ k + 1 = dlen n) := ⟨hv, hlast⟩
        have hs := small_take (k + 1) hsm
        clear hv hlast
        go_wp2_with (at_builtin; refine wpList_append_own _ rfl _ _ 68 rfl 0 32 i0 (.int .u64 0) 1 8 Tryd.underlying68 hi hz0 hz1 hz2 rfl (by decide) _ 0 [] rfl hm ⟨g, 0, none⟩ (k + 1) cap (cells (ds.take (k + 1))) rfl hds HN.out h1 (by unfold maxLen; omega) (by omega) (by simp) ?_)
        intro v' w1 hown' hgrow _
        have R := trim_close hown' hgrow hs HV.out
        clear hown' hgrow
        go_wp2
        go_ret
        exact ⟨_, rfl, R⟩

end Go.Proofs.YtjkedocppbcncaaDoor

/-
  The walks of the reference's Digits and Sum.
-/
namespace Go.Proofs.YtjkedocppbcncaaDoor
set_option maxRecDepth 100000
open Go.RowKit Dg

theorem and16 (x : Nat) (h : x < 18446744073709551616) : bits .and .u64 (x : Int) 65535 = ((x % 65536 : Nat) : Int) := by
  rw [u64_and _ _ (Int.natCast_nonneg _) (by omega) (by decide) (by decide), Int.toNat_natCast, show (65535 : Int).toNat = 2 ^ 16 - 1 from by decide, Nat.and_two_pow_sub_one_eq_mod]

theorem val_four (a b c d : Nat) : val [a, b, c, d] = a + 65536 * (b + 65536 * (c + 65536 * d)) := by simp [val]

theorem digits_any (n : Nat) (w : World) (h : n < 18446744073709551616) :
    Calls Tryd.prog 57 #[.int .u64 n] w fun e w' => ∃ v', e = .returned v' ∧ D w' v' n 4 ∧ Below w.heap.size w w' := by
  obtain ⟨a, ha⟩ : ∃ a, a = n % 65536 := ⟨_, rfl⟩
  obtain ⟨b, hb⟩ : ∃ a, a = n / 65536 % 65536 := ⟨_, rfl⟩
  obtain ⟨c, hc⟩ : ∃ a, a = n / 4294967296 % 65536 := ⟨_, rfl⟩
  obtain ⟨d, hd⟩ : ∃ a, a = n / 281474976710656 := ⟨_, rfl⟩
  have h1 : bits .and .u64 (n : Int) 65535 = (a : Int) := by rw [and16 n h, ha]
  have h2 : bits .and .u64 ((n : Int) / 65536) 65535 = (b : Int) := by
    have := and16 (n / 65536) (by omega)
    rw [hb, ← this]; rfl
  have h3 : bits .and .u64 ((n : Int) / 4294967296) 65535 = (c : Int) := by
    have := and16 (n / 4294967296) (by omega)
    rw [hc, ← this]; rfl
  have h4 : (n : Int) / 281474976710656 = (d : Int) := by rw [hd]; rfl
  have R : D (w.alloc (.cells #[.int .u64 a, .int .u64 b, .int .u64 c, .int .u64 d] 32)) (.slice (some ⟨w.heap.size, 0, none⟩) 4 4) n 4 := by
    refine ⟨[a, b, c, d], w.heap.size, 4, rfl, rfl, ?_, ?_, World.ownsRow_lit w #[.int .u64 a, .int .u64 b, .int .u64 c, .int .u64 d] 4 (Nat.zero_le _) (by decide) rfl⟩
    · intro x hx
      simp at hx
      omega
    · rw [val_four]; omega
  clear ha hb hc hd
  go_enter Tryd.func57, Tryd.ntmps57
  go_wp2
  go_ret
  exact ⟨_, rfl, R, (Below.refl _ _).alloc (Nat.le_refl _) _⟩

theorem ownsRow_base {w : World} {B e s n : Nat} {v : Value} {xs : List Value} (h : w.ownsRow B e s v n xs) : w.ownsRow 0 e s v n xs := by
  refine ⟨h.1, ?_⟩
  rcases h.2 with hn | ⟨g, cap, cur, rfl, h0, rest⟩
  · exact .inl hn
  · exact .inr ⟨g, cap, cur, rfl, Nat.zero_le _, rest⟩
theorem cells_snoc (ds : List Nat) (d : Nat) : cells ds ++ [.int .u64 (d : Int)] = cells (ds ++ [d]) := by unfold cells; simp
/-- One new cell, where an append lays it. -/
theorem one_new (w : World) (u : Value) (t : TypeId) : ∀ j x, [u][j]? = some x → (w.alloc (.cells #[u] t)).cell? ((⟨w.heap.size, 0, none⟩ : Addr).add j) = some x := by
  intro j x hj
  match j, hj with
  | 0, hj => simp at hj; subst hj; simp [Addr.add]

/-- What a round of Sum does to what was gathered. -/
theorem sum_step {w wr w1 : World} {v v' : Value} {os : List Nat} {k d : Nat} {B : Nat} (hown : wr.ownsRow B 32 1 v k (cells os)) (hb : Below B w wr) (hB : B ≤ wr.heap.size) {o : Obj}
    (hown' : w1.ownsRow B 32 1 v' (k + 1) (cells os ++ [.int .u64 (d : Int)])) (hgrow : (wr.alloc o).grownBy w1 v.ownBlock) :
    w1.ownsRow B 32 1 v' (k + 1) (cells (os ++ [d])) ∧ Below B w w1 ∧ B ≤ w1.heap.size := by
  rw [cells_snoc] at hown'
  refine ⟨hown', (hb.alloc hB o).grown hgrow (by simp; omega) (fun g hg => (hown.lt g hg).1), ?_⟩
  have := hgrow.size
  simp at this
  omega
theorem sum_math {n m k c p q : Nat} {os : List Nat} (hp : p = dig n k) (hq : q = dig m k) (hl : os.length = k) (h : val os + 65536 ^ k * c = n % 65536 ^ k + m % 65536 ^ k) :
    val (os ++ [(p + q + c) % 65536]) + 65536 ^ (k + 1) * ((p + q + c) / 65536) = n % 65536 ^ (k + 1) + m % 65536 ^ (k + 1) := by
  rw [val_snoc, hl, dig_step n k, dig_step m k, ← hp, ← hq, Nat.pow_succ]
  have e : 65536 ^ k * ((p + q + c) % 65536) + 65536 ^ k * 65536 * ((p + q + c) / 65536) = 65536 ^ k * p + 65536 ^ k * q + 65536 ^ k * c := by
    rw [Nat.mul_assoc, ← Nat.mul_add, ← Nat.mul_add, ← Nat.mul_add, Nat.mod_add_div]
  omega

theorem sum_end {w : World} {v : Value} {os : List Nat} {n m j c L : Nat} (h : w.ownsRow 0 32 1 v (j + 1) (cells (os ++ [c]))) (hs : Small16 os) (hc : c ≤ 1) (hl : os.length = j) (hj : j = L)
    (hn : n < 65536 ^ L) (hm : m < 65536 ^ L) (hv : val os + 65536 ^ j * c = n % 65536 ^ j + m % 65536 ^ j) : D w v (n + m) (j + 1) := by
  have hd := D.of_own_pos h (by omega) (small_snoc hs (by omega))
  rw [val_snoc, hl, hv, hj, Nat.mod_eq_of_lt hn, Nat.mod_eq_of_lt hm] at hd
  rw [hj]
  exact hd

end Go.Proofs.YtjkedocppbcncaaDoor

/-
  The walks of the reference's Bit, Len, Small, Sign and Infinite.
-/
namespace Go.Proofs.YtjkedocppbcncaaDoor
set_option maxRecDepth 100000
open Go.RowKit Dg

/-- How many bits a number has. -/
def blen (n : Nat) : Nat := if n = 0 then 0 else n.log2 + 1

theorem bit_dig (n q r : Nat) (hr : r < 16) : dig n q / 2 ^ r % 2 = n / 2 ^ (16 * q + r) % 2 := by
  unfold dig
  rw [pow16, Nat.pow_add, ← Nat.div_div_eq_div_mul]
  generalize n / 2 ^ (16 * q) = x
  have e : 65536 = 2 ^ r * 2 ^ (16 - r) := by rw [← Nat.pow_add, show r + (16 - r) = 16 by omega]
  rw [e, Nat.mod_mul_right_div_self]
  have d : 2 ∣ 2 ^ (16 - r) := by
    rw [show 16 - r = (15 - r) + 1 by omega, Nat.pow_succ]; exact Nat.dvd_mul_left _ _
  exact Nat.mod_mod_of_dvd _ d

theorem and1 (x : Nat) (h : x < 18446744073709551616) : bits .and .u64 (x : Int) 1 = ((x % 2 : Nat) : Int) := by
  rw [u64_and _ _ (Int.natCast_nonneg _) (by omega) (by decide) (by decide), Int.toNat_natCast, show (1 : Int).toNat = 1 from rfl, nat_mask1]

set_option maxHeartbeats 400000 in
theorem bit_walk (v : Value) (n l i : Nat) (w : World) (hD : D w v n l) (h : i ≤ 1099511627776) (q r x d : Nat) (hq : (i : Int) / 16 = (q : Int)) (hr : (i : Int) % 16 = (r : Int)) (_hr2 : r < 16)
    (ha : ∀ w, D w v n l → Calls Tryd.prog 81 #[v, .int .i64 q] w fun e w' => e = .returned (.int .u64 d) ∧ w' = w)
    (_hd : d < 65536) (hx : bits .and .u64 ((d : Int) / 2 ^ r) 1 = (x : Int)) :
    Calls Tryd.prog 78 #[v, .int .i64 i] w fun e w' => e = .returned (.int .u64 x) ∧ w' = w := by
  have HA : Hid (∀ w, D w v n l → Calls Tryd.prog 81 #[v, .int .i64 q] w fun e w' => e = .returned (.int .u64 d) ∧ w' = w) := ha
  clear ha
  go_enter Tryd.func78, Tryd.ntmps78
  go_wp2_with (go_at_call 81; refine (HA.out _ hD).mono ?_; rintro e w' ⟨rfl, rfl⟩)
  go_ret
  exact ⟨rfl, rfl⟩

theorem bit_any (v : Value) (n l : Nat) (i : Int) (w : World) (hD : D w v n l) (h0 : 0 ≤ i) (h : i ≤ 1099511627776) :
    Calls Tryd.prog 78 #[v, .int .i64 i] w fun e w' => e = .returned (.int .u64 (n / 2 ^ i.toNat % 2 : Nat)) ∧ w' = w := by
  obtain ⟨k, rfl⟩ := Int.eq_ofNat_of_zero_le h0
  rw [Int.toNat_natCast]
  have hd := dig_lt n (k / 16)
  refine bit_walk v n l k w hD (by omega) (k / 16) (k % 16) _ (dig n (k / 16)) (by omega) (by omega) (by omega) ?_ hd ?_
  · intro w h
    have := at_any v n l ((k / 16 : Nat) : Int) w h (by omega)
    rw [Int.toNat_natCast] at this
    exact this
  · have hle : dig n (k / 16) / 2 ^ (k % 16) ≤ dig n (k / 16) := Nat.div_le_self _ _
    have := and1 (dig n (k / 16) / 2 ^ (k % 16)) (by omega)
    rw [bit_dig n (k / 16) (k % 16) (by omega), Nat.div_add_mod] at this
    rw [← this, Int.natCast_ediv, Int.natCast_pow]
    rfl

theorem blen_lt (n : Nat) : n < 2 ^ blen n := by
  unfold blen; split
  · rename_i h; subst h; simp
  · exact Nat.lt_log2_self
theorem blen_eq {n k : Nat} (h : n < 2 ^ k) (h2 : k = 0 ∨ n / 2 ^ (k - 1) % 2 = 1) : k = blen n := by
  unfold blen
  rcases Nat.eq_zero_or_pos k with k0 | k0
  · subst k0
    have : n = 0 := by simpa using h
    rw [if_pos this]
  · rcases h2 with h2 | h2
    · omega
    · have hge : 2 ^ (k - 1) ≤ n := by
        rcases Nat.lt_or_ge n (2 ^ (k - 1)) with hh | hh
        · rw [Nat.div_eq_of_lt hh] at h2; omega
        · exact hh
      have hn : n ≠ 0 := by have := Nat.two_pow_pos (k - 1); omega
      rw [if_neg hn]
      have := (Nat.log2_eq_iff hn).2 ⟨hge, by rw [show k - 1 + 1 = k by omega]; exact h⟩
      omega
theorem lt_of_bit {n k : Nat} (h : n < 2 ^ (k + 1)) (h2 : n / 2 ^ k % 2 = 0) : n < 2 ^ k := by
  have hq : n / 2 ^ k < 2 := (Nat.div_lt_iff_lt_mul (Nat.two_pow_pos k)).2 (by rw [← Nat.pow_succ']; exact h)
  rcases Nat.lt_or_ge n (2 ^ k) with hh | hh
  · exact hh
  · have := (Nat.le_div_iff_mul_le (Nat.two_pow_pos k)).2 (show 1 * 2 ^ k ≤ n by omega)
    generalize n / 2 ^ k = z at *
    omega

set_option maxHeartbeats 400000 in
theorem len_any (v : Value) (n l : Nat) (w : World) (hD : D w v n l) (hl : l ≤ 1073741824) :
    Calls Tryd.prog 69 #[v] w fun e w' => e = .returned (.int .i64 (blen n : Nat)) ∧ w' = w := by
  have hlt := hD.lt
  rw [pow16] at hlt
  have hD0 := hD
  obtain ⟨g, cap, rfl, -, -, -, -⟩ := hD.shape
  go_enter Tryd.func69, Tryd.ntmps69
  go_wp2
  go_loop [3] (fun t => ∃ k : Nat, k ≤ 16 * l ∧ t = .int .i64 k ∧ n < 2 ^ k) (fun t => (intOf t).toNat)
  case atStart => exact ⟨16 * l, Nat.le_refl _, by simp, hlt⟩
  case round =>
    obtain ⟨k, hk, rfl, hn⟩ := hrel
    cases k with
    | zero =>
      have H : Hid (0 = blen n) := blen_eq hn (Or.inl rfl)
      go_wp2
      go_ret
      exact ⟨by rw [← H.out]; rfl, rfl⟩
    | succ k =>
      have hb := fun w h => bit_any (.slice (some ⟨g, 0, none⟩) l cap) n l k w h (by omega) (by omega)
      rw [Int.toNat_natCast] at hb
      obtain ⟨b, hbb⟩ : ∃ b, b = n / 2 ^ k % 2 := ⟨_, rfl⟩
      rw [← hbb] at hb
      have HB : Hid (∀ w, D w (.slice (some ⟨g, 0, none⟩) l cap) n l → Calls Tryd.prog 78 #[.slice (some ⟨g, 0, none⟩) l cap, .int .i64 k] w fun e w' => e = .returned (.int .u64 b) ∧ w' = w) := hb
      clear hb
      by_cases c : b = 0
      · have H : Hid (n < 2 ^ k) := lt_of_bit hn (by omega)
        clear hbb
        subst c
        go_wp2_with (go_at_call 78; refine (HB.out _ hD0).mono ?_; rintro e w' ⟨rfl, rfl⟩)
        go_round
        case rel => exact ⟨k, by omega, by go_num, H.out⟩
        case measure => simp [intOf]
      · have H : Hid (k + 1 = blen n) := blen_eq hn (Or.inr (by rw [Nat.add_sub_cancel]; omega))
        have cz : ((b : Int) == 0) = false := by rw [beq_eq_false_iff_ne]; omega
        clear hbb
        go_wp2_with (go_at_call 78; refine (HB.out _ hD0).mono ?_; rintro e w' ⟨rfl, rfl⟩)
        go_ret
        exact ⟨by rw [← H.out]; rfl, rfl⟩

theorem join4 (n : Nat) (h : n < 18446744073709551616) : ((dig n 0 ||| dig n 1 * 65536) ||| dig n 2 * 4294967296) ||| dig n 3 * 281474976710656 = n := by
  have d0 := dig_lt n 0
  have d1 := dig_lt n 1
  have d2 := dig_lt n 2
  have d3 := dig_lt n 3
  rw [Nat.or_comm (dig n 0), nat_join 16 (dig n 1 * 65536) (dig n 0) (by omega) (by omega)]
  rw [Nat.or_comm _ (dig n 2 * 4294967296), nat_join 32 (dig n 2 * 4294967296) _ (by omega) (by omega)]
  rw [Nat.or_comm _ (dig n 3 * 281474976710656), nat_join 48 (dig n 3 * 281474976710656) _ (by omega) (by omega)]
  unfold dig
  simp only [Nat.pow_zero, Nat.div_one, Nat.pow_one]
  omega

set_option maxHeartbeats 400000 in
theorem small_walk (v : Value) (n l a b c d r1 r2 r3 : Nat) (w : World) (hD : D w v n l) (_ha : a < 65536) (hb : b < 65536) (hc : c < 65536) (hd : d < 65536)
    (h0 : ∀ (i : Int) (x : Nat) w, (i = 0 ∧ x = a) ∨ (i = 1 ∧ x = b) ∨ (i = 2 ∧ x = c) ∨ (i = 3 ∧ x = d) → D w v n l → Calls Tryd.prog 81 #[v, .int .i64 i] w fun e w' => e = .returned (.int .u64 x) ∧ w' = w)
    (e1 : bits .or .u64 (a : Int) ((b : Int) * 65536) = (r1 : Int)) (e2 : bits .or .u64 (r1 : Int) ((c : Int) * 4294967296) = (r2 : Int)) (e3 : bits .or .u64 (r2 : Int) ((d : Int) * 281474976710656) = (r3 : Int)) :
    Calls Tryd.prog 74 #[v] w fun e w' => e = .returned (.int .u64 r3) ∧ w' = w := by
  have H0 : Hid (∀ (i : Int) (x : Nat) w, (i = 0 ∧ x = a) ∨ (i = 1 ∧ x = b) ∨ (i = 2 ∧ x = c) ∨ (i = 3 ∧ x = d) → D w v n l → Calls Tryd.prog 81 #[v, .int .i64 i] w fun e w' => e = .returned (.int .u64 x) ∧ w' = w) := h0
  clear h0
  go_enter Tryd.func74, Tryd.ntmps74
  go_wp2_with fail
  refine (H0.out 0 a _ (by simp) hD).mono ?_
  rintro e w' ⟨rfl, rfl⟩
  go_wp2_with fail
  refine (H0.out 1 b _ (by simp) hD).mono ?_
  rintro e w' ⟨rfl, rfl⟩
  go_wp2_with fail
  refine (H0.out 2 c _ (by simp) hD).mono ?_
  rintro e w' ⟨rfl, rfl⟩
  go_wp2_with fail
  refine (H0.out 3 d _ (by simp) hD).mono ?_
  rintro e w' ⟨rfl, rfl⟩
  go_wp2_with fail
  go_ret
  exact ⟨rfl, rfl⟩

theorem or_nat (a b : Nat) (ha : a < 18446744073709551616) (hb : b < 18446744073709551616) (B : Int) (e : B = (b : Int)) : bits .or .u64 (a : Int) B = ((a ||| b : Nat) : Int) := by
  subst e
  exact u64_or_nat a b ha hb

theorem small_any (v : Value) (n l : Nat) (w : World) (hD : D w v n l) (h : n < 18446744073709551616) :
    Calls Tryd.prog 74 #[v] w fun e w' => e = .returned (.int .u64 n) ∧ w' = w := by
  have d0 := dig_lt n 0
  have d1 := dig_lt n 1
  have d2 := dig_lt n 2
  have d3 := dig_lt n 3
  have l1 : dig n 0 ||| dig n 1 * 65536 < 18446744073709551616 := Nat.or_lt_two_pow (n := 64) (by omega) (by omega)
  have l2 : dig n 0 ||| dig n 1 * 65536 ||| dig n 2 * 4294967296 < 18446744073709551616 := Nat.or_lt_two_pow (n := 64) l1 (by omega)
  have e := small_walk v n l (dig n 0) (dig n 1) (dig n 2) (dig n 3) _ _ _ w hD d0 d1 d2 d3 ?_ (or_nat _ _ (by omega) (by omega) _ (by omega)) (or_nat _ _ l1 (show dig n 2 * 4294967296 < 18446744073709551616 by omega) _ (by omega)) (or_nat _ _ l2 (show dig n 3 * 281474976710656 < 18446744073709551616 by omega) _ (by omega))
  · rw [join4 n h] at e
    exact e
  · intro i x w hi hd
    have := at_any v n l i w hd (by omega)
    rcases hi with ⟨rfl, rfl⟩ | ⟨rfl, rfl⟩ | ⟨rfl, rfl⟩ | ⟨rfl, rfl⟩ <;> exact this

theorem refSign_any (neg : Bool) (w : World) : Calls Tryd.prog 70 #[.bool neg] w fun e w' => e = .returned (.int .u64 (if neg then 9223372036854775808 else 0)) ∧ w' = w := by
  cases neg
  all_goals
    go_enter Tryd.func70, Tryd.ntmps70
    go_wp2
    go_ret
    exact ⟨rfl, rfl⟩
theorem refInf_any (neg : Bool) (w : World) : Calls Tryd.prog 71 #[.bool neg] w fun e w' => e = .returned (.int .u64 (if neg then 18442240474082181120 else 9218868437227405312)) ∧ w' = w := by
  have e1 : bits .or .u64 9223372036854775808 9218868437227405312 = 18442240474082181120 := by decide +kernel
  have e2 : bits .or .u64 0 9218868437227405312 = 9218868437227405312 := by decide +kernel
  cases neg
  · go_enter Tryd.func71, Tryd.ntmps71
    go_wp2_with (go_at_call 70; refine (refSign_any false _).mono ?_; rintro e w' ⟨rfl, rfl⟩)
    go_ret
    exact ⟨rfl, rfl⟩
  · go_enter Tryd.func71, Tryd.ntmps71
    go_wp2_with (go_at_call 70; refine (refSign_any true _).mono ?_; rintro e w' ⟨rfl, rfl⟩)
    go_ret
    exact ⟨rfl, rfl⟩

end Go.Proofs.YtjkedocppbcncaaDoor

/-
  The walk of the reference's Down.
-/
namespace Go.Proofs.YtjkedocppbcncaaDoor
set_option maxRecDepth 100000
open Go.RowKit Dg

theorem low_step (n j : Nat) : n % 2 ^ (j + 1) = n % 2 ^ j + 2 ^ j * (n / 2 ^ j % 2) := by rw [Nat.pow_succ, Nat.mod_mul]

theorem lost_step {n j : Nat} {lo : Bool} {b : Nat} (hl : lo = decide (n % 2 ^ j ≠ 0)) (hb : b = n / 2 ^ j % 2) : (lo || (b == 1)) = decide (n % 2 ^ (j + 1) ≠ 0) := by
  have hp := Nat.two_pow_pos j
  rw [low_step, ← hb, hl, Bool.eq_iff_iff]
  simp only [ne_eq, Bool.or_eq_true, decide_eq_true_eq, beq_iff_eq]
  have hb2 : b = 0 ∨ b = 1 := by rw [hb]; omega
  rcases hb2 with h | h
  · subst h; simp
  · subst h; simp
theorem lost_end {n l k j : Nat} (hn : n < 2 ^ (16 * l)) (hj : j ≤ k) (h : ¬ (j < k ∧ j < 16 * l)) : decide (n % 2 ^ j ≠ 0) = decide (n % 2 ^ k ≠ 0) := by
  by_cases c : j = k
  · rw [c]
  · have h1 : 2 ^ (16 * l) ≤ 2 ^ j := Nat.pow_le_pow_right (by decide) (by omega)
    have h2 : 2 ^ (16 * l) ≤ 2 ^ k := Nat.pow_le_pow_right (by decide) (by omega)
    rw [Nat.mod_eq_of_lt (by omega), Nat.mod_eq_of_lt (by omega)]

theorem bits_join {n s t x b : Nat} (hx : x = n / 2 ^ s % 2 ^ t) (hb : b = n / 2 ^ (s + t) % 2) (ht : t < 16) :
    bits .or .u64 (x : Int) (IntKind.u64.wrap ((b : Int) * 2 ^ t)) = ((n / 2 ^ s % 2 ^ (t + 1) : Nat) : Int) := by
  have hp : 2 ^ t ≤ 32768 := by
    have := Nat.pow_le_pow_right (n := 2) (by decide) (show t ≤ 15 by omega)
    omega
  have hx2 : x < 2 ^ t := by rw [hx]; exact Nat.mod_lt _ (Nat.two_pow_pos t)
  have hb2 : b ≤ 1 := by rw [hb]; omega
  have hbp : b * 2 ^ t ≤ 32768 := Nat.le_trans (Nat.mul_le_mul_right _ hb2) (by omega)
  have e : IntKind.u64.wrap ((b : Int) * 2 ^ t) = ((b * 2 ^ t : Nat) : Int) := by
    rw [IntKind.wrap_u64, show (b : Int) * 2 ^ t = ((b * 2 ^ t : Nat) : Int) by rw [Int.natCast_mul, Int.natCast_pow]; rfl]
    omega
  rw [e, u64_or_nat x _ (by omega) (by omega), Nat.or_comm, nat_join t _ _ (Nat.mul_mod_left _ _) hx2, low_step, ← hx]
  congr 1
  rw [Nat.add_comm, Nat.mul_comm b, hb, Nat.div_div_eq_div_mul, ← Nat.pow_add]

theorem down_digit {n k j : Nat} : n / 2 ^ (k + 16 * j) % 2 ^ 16 = dig (n / 2 ^ k) j := by
  unfold dig
  rw [pow16, Nat.div_div_eq_div_mul, ← Nat.pow_add]
theorem down_val {m j : Nat} {os : List Nat} (hl : os.length = j) (hv : val os = m % 65536 ^ j) : val (os ++ [dig m j]) = m % 65536 ^ (j + 1) := by
  rw [val_snoc, hl, hv, dig_step]

theorem down_end {w : World} {v : Value} {os : List Nat} {n l k j : Nat} (h : w.ownsRow 0 32 1 v j (cells os)) (hnil : v ≠ .slice none 0 0) (hs : Small16 os) (hv : val os = n / 2 ^ k % 65536 ^ j) (hn : n < 2 ^ (16 * l)) (hj : 16 * l ≤ k + 16 * j) : D w v (n / 2 ^ k) j := by
  have hd := D.of_own h hnil hs
  have : n / 2 ^ k < 65536 ^ j := by
    rw [pow16]
    refine (Nat.div_lt_iff_lt_mul (Nat.two_pow_pos k)).2 ?_
    rw [← Nat.pow_add]
    exact Nat.lt_of_lt_of_le hn (Nat.pow_le_pow_right (by decide) (by omega))
  rw [hv, Nat.mod_eq_of_lt this] at hd
  exact hd

theorem own_pos {w : World} {B e n : Nat} {v : Value} {xs : List Value} (h : w.ownsRow B e 1 v (n + 1) xs) : v ≠ .slice none 0 0 := by
  intro k
  rcases h.2 with ⟨_, k2⟩ | ⟨g, cap, cur, e', _⟩
  · omega
  · rw [k] at e'; cases e'

set_option maxHeartbeats 2000000 in
theorem down_any (v : Value) (n l k : Nat) (w : World) (hD : D w v n l) (hl : l ≤ 268435456) (hk : k ≤ 1073741824) :
    Calls Tryd.prog 72 #[v, .int .i64 k] w fun e w' => ∃ v', e = .returned (.tuple #[v', .bool (decide (n % 2 ^ k ≠ 0))]) ∧ D w' v' (n / 2 ^ k) (dlen (n / 2 ^ k)) ∧ Below w.heap.size w w' := by
  obtain ⟨i0, hi, hz0, hz1, hz2⟩ := info_parts infoU
  have hlt := hD.lt
  rw [pow16] at hlt
  have hD0 := hD
  obtain ⟨g, cap, rfl, -, -, -, -⟩ := hD.shape
  clear hD
  go_enter Tryd.func72, Tryd.ntmps72
  go_wp2
  go_loop [6, 7] (fun lo i => ∃ (j : Nat) (b : Bool), j ≤ k ∧ i = .int .i64 j ∧ lo = .bool b ∧ b = decide (n % 2 ^ j ≠ 0)) (fun _ i => k - (intOf i).toNat)
  case atStart => exact ⟨0, false, Nat.zero_le _, rfl, rfl, by simp [Nat.mod_one]⟩
  case round =>
    obtain ⟨j, lo, hj, rfl, rfl, hlo⟩ := hrel
    have HLO : Hid (lo = decide (n % 2 ^ j ≠ 0)) := hlo
    clear hlo
    by_cases c : j < k ∧ j < 16 * l
    · obtain ⟨c1, c2⟩ := c
      have hb := fun w h => bit_any (.slice (some ⟨g, 0, none⟩) l cap) n l j w h (by omega) (by omega)
      rw [Int.toNat_natCast] at hb
      obtain ⟨b, hbb⟩ : ∃ b, b = n / 2 ^ j % 2 := ⟨_, rfl⟩
      rw [← hbb] at hb
      have HB : Hid (∀ w, D w (.slice (some ⟨g, 0, none⟩) l cap) n l → Calls Tryd.prog 78 #[.slice (some ⟨g, 0, none⟩) l cap, .int .i64 j] w fun e w' => e = .returned (.int .u64 b) ∧ w' = w) := hb
      have HS : Hid ((lo || (b == 1)) = decide (n % 2 ^ (j + 1) ≠ 0)) := lost_step HLO.out hbb
      clear hb
      cases lo
      · by_cases b1 : b = 1
        · subst b1
          clear hbb
          go_wp2_with (go_at_call 78; refine (HB.out _ hD0).mono ?_; rintro e w' ⟨rfl, rfl⟩)
          go_round
          case rel => exact ⟨j + 1, true, by omega, by go_num, rfl, HS.out⟩
          case measure => simp [intOf]; omega
        · have bz : ((b : Int) == 1) = false := by rw [beq_eq_false_iff_ne]; omega
          have HF : Hid (false = decide (n % 2 ^ (j + 1) ≠ 0)) := by
            show false = _
            rw [← HS.out, show (b == 1) = false from by rw [beq_eq_false_iff_ne]; exact b1]; rfl
          clear hbb
          go_wp2_with (go_at_call 78; refine (HB.out _ hD0).mono ?_; rintro e w' ⟨rfl, rfl⟩)
          go_round
          case rel => exact ⟨j + 1, false, by omega, by go_num, rfl, HF.out⟩
          case measure => simp [intOf]; omega
      · clear hbb
        go_wp2_with (go_at_call 78; refine (HB.out _ hD0).mono ?_; rintro e w' ⟨rfl, rfl⟩)
        go_round
        case rel => exact ⟨j + 1, true, by omega, by go_num, rfl, by have := HS.out; simpa using this⟩
        case measure => simp [intOf]; omega
    · have HE : Hid (lo = decide (n % 2 ^ k ≠ 0)) := HLO.out.trans (lost_end hlt hj c)
      rcases (show (j < k ∧ 16 * l ≤ j) ∨ k ≤ j from by omega) with ⟨c1, c2⟩ | c1
      all_goals
        clear c
        have hdj : 16 * l ≤ j → decide ((j : Int) < 16 * (l : Int)) = false := fun h => by simp; omega
        try have hdj2 := hdj c2
        clear hdj
        go_wp2_with fail
        try clear c1
        try clear c2
        clear hj
        go_loopw [8, 9] (fun o i wr => ∃ (t : Nat) (os : List Nat), i = .int .i64 ((k : Int) + 16 * (t : Int)) ∧ k + 16 * t < k + 16 * l + 16 ∧ os.length = t ∧ Small16 os ∧ val os = n / 2 ^ k % 65536 ^ t ∧ o ≠ .slice none 0 0 ∧
          wr.ownsRow w.heap.size 32 1 o t (cells os) ∧ Below w.heap.size w wr ∧ w.heap.size ≤ wr.heap.size ∧ D wr (.slice (some ⟨g, 0, none⟩) l cap) n l) (fun _ i _ => 16 * l - (intOf i).toNat)
        case atStart =>
          exact ⟨0, [], by simp, by omega, rfl, by intro x hx; simp at hx, by simp [val, Nat.mod_one], by simp, World.ownsRow_made w #[] 0 (Nat.le_refl _) (by decide) rfl, (Below.refl _ _).alloc (Nat.le_refl _) _, by simp, hD0.below ((Below.refl _ _).alloc (Nat.le_refl _) _)⟩
        case round =>
          obtain ⟨t, os, rfl, ht, hlen, hsm, hval, hnil, hown, hbel, hsz, hDr⟩ := hrel
          have HV : Hid (val os = n / 2 ^ k % 65536 ^ t) := hval
          clear hval
          by_cases d1 : k + 16 * t < 16 * l
          · have hdt : decide ((k : Int) + 16 * (t : Int) < 16 * (l : Int)) = true := by simp; omega
            go_wp2_with fail
            go_loop [10, 11] (fun x i => ∃ (s y : Nat), s ≤ 16 ∧ i = .int .i64 s ∧ x = .int .u64 y ∧ y = n / 2 ^ (k + 16 * t) % 2 ^ s) (fun _ i => 16 - (intOf i).toNat)
            case atStart => exact ⟨0, 0, by omega, rfl, rfl, by simp [Nat.mod_one]⟩
            case round =>
              obtain ⟨s, y, hs, rfl, rfl, hy⟩ := hrel
              have HY : Hid (y = n / 2 ^ (k + 16 * t) % 2 ^ s) := hy
              clear hy
              by_cases s1 : s < 16
              · have hb := fun w h => bit_any (.slice (some ⟨g, 0, none⟩) l cap) n l (k + 16 * t + s : Nat) w h (by omega) (by omega)
                rw [Int.toNat_natCast] at hb
                obtain ⟨b, hbb⟩ : ∃ b, b = n / 2 ^ (k + 16 * t + s) % 2 := ⟨_, rfl⟩
                rw [← hbb] at hb
                have e1 := bits_join HY.out hbb s1
                obtain ⟨z, hz⟩ : ∃ z, z = n / 2 ^ (k + 16 * t) % 2 ^ (s + 1) := ⟨_, rfl⟩
                rw [← hz] at e1
                have HB : Hid (∀ w, D w (.slice (some ⟨g, 0, none⟩) l cap) n l → Calls Tryd.prog 78 #[.slice (some ⟨g, 0, none⟩) l cap, .int .i64 ((k : Int) + 16 * (t : Int) + (s : Int))] w fun e w' => e = .returned (.int .u64 b) ∧ w' = w) := by
                  show ∀ w, _
                  simpa using hb
                have HZ : Hid (z = n / 2 ^ (k + 16 * t) % 2 ^ (s + 1)) := hz
                clear hb hbb hz
                go_wp2_with (go_at_call 78; refine (HB.out _ hDr).mono ?_; rintro e w' ⟨rfl, rfl⟩)
                go_round
                case rel => exact ⟨s + 1, z, by omega, by go_num, rfl, HZ.out⟩
                case measure => simp [intOf]; omega
              · have HS : Hid (y = dig (n / 2 ^ k) t) := by
                  show y = _
                  have : s = 16 := by omega
                  rw [HY.out, this, down_digit]
                have hy2 : y < 65536 := by rw [HS.out]; exact dig_lt _ _
                have hs2 := small_snoc hsm hy2
                have HV2 : Hid (val (os ++ [y]) = n / 2 ^ k % 65536 ^ (t + 1)) := by
                  show val _ = _
                  rw [HS.out]; exact down_val hlen HV.out
                clear HY
                go_wp2_with (at_builtin; refine wpList_append_own _ rfl _ _ 68 rfl w.heap.size 32 i0 (.int .u64 0) 1 8 Tryd.underlying68 hi hz0 hz1 hz2 rfl (by decide) _ t (cells os) rfl (hown.alloc _) ⟨wr.heap.size, 0, none⟩ 1 1 [.int .u64 (y : Int)] rfl rfl (one_new _ _ _) (by intro x hx; simp at hx; subst hx; rfl) (by unfold maxLen; omega) (by omega) (by simp; omega) ?_)
                intro v' w1 hown' hgrow hn'
                have R := sum_step hown hbel hsz hown' hgrow
                have hD1 := hD0.below R.2.1
                have hnil' : v' ≠ .slice none 0 0 := own_pos R.1
                clear hown' hgrow hown hbel hsz hn'
                go_wp2
                go_roundw
                case rel => exact ⟨t + 1, os ++ [y], by go_num, by omega, by simp [hlen], hs2, HV2.out, hnil', R.1, R.2.1, R.2.2, hD1⟩
                case measure => simp [intOf]; omega
          · have hd := down_end (ownsRow_base hown) hnil hsm HV.out hlt (by omega)
            go_wp2_with (go_at_call 79; refine (trim_any _ (n / 2 ^ k) t _ hd (by omega)).mono ?_; rintro e w2 ⟨v2, rfl, hd2, hb2⟩)
            go_ret2
            exact ⟨_, by rw [← HE.out]; rfl, hd2, hbel.trans (hb2.mono hbel.size)⟩

end Go.Proofs.YtjkedocppbcncaaDoor
