/-
  TxtMath, DecText, DecRead, DecRead2, DigNew, DecTen
-/
import Derived.Lib.Strings
import Derived.Test.YthmocdabakkfhaaGreatDoorZ11

/-
  Plain mathematics of texts as lists of bytes: digits, and what a numeral says. No Go in sight.
-/
namespace Go.Proofs.YthmocdabakkfhaaGreatDoor.Txt
set_option maxRecDepth 100000

def bs (l : List UInt8) : ByteArray := ⟨l.toArray⟩
theorem bs_size (l : List UInt8) : (bs l).size = l.length := by unfold bs; simp [ByteArray.size]
theorem bs_list (l : List UInt8) : (bs l).data.toList = l := by unfold bs; simp
theorem bs_data (s : ByteArray) : bs s.data.toList = s := Lib.mk_data s
theorem bs_get (l : List UInt8) (k : Nat) (h : k < (bs l).size) : (bs l)[k] = l[k]'(by rw [bs_size] at h; exact h) := by
  simp [bs, ByteArray.getElem_eq_getElem_data]
theorem bs_inj {a b : List UInt8} : bs a = bs b ↔ a = b := by
  constructor
  · intro h; rw [← bs_list a, ← bs_list b, h]
  · intro h; rw [h]
theorem bs_extract (l : List UInt8) (a b : Nat) : (bs l).extract a b = bs ((l.drop a).take (b - a)) := by
  rw [Lib.extract_eq, bs_list]; rfl
theorem bs_append (a b : List UInt8) : bs a ++ bs b = bs (a ++ b) := by
  unfold bs
  apply ByteArray.ext
  simp

def isD (c : UInt8) : Bool := decide (48 ≤ c.toNat ∧ c.toNat ≤ 57)
/-- What digits say. -/
def dv : List UInt8 → Nat → Nat
  | [], n => n
  | c :: r, n => dv r (n * 10 + (c.toNat - 48))
theorem dv_snoc (l : List UInt8) (c : UInt8) (n : Nat) : dv (l ++ [c]) n = dv l n * 10 + (c.toNat - 48) := by
  induction l generalizing n with
  | nil => rfl
  | cons a r ih => exact ih _
theorem dv_append (l r : List UInt8) (n : Nat) : dv (l ++ r) n = dv r (dv l n) := by
  induction l generalizing n with
  | nil => rfl
  | cons a t ih => exact ih _
def AllD (l : List UInt8) : Prop := ∀ c ∈ l, isD c = true
theorem dv_lt : ∀ (l : List UInt8) (n : Nat), AllD l → dv l n < (n + 1) * 10 ^ l.length := by
  intro l
  induction l with
  | nil => intro n _; simp [dv]
  | cons c r ih =>
    intro n h
    have hc := h c (by simp)
    have := ih (n * 10 + (c.toNat - 48)) (fun x hx => h x (by simp [hx]))
    unfold isD at hc
    simp at hc
    rw [List.length_cons, Nat.pow_succ, Nat.mul_comm (10 ^ r.length), ← Nat.mul_assoc]
    refine Nat.lt_of_lt_of_le this (Nat.mul_le_mul_right _ ?_)
    omega
theorem dv_ge (l : List UInt8) (n : Nat) : n ≤ dv l n := by
  induction l generalizing n with
  | nil => exact Nat.le_refl _
  | cons c r ih => have := ih (n * 10 + (c.toNat - 48)); unfold dv; omega

theorem span_of : ∀ (l : List UInt8) (k : Nat), k ≤ l.length → (∀ j (h : j < l.length), j < k → isD l[j] = true) → (∀ h : k < l.length, isD l[k] = false) → l.takeWhile isD = l.take k ∧ l.dropWhile isD = l.drop k := by
  intro l
  induction l with
  | nil => intro k h _ _; simp at h; subst h; simp
  | cons c r ih =>
    intro k hk h1 h2
    cases k with
    | zero =>
      have := h2 (by simp)
      simp at this
      simp [this]
    | succ k =>
      have h0 := h1 0 (by simp) (by omega)
      simp at h0
      have := ih k (by simpa using hk) (fun j h hj => by have := h1 (j + 1) (by simpa using h) (by omega); simpa using this) (fun h => by have := h2 (by simpa using h); simpa using this)
      simp [h0, this]
theorem allD_take (l : List UInt8) : AllD (l.takeWhile isD) := by
  intro c hc
  induction l with
  | nil => simp at hc
  | cons a r ih =>
    rw [List.takeWhile_cons] at hc
    split at hc
    · rcases List.mem_cons.1 hc with h | h
      · subst h; assumption
      · exact ih h
    · simp at hc

/-! A numeral. -/
def dig (l : List UInt8) : List UInt8 := l.takeWhile isD
def rst (l : List UInt8) : List UInt8 := l.dropWhile isD
theorem dig_rst (l : List UInt8) : dig l ++ rst l = l := List.takeWhile_append_dropWhile
/-- Behind the e and the sign. -/
def expD (neg : Bool) (l : List UInt8) : Option Int := if dig l = [] then none else if rst l = [] then some (if neg then -(dv (dig l) 0 : Int) else dv (dig l) 0) else none
/-- Behind the e. -/
def expS (l : List UInt8) : Option Int :=
  match l with
  | [] => none
  | c :: r => if c.toNat = 45 then expD true r else if c.toNat = 43 then expD false r else expD false (c :: r)
/-- The e, or nothing at all. -/
def expo (l : List UInt8) : Option Int :=
  match l with
  | [] => some 0
  | c :: r => if c.toNat = 101 ∨ c.toNat = 69 then expS r else none
/-- The digits and the power of ten. -/
def numL (l : List UInt8) : Option (List UInt8 × Int) :=
  if dig l = [] then none else
  match rst l with
  | [] => some (dig l, 0)
  | c :: r => if c.toNat = 46 then (if dig r = [] then none else (expo (rst r)).map fun e => (dig l ++ dig r, e - (dig r).length))
              else (expo (c :: r)).map fun e => (dig l, e)

end Go.Proofs.YthmocdabakkfhaaGreatDoor.Txt

/-
  Texts: the landed cutDigits and the library's HasPrefix of one byte, walked.
-/
namespace Go.Proofs.YthmocdabakkfhaaGreatDoor
set_option maxRecDepth 100000
open Go.RowKit Txt

theorem isD_true {c : UInt8} (h1 : 48 ≤ (c.toNat : Int)) (h2 : (c.toNat : Int) ≤ 57) : isD c = true := by unfold isD; simp; omega
theorem isD_false {c : UInt8} (h : (c.toNat : Int) < 48 ∨ 57 < (c.toNat : Int)) : isD c = false := by unfold isD; simp; omega

/-- Whether a text begins with a byte. -/
def hp (c : UInt8) (l : List UInt8) : Bool := match l with | [] => false | a :: _ => a == c
theorem bs_toList (l : List UInt8) : (bs l).toList = l := by rw [Lib.toList_data, bs_list]
theorem eq_one (a c : UInt8) : ((bs [a]).toList == (bs [c]).toList) = (a == c) := by
  rw [bs_toList, bs_toList]; simp
end Go.Proofs.YthmocdabakkfhaaGreatDoor

/-
  The landed readExp, walked.
-/
namespace Go.Proofs.YthmocdabakkfhaaGreatDoor
set_option maxRecDepth 100000
open Go.RowKit Txt

def cl (x : Int) : Int := max (min x 40000) (-40000)
def expV : Option Int → Value
  | none => .tuple #[.int .i64 0, .bool false]
  | some x => .tuple #[.int .i64 (cl x), .bool true]
theorem int_eq {k : IntKind} {a b : Int} (h : a = b) : Value.int k a = Value.int k b := by rw [h]
theorem ret_pair {a b : Int} {p q : Bool} (h : a = b) (h2 : p = q) : Ending.returned (.tuple #[.int .i64 a, .bool p]) = .returned (.tuple #[.int .i64 b, .bool q]) := by rw [h, h2]
theorem expV_none {neg : Bool} {t : List UInt8} (h : expD neg t = none) : expV (expD neg t) = .tuple #[.int .i64 0, .bool false] := by rw [h]; rfl
theorem emp_bs (l : List UInt8) : (bs l).toList.isEmpty = l.isEmpty := by rw [bs_toList]
theorem dv_take {D : List UInt8} {k : Nat} (h : k < D.length) : dv (D.take (k + 1)) 0 = dv (D.take k) 0 * 10 + (D[k].toNat - 48) := by
  rw [List.take_succ_eq_append_getElem h, dv_snoc]
theorem isD_get {D : List UInt8} (hD : AllD D) {k : Nat} (h : k < D.length) : 48 ≤ D[k].toNat ∧ D[k].toNat ≤ 57 := by
  have := hD D[k] (List.getElem_mem h)
  unfold isD at this
  simpa using this
theorem min_step {x n d : Nat} (h : x = min n 40000) : min (10 * x + d) 40000 = min (n * 10 + d) 40000 := by omega

end Go.Proofs.YthmocdabakkfhaaGreatDoor

/-
  The landed readExp of any text, and read, walked.
-/
namespace Go.Proofs.YthmocdabakkfhaaGreatDoor
set_option maxRecDepth 100000
open Go.RowKit Txt

theorem expo_cons (c : UInt8) (r : List UInt8) : Txt.expo (c :: r) = if c.toNat = 101 ∨ c.toNat = 69 then expS r else none := rfl
theorem expS_cons (c : UInt8) (r : List UInt8) : expS (c :: r) = if c.toNat = 45 then expD true r else if c.toNat = 43 then expD false r else expD false (c :: r) := rfl
theorem bs_tail (c : UInt8) (r : List UInt8) : (bs (c :: r)).extract 1 (bs (c :: r)).size = bs r := by
  rw [bs_extract, bs_size]; simp
theorem bs_head (c : UInt8) (r : List UInt8) (h : 0 < (bs (c :: r)).size) : (bs (c :: r))[0] = c := by
  rw [bs_get]; rfl
theorem byte_ne {a c : UInt8} (h : a.toNat ≠ c.toNat) : (a == c) = false := by
  rw [beq_eq_false_iff_ne]; intro e; exact h (by rw [e])
theorem byte_eq {a c : UInt8} (h : a.toNat = c.toNat) : (a == c) = true := by
  rw [beq_iff_eq]; exact UInt8.toNat_inj.1 h

theorem below_box (w : World) (o : Obj) (q : Nat) (a b : Value) : Below w.heap.size w ((((w.alloc o).drewN q).setCell ⟨w.heap.size, 0, none⟩ a).setCell ⟨w.heap.size, 1, none⟩ b) :=
  ((below_drewN ((Below.refl _ _).alloc (Nat.le_refl _) _) q).setCell (p := ⟨w.heap.size, 0, none⟩) (Nat.le_refl _) _).setCell (p := ⟨w.heap.size, 1, none⟩) (Nat.le_refl _) _
/-- What the program holds for an exponent. -/
def Held (x E : Int) : Prop := x = E ∨ (39000 ≤ x ∧ 39000 ≤ E ∧ x ≤ 41000) ∨ (x ≤ -39000 ∧ E ≤ -39000 ∧ -41000 ≤ x)
theorem held_cl (e : Int) (k : Nat) (hk : k ≤ 400) : Held (-(k : Int) + cl e) (e - k) := by unfold Held cl; omega
theorem held_cl0 (e : Int) : Held (cl e) e := by unfold Held cl; omega
theorem cl_range (e : Int) : -40000 ≤ cl e ∧ cl e ≤ 40000 := by unfold cl; omega

end Go.Proofs.YthmocdabakkfhaaGreatDoor

/-
  Trim, Sum and Minus once more: what they hand back lies in a block of its own.
-/
namespace Go.Proofs.YthmocdabakkfhaaGreatDoor
set_option maxRecDepth 100000
open Go.RowKit Dg

/-- A slice whose block is not one of the first B. -/
def Fresh (B : Nat) (v : Value) : Prop := ∀ g, v.ownBlock = some g → B ≤ g
theorem Fresh.mono {B B' : Nat} {v : Value} (h : Fresh B v) (hb : B' ≤ B) : Fresh B' v := fun g hg => Nat.le_trans hb (h g hg)
theorem fresh_made (w : World) : Fresh w.heap.size (.slice (some ⟨w.heap.size, 0, none⟩) 0 0) := by
  intro g hg; simp [Value.ownBlock] at hg; omega

set_option maxHeartbeats 400000 in
theorem trim_new (v : Value) (n l : Nat) (w : World) (hD : D w v n l) (hl : l ≤ 1073741824) :
    Calls Tryz.prog 91 #[v] w fun e w' => ∃ v', e = .returned v' ∧ D w' v' n (dlen n) ∧ Below w.heap.size w w' ∧ Fresh w.heap.size v' := by
  have hsh := hD.shape
  have hlt := hD.lt
  obtain ⟨ds, g, cap, rfl, hlen, hsm, hval, hown⟩ := hD
  obtain ⟨g', cap', hv', hg, hlc, hcm, hcell⟩ := hsh
  obtain ⟨rfl, rfl⟩ : g = g' ∧ cap = cap' := by simpa using hv'
  clear hv'
  unfold maxLen at hcm
  obtain ⟨i0, hi, hz0, hz1, hz2⟩ := info_parts infoU
  go_enter Tryz.func91, Tryz.ntmps91
  go_wp2
  go_loop [3] (fun t => ∃ k : Nat, k ≤ l ∧ t = .int .i64 k ∧ n < 65536 ^ k) (fun t => (intOf t).toNat)
  case atStart => exact ⟨l, Nat.le_refl _, rfl, hlt⟩
  case round =>
    obtain ⟨k, hk, rfl, hn⟩ := hrel
    cases k with
    | zero =>
      have hz : n = 0 := by simpa using hn
      clear hcell
      go_wp2
      go_ret
      exact ⟨_, rfl, D_empty w, (Below.refl _ _).alloc (Nat.le_refl _) _, fresh_made w⟩
    | succ k =>
      have hc := hcell k (by omega)
      clear hcell
      by_cases c : dig n k = 0
      · rw [c] at hc
        go_wp2
        go_round
        case rel => exact ⟨k, by omega, by go_num, lt_of_dig hn c⟩
        case measure => simp [intOf]
      · have hcz : (((dig n k : Nat) : Int) == 0) = false := by rw [beq_eq_false_iff_ne]; omega
        have hds : (cells (ds.take (k + 1))).length = (k + 1) * 1 := by rw [cells_length, List.length_take]; omega
        have HN : Hid (∀ j u, (cells (ds.take (k + 1)))[j]? = some u → (w.alloc (.cells #[] 34)).cell? ((⟨g, 0, none⟩ : Addr).add j) = some u) := news_of_own hown _
        have hm : (w.alloc (.cells #[] 34)).ownsRow w.heap.size 34 1 (.slice (some ⟨w.heap.size, 0, none⟩) 0 0) 0 [] := World.ownsRow_made w #[] 0 (Nat.le_refl _) (by decide) rfl
        have h1 := cells_one (ds.take (k + 1))
        have hv : val (ds.take (k + 1)) = n := by rw [val_take ds (k + 1) hsm (by omega), hval, Nat.mod_eq_of_lt hn]
        have hlast : k + 1 = dlen n := dlen_eq hn (Or.inr (by simpa using c))
        have HV : Hid (val (ds.take (k + 1)) = n ∧ k + 1 = dlen n) := ⟨hv, hlast⟩
        have hs := small_take (k + 1) hsm
        clear hv hlast
        go_wp2_with (at_builtin; refine wpList_append_own _ rfl _ _ 63 rfl w.heap.size 34 i0 (.int .u64 0) 1 8 Tryz.underlying63 hi hz0 hz1 hz2 rfl (by decide) _ 0 [] rfl hm ⟨g, 0, none⟩ (k + 1) cap (cells (ds.take (k + 1))) rfl hds HN.out h1 (by unfold maxLen; omega) (by omega) (by simp) ?_)
        intro v' w1 hown' hgrow _
        have R := trim_close (ownsRow_base hown') hgrow hs HV.out
        have F : Fresh w.heap.size v' := fun g hg => (hown'.lt g hg).1
        clear hown' hgrow
        go_wp2
        go_ret
        exact ⟨_, rfl, R.1, R.2, F⟩

end Go.Proofs.YthmocdabakkfhaaGreatDoor

/-
  Powers of ten: what the reference's Ten will need.
-/
namespace Go.Proofs.YthmocdabakkfhaaGreatDoor
set_option maxRecDepth 100000
open Go.RowKit Dg Flo

theorem pow_ten_lt (n : Nat) : 10 ^ n ≤ 2 ^ (4 * n) := by
  rw [Nat.pow_mul]; exact Nat.pow_le_pow_left (by decide) n
theorem dlen_ten {N n L : Nat} (h : N ≤ 10 ^ n) (hL : 4 * n + 1 ≤ 16 * L) : dlen N ≤ L := by
  refine dlen_pow (K := 4 * n + 1) ?_ hL
  have := pow_ten_lt n
  rw [Nat.pow_succ]
  have := Nat.two_pow_pos (4 * n)
  omega
theorem ten_step_odd {N P k T : Nat} (h : N * P ^ k = T) (hk : k % 2 = 1) : N * P * (P * P) ^ (k / 2) = T := by
  rw [← h]
  have e : k = 1 + 2 * (k / 2) := by omega
  conv => rhs; rw [e, Nat.pow_add, Nat.pow_mul, Nat.pow_one, Nat.pow_two]
  rw [Nat.mul_assoc]
theorem ten_step_even {N P k T : Nat} (h : N * P ^ k = T) (hk : k % 2 = 0) : N * (P * P) ^ (k / 2) = T := by
  rw [← h]
  have e : k = 2 * (k / 2) := by omega
  conv => rhs; rw [e, Nat.pow_mul, Nat.pow_two]
theorem ten_parts {N P k T : Nat} (h : N * P ^ k = T) (hT : 0 < T) : 0 < N ∧ N ≤ T ∧ (0 < k → P ≤ T) := by
  have hN : 0 < N := by
    rcases Nat.eq_zero_or_pos N with c | c
    · rw [c, Nat.zero_mul] at h; omega
    · exact c
  have hP : 0 < P ^ k := by
    rcases Nat.eq_zero_or_pos (P ^ k) with c | c
    · rw [c, Nat.mul_zero] at h; omega
    · exact c
  refine ⟨hN, ?_, ?_⟩
  · rw [← h]; exact Nat.le_mul_of_pos_right _ hP
  · intro hk
    have h1 : P ≤ P ^ k := by
      rcases Nat.eq_zero_or_pos P with c | c
      · omega
      · exact Nat.le_pow hk
    exact Nat.le_trans h1 (by rw [← h]; exact Nat.le_mul_of_pos_left _ hN)

end Go.Proofs.YthmocdabakkfhaaGreatDoor
