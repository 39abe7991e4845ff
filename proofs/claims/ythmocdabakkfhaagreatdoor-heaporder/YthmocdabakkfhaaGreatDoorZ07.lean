/-
  DigCmp, DigMinus, SumRef, SumRef2, SumRef3, SumRep
-/
import Derived.Deep.QuietTactic
import Derived.BigQuiet
import Derived.WalkSmall
import Derived.Test.YthmocdabakkfhaaGreatDoorZ06

/-
  The reference's Cmp and Minus.
-/
namespace Go.Proofs.YthmocdabakkfhaaGreatDoor
set_option maxRecDepth 100000
open Go.RowKit Dg

def cmpZ (n m : Nat) : Int := if n < m then -1 else if n = m then 0 else 1

end Go.Proofs.YthmocdabakkfhaaGreatDoor

/-
  The reference's Minus.
-/
namespace Go.Proofs.YthmocdabakkfhaaGreatDoor
set_option maxRecDepth 100000
open Go.RowKit Dg

end Go.Proofs.YthmocdabakkfhaaGreatDoor

/-
  The reference of layer 2: Exact, the sum without rounding.
-/
namespace Go.Proofs.YthmocdabakkfhaaGreatDoor
set_option maxRecDepth 100000
open Go.RowKit Dg Flo

theorem kind_fin {a : Int} (hm : mag a < 9218868437227405312) (h0 : 0 ≤ mag a) : (mag a = 0 ∧ kindZ a = 0) ∨ (0 < mag a ∧ mag a < 4503599627370496 ∧ kindZ a = 1) ∨ (4503599627370496 ≤ mag a ∧ kindZ a = 2) := by
  unfold kindZ
  rw [if_neg (by omega)]
  by_cases c1 : mag a = 0
  · rw [if_pos c1]; exact Or.inl ⟨c1, rfl⟩
  · rw [if_neg c1, if_neg (by omega)]
    by_cases c2 : mag a < 4503599627370496
    · rw [if_pos c2]; exact Or.inr (Or.inl ⟨by omega, c2, rfl⟩)
    · rw [if_neg c2]; exact Or.inr (Or.inr ⟨by omega, rfl⟩)
theorem kind_inf {a : Int} (hm : mag a = 9218868437227405312) : kindZ a = 3 := by
  unfold kindZ; rw [hm]; rfl
theorem kind_nan4 {a : Int} (hm : 9218868437227405312 < mag a) : kindZ a = 4 := by
  unfold kindZ; rw [if_pos hm]

/-- How sign and size of a sum come of those of the two. -/
def ExactP (n o ng : Bool) (X Y N : Nat) : Prop := (n = o ∧ ng = n ∧ N = X + Y) ∨ (n ≠ o ∧ ng = n ∧ Y ≤ X ∧ N = X - Y) ∨ (n ≠ o ∧ ng = o ∧ X ≤ Y ∧ N = Y - X)

end Go.Proofs.YthmocdabakkfhaaGreatDoor

/-
  The reference of layer 2: Sum, Add, Sub, Neg, Mul.
-/
namespace Go.Proofs.YthmocdabakkfhaaGreatDoor
set_option maxRecDepth 100000
open Go.RowKit Dg Flo

theorem rung_one (v : Nat) : rung 1 (2 * v) = rung 0 v := by
  have := rung_scale 0 v 1
  rw [Nat.zero_add, Nat.pow_one, Nat.mul_comm v 2] at this
  exact this

theorem round_one (v : Value) (N l : Nat) (exp : Int) (neg : Bool) (w : World) (hD : D w v N l) (hl : l ≤ 1048576) (e1 : -1074 ≤ exp) (e2 : exp ≤ 16777216) :
    Calls Tryz.prog 70 #[.bool neg, .int .i64 exp, v, .bool false] w fun e w' => e = .returned (.int .u64 (sgn neg + (rung 0 (N * 2 ^ (exp + 1074).toNat) : Nat))) ∧ Below w.heap.size w w' := by
  have h := round_any v N l 1 exp false neg w hD hl (by omega) e2 (by omega) (by simp)
  have e : (2 * N + false.toNat) * 2 ^ (exp + 1073 + ((1 : Nat) : Int)).toNat = 2 * (N * 2 ^ (exp + 1074).toNat) := by
    rw [show exp + 1073 + ((1 : Nat) : Int) = exp + 1074 by omega]
    simp only [Bool.toNat_false, Nat.add_zero]
    rw [Nat.mul_assoc]
  rw [e, rung_one] at h
  exact h

end Go.Proofs.YthmocdabakkfhaaGreatDoor

/-
  The reference of layer 2: Add, Neg, Sub, Mul.
-/
namespace Go.Proofs.YthmocdabakkfhaaGreatDoor
set_option maxRecDepth 100000
open Go.RowKit Dg Flo

end Go.Proofs.YthmocdabakkfhaaGreatDoor

/-
  Plain mathematics: which whole numbers of units are numbers, and what rounding gives of them.
-/
namespace Go.Proofs.YthmocdabakkfhaaGreatDoor.Flo
set_option maxRecDepth 100000
open Go.Proofs.YthmocdabakkfhaaGreatDoor

/-- Where the greatest numbers end, as a power of two of units. -/
def TP : Nat := 2098
theorem TP_eq : TP = 2098 := rfl
def pl (r : Nat) : Nat := r / 4503599627370496 - 1
def pq (r : Nat) : Nat := if r < 4503599627370496 then r else 4503599627370496 + r % 4503599627370496

theorem M_parts (r : Nat) : M r = pq r * 2 ^ pl r ∧ pq r < 9007199254740992 ∧ (1 ≤ pl r → 4503599627370496 ≤ pq r) := by
  unfold M pq pl
  by_cases h : r < 4503599627370496
  · rw [if_pos h, if_pos h, Nat.div_eq_of_lt h]
    refine ⟨by simp, by omega, by omega⟩
  · rw [if_neg h, if_neg h]
    exact ⟨rfl, by omega, by omega⟩
theorem M_at {q l : Nat} (h : q < 9007199254740992) (h0 : l = 0 ∨ 4503599627370496 ≤ q) : M (l * 4503599627370496 + q) = q * 2 ^ l := by
  unfold M
  by_cases c : q < 4503599627370496
  · have : l = 0 := by omega
    subst this
    rw [if_pos (by omega)]; simp
  · rw [if_neg (by omega)]
    have e1 : (l * 4503599627370496 + q) % 4503599627370496 = q - 4503599627370496 := by omega
    have e2 : (l * 4503599627370496 + q) / 4503599627370496 = l + 1 := by omega
    rw [e1, e2, show l + 1 - 1 = l by omega, show 4503599627370496 + (q - 4503599627370496) = q by omega]
theorem rung_M {r : Nat} (h : r ≤ 9218868437227405312) : rung 0 (M r) = r := by
  obtain ⟨e, h1, h2⟩ := M_parts r
  rw [e]
  by_cases c : r < 4503599627370496
  · have e1 : pl r = 0 := by unfold pl; rw [Nat.div_eq_of_lt c]
    have e2 : pq r = r := by unfold pq; rw [if_pos c]
    rw [e1, e2, rung_b0 (L := 52) (by omega) (by omega) (by omega)]
    simp
    omega
  · have e2 : pq r = 4503599627370496 + r % 4503599627370496 := by unfold pq; rw [if_neg c]
    rw [rung_a0 (L := 52) (by omega) (by omega) (by omega) (by omega), e2]
    unfold pl
    simp only [Nat.sub_self, Nat.pow_zero, Nat.mul_one]
    omega

/-- A whole number of units that is a number. -/
def Rep (v : Nat) : Prop := ∃ r, r < 9218868437227405312 ∧ M r = v
theorem Rep.rung {v : Nat} (h : Rep v) : rung 0 v < 9218868437227405312 ∧ M (rung 0 v) = v := by
  obtain ⟨r, h1, rfl⟩ := h
  rw [rung_M (by omega)]
  exact ⟨h1, rfl⟩
theorem rep_zero : Rep 0 := ⟨0, by decide, M_zero⟩
theorem rep_lt {n k : Nat} (h : n < 9007199254740992) (hv : n * 2 ^ k < 2 ^ TP) : Rep (n * 2 ^ k) := by
  have ht := TP_eq
  by_cases h0 : n = 0
  · subst h0; rw [Nat.zero_mul]; exact rep_zero
  · have b1 := Nat.log2_self_le h0
    have b2 : n < 2 ^ (n.log2 + 1) := Nat.lt_log2_self
    have b3 : n.log2 < 53 := (Nat.log2_lt h0).2 (by omega)
    generalize n.log2 = L at *
    by_cases c : L + k < 52
    · have b4 : n * 2 ^ k < 2 ^ (L + 1 + k) := scaled_lt b2
      have b5 : 2 ^ (L + 1 + k) ≤ 2 ^ 52 := Nat.pow_le_pow_right (by decide) (by omega)
      refine ⟨n * 2 ^ k, by omega, ?_⟩
      unfold M
      rw [if_pos (by omega)]
    · obtain ⟨s, hs⟩ : ∃ s, s = L + k - 52 := ⟨_, rfl⟩
      have e : n * 2 ^ k = n * 2 ^ (52 - L) * 2 ^ s := by rw [Nat.mul_assoc, ← Nat.pow_add, show 52 - L + s = k by omega]
      have q1 : n * 2 ^ (52 - L) < 2 ^ (L + 1 + (52 - L)) := scaled_lt b2
      have q2 : 2 ^ (L + (52 - L)) ≤ n * 2 ^ (52 - L) := scaled_ge b1
      rw [show L + 1 + (52 - L) = 53 by omega] at q1
      rw [show L + (52 - L) = 52 by omega] at q2
      rw [e] at hv ⊢
      generalize n * 2 ^ (52 - L) = q at *
      have s1 : s ≤ 2045 := by
        rcases Nat.lt_or_ge s 2046 with k1 | k1
        · omega
        · exfalso
          have h1 : 2 ^ (52 + s) ≤ q * 2 ^ s := scaled_ge q2
          have h2 : 2 ^ TP ≤ 2 ^ (52 + s) := Nat.pow_le_pow_right (by decide) (by omega)
          omega
      exact ⟨s * 4503599627370496 + q, by omega, M_at (by omega) (Or.inr (by omega))⟩
theorem rep_of {n k : Nat} (h : n ≤ 9007199254740992) (hv : n * 2 ^ k < 2 ^ TP) : Rep (n * 2 ^ k) := by
  rcases Nat.lt_or_ge n 9007199254740992 with c | c
  · exact rep_lt c hv
  · have e : n = 9007199254740992 := by omega
    subst e
    have e2 : 9007199254740992 * 2 ^ k = 4503599627370496 * 2 ^ (k + 1) := by rw [Nat.pow_succ]; omega
    rw [e2] at hv ⊢
    exact rep_lt (by omega) hv

/-- What a number that is rounded stands for. -/
theorem M_rung {v : Nat} (h : rung 0 v < 9218868437227405312) : M (rung 0 v) = rne v (lowest 0 v) * 2 ^ lowest 0 v := by
  obtain ⟨a1, a2, a3⟩ := lowest_spec 0 v
  have e : rung 0 v = lowest 0 v * 4503599627370496 + rne v (lowest 0 v) := by
    unfold rung at h ⊢
    rw [Nat.sub_zero] at h ⊢
    omega
  rw [e]
  have r1 := rne_le a2
  generalize lowest 0 v = d at *
  by_cases c : rne v d = 9007199254740992
  · rw [c, show d * 4503599627370496 + 9007199254740992 = (d + 1) * 4503599627370496 + 4503599627370496 by omega, M_at (by omega) (Or.inr (by omega)), Nat.pow_succ]
    omega
  · refine M_at (by omega) ?_
    rcases Nat.eq_zero_or_pos d with k | k
    · exact Or.inl k
    · exact Or.inr (rne_ge (a3 k))

end Go.Proofs.YthmocdabakkfhaaGreatDoor.Flo
