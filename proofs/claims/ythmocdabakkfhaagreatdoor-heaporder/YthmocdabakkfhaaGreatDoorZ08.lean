/-
  SumFast, SumPlain, SumLaws, WholeMath, WholeHalves, WholeRef
-/
import Derived.Test.YthmocdabakkfhaaGreatDoorZ07

/-
  Plain mathematics: what a sum lacks is a number, and so is what the sum is more than the greater one.
-/
namespace Go.Proofs.YthmocdabakkfhaaGreatDoor.Flo
set_option maxRecDepth 100000
open Go.Proofs.YthmocdabakkfhaaGreatDoor

def RepI (z : Int) : Prop := Rep z.natAbs
theorem RepI.neg {z : Int} (h : RepI z) : RepI (-z) := by unfold RepI; rw [Int.natAbs_neg]; exact h
theorem pow_split {a b : Nat} (h : a ≤ b) : 2 ^ b = 2 ^ (b - a) * 2 ^ a := by rw [← Nat.pow_add]; congr 1; omega

theorem SV_word {s : Bool} {r : Nat} (h : r ≤ 9218868437227405312) : SV (sgn s + (r : Int)) = sz s (M r) ∧ mag (sgn s + (r : Int)) = (r : Int) ∧ belowB (sgn s + (r : Int)) = s := by
  have h1 : mag (sgn s + (r : Int)) = (r : Int) := by
    unfold mag sgn; cases s
    · simp only [Bool.false_eq_true, if_false]; rw [if_neg (by omega)]; omega
    · simp only [if_true]; rw [if_pos (by omega)]; omega
  have h2 : belowB (sgn s + (r : Int)) = s := by
    unfold belowB sgn; cases s
    · simp only [Bool.false_eq_true, if_false]; exact decide_eq_false (by omega)
    · simp only [if_true]; exact decide_eq_true (by omega)
  refine ⟨?_, h1, h2⟩
  unfold SV MZ
  rw [h1, h2, Int.toNat_natCast]
end Go.Proofs.YthmocdabakkfhaaGreatDoor.Flo

/-
  Plain laws of sums and products: either order, signs.
-/
namespace Go.Proofs.YthmocdabakkfhaaGreatDoor
set_option maxRecDepth 100000
open Go.RowKit Flo

end Go.Proofs.YthmocdabakkfhaaGreatDoor

/-
  Plain mathematics of the statements of layer 2.
-/
namespace Go.Proofs.YthmocdabakkfhaaGreatDoor
set_option maxRecDepth 100000
open Go.RowKit Flo

/-- The place of one, in units. -/
def OP : Nat := 1074
theorem OP_eq : OP = 1074 := rfl

theorem word_again {a : Int} (h : U64 a) : a = sgn (belowB a) + mag a := by
  obtain ⟨h0, h1⟩ := h
  unfold belowB sgn mag
  by_cases c : 9223372036854775808 ≤ a
  · rw [decide_eq_true c, if_pos rfl, if_pos c]; omega
  · rw [decide_eq_false c, if_neg c]; simp
theorem rung_MZ {a : Int} (h : U64 a) (hm : mag a ≤ 9218868437227405312) : ((rung 0 (MZ a) : Nat) : Int) = mag a := by
  unfold MZ
  have := (mag_range h).1
  rw [rung_M (by omega)]
  omega
theorem MZ_0 {a : Int} (h : U64 a) : MZ a = 0 ↔ mag a = 0 := by
  have h0 := (mag_range h).1
  unfold MZ
  have := @M_inj (mag a).toNat 0
  rw [M_zero] at this
  rw [this]
  omega
/-! What nothing, and one, do. -/
/-! Order. -/
theorem sv_sz {a : Int} (ha : U64 a) : sv a = sz (belowB a) (mag a).toNat := by
  obtain ⟨h0, h1⟩ := ha
  unfold sv belowB mag sz
  by_cases c : 9223372036854775808 ≤ a
  · rw [if_pos c, decide_eq_true c, if_pos rfl, if_pos c]; omega
  · rw [if_neg c, decide_eq_false c, if_neg c]; simp; omega
theorem SV_mono {a b : Int} (ha : U64 a) (hb : U64 b) (h : sv a ≤ sv b) : SV a ≤ SV b := by
  rw [sv_sz ha, sv_sz hb] at h
  have k := cmp_sz (belowB b) (belowB a) (mag b).toNat (mag a).toNat
  unfold SV MZ
  generalize sz (belowB a) (mag a).toNat = x at *
  generalize sz (belowB b) (mag b).toNat = y at *
  generalize sz (belowB a) (M (mag a).toNat) = X at *
  generalize sz (belowB b) (M (mag b).toNat) = Y at *
  rcases Int.lt_or_le Y X with q | q
  · exfalso
    have e1 : (compare Y X == .lt) = true := by rw [cmp_lt]; exact decide_eq_true q
    rw [k, cmp_lt] at e1
    have := of_decide_eq_true e1
    omega
  · exact q
/-! Whole numbers. -/
def wholeN (n : Nat) : Nat := rung 0 (n * 2 ^ OP)
/-! Powers of two. -/
/-! What a sum lacks. -/
end Go.Proofs.YthmocdabakkfhaaGreatDoor

/-
  Layer 4: the whole numbers about a number: plain mathematics.
-/
namespace Go.Proofs.YthmocdabakkfhaaGreatDoor
set_option maxRecDepth 100000
open Go.RowKit Flo

/-- Units in 1. -/
def UN : Nat := 2 ^ OP
theorem UN_pos : 0 < UN := Nat.two_pow_pos _
theorem UN_eq : UN = 2 ^ OP := rfl

/-- Whether the whole number farther from 0 is taken; how: 0 toward 0, 1 down, 2 up, 3 the nearest. -/
def farB (u how : Nat) (neg : Bool) (V : Nat) : Bool := match how with
  | 1 => decide (V % u ≠ 0) && neg
  | 2 => decide (V % u ≠ 0) && !neg
  | 3 => decide (V % u ≠ 0) && (decide (0 < cmpZ (2 * (V % u)) u) || (cmpZ (2 * (V % u)) u == 0 && V / u % 2 == 1))
  | _ => false
def wcut (u how : Nat) (neg : Bool) (V : Nat) : Nat := V / u + (farB u how neg V).toNat

theorem far_exact {u how V : Nat} (neg : Bool) (h : V % u = 0) : farB u how neg V = false := by
  unfold farB; rw [h]; split <;> simp
theorem wcut_exact {u how V : Nat} (neg : Bool) (h : V % u = 0) : wcut u how neg V = V / u := by
  unfold wcut; rw [far_exact neg h]; rfl
theorem far_three {u V : Nat} (hu : 0 < u) (neg : Bool) : farB u 3 neg V = decide (u < 2 * (V % u) ∨ (u = 2 * (V % u) ∧ V / u % 2 = 1)) := by
  show (decide (V % u ≠ 0) && (decide (0 < cmpZ (2 * (V % u)) u) || (cmpZ (2 * (V % u)) u == 0 && V / u % 2 == 1))) = _
  generalize V % u = r
  generalize V / u % 2 = p
  unfold cmpZ
  by_cases c1 : 2 * r < u
  · rw [if_pos c1, decide_eq_false (p := u < 2 * r ∨ _) (by omega)]; simp
  · rw [if_neg c1]
    by_cases c2 : 2 * r = u
    · rw [if_pos c2]
      by_cases c3 : p = 1
      · rw [decide_eq_true (p := u < 2 * r ∨ _) (by omega), decide_eq_true (p := r ≠ 0) (by omega), c3]; decide
      · rw [decide_eq_false (p := u < 2 * r ∨ _) (by omega), beq_false_of_ne c3]; simp
    · rw [if_neg c2, decide_eq_true (p := u < 2 * r ∨ _) (by omega), decide_eq_true (p := r ≠ 0) (by omega)]; simp
theorem wcut_le (u how : Nat) (neg : Bool) (V : Nat) : wcut u how neg V ≤ V / u + 1 := by
  unfold wcut
  have b1 : (farB u how neg V).toNat ≤ 1 := Bool.toNat_le _
  omega

theorem wcut_rep {r how : Nat} (neg : Bool) (h : r < 9218868437227405312) : Rep (wcut UN how neg (M r) * UN) := by
  by_cases c : M r % UN = 0
  · rw [wcut_exact neg c]
    have := Nat.div_add_mod (M r) UN
    rw [c, Nat.add_zero, Nat.mul_comm] at this
    rw [this]
    exact ⟨r, h, rfl⟩
  · obtain ⟨e, q, _⟩ := M_parts r
    have hl : pl r < OP := by
      apply Classical.byContradiction; intro k
      apply c
      rw [e, UN_eq, pow_split (show OP ≤ pl r by omega), ← Nat.mul_assoc]
      exact Nat.mul_mod_left _ _
    have hd : M r / UN < 4503599627370496 := by
      rw [e, UN_eq, pow_split (show pl r ≤ OP by omega), Nat.mul_div_mul_right _ _ (Nat.two_pow_pos _)]
      have h2 : 2 ^ 1 ≤ 2 ^ (OP - pl r) := Nat.pow_le_pow_right (by decide) (by omega)
      exact Nat.lt_of_le_of_lt (Nat.div_le_div_left h2 (by decide)) (by omega)
    have hw := wcut_le UN how neg (M r)
    have h3 : wcut UN how neg (M r) ≤ 2 ^ 53 := by omega
    have h4 : wcut UN how neg (M r) * 2 ^ OP < 2 ^ TP := by
      have h5 : (2 : Nat) ^ 53 * 2 ^ OP < 2 ^ TP := by
        rw [← Nat.pow_add]
        exact Nat.pow_lt_pow_right (by decide) (by rw [OP_eq, TP_eq]; decide)
      exact Nat.lt_of_le_of_lt (Nat.mul_le_mul_right _ h3) h5
    exact rep_of (by omega) h4

def wholeZ (how : Nat) (a : Int) : Int := if nanB a then 9221120237041090560 else if infB a then a else sgn (belowB a) + (rung 0 (wcut UN how (belowB a) (MZ a) * UN) : Nat)

theorem wholeZ_nan {how : Nat} {a : Int} (h : nanB a = true) : wholeZ how a = 9221120237041090560 := by unfold wholeZ; rw [if_pos h]
theorem wholeZ_inf {how : Nat} {a : Int} (h : infB a = true) : wholeZ how a = a := by
  have hn : nanB a = false := inf_nan (of_decide_eq_true h)
  unfold wholeZ; rw [hn, h]; simp only [Bool.false_eq_true, if_false, if_true]
theorem wholeZ_fin {how : Nat} {a : Int} (h : mag a < 9218868437227405312) : wholeZ how a = sgn (belowB a) + (rung 0 (wcut UN how (belowB a) (MZ a) * UN) : Nat) := by
  unfold wholeZ; rw [fin_nan h, fin_inf h]
  generalize rung 0 (wcut UN how (belowB a) (MZ a) * UN) = R
  simp only [Bool.false_eq_true, if_false]
theorem wholeZ_u64 {how : Nat} {a : Int} (ha : U64 a) : U64 (wholeZ how a) := by
  unfold wholeZ
  have hr := rung_le 0 (wcut UN how (belowB a) (MZ a) * UN)
  generalize rung 0 (wcut UN how (belowB a) (MZ a) * UN) = R at *
  split
  · exact ⟨by decide, by decide⟩
  · split
    · exact ha
    · unfold U64 sgn; cases belowB a <;> simp <;> omega

/-- A word with a sign and a rung that is a number. -/
theorem word_parts (s : Bool) {v : Nat} (h : Rep v) : mag (sgn s + (rung 0 v : Nat)) < 9218868437227405312 ∧ belowB (sgn s + (rung 0 v : Nat)) = s ∧ MZ (sgn s + (rung 0 v : Nat)) = v ∧ SV (sgn s + (rung 0 v : Nat)) = sz s v := by
  obtain ⟨h1, h2⟩ := h.rung
  obtain ⟨w1, w2, w3⟩ := SV_word (s := s) (r := rung 0 v) (by omega)
  refine ⟨by rw [w2]; omega, w3, ?_, by rw [w1, h2]⟩
  unfold MZ
  rw [w2, Int.toNat_natCast, h2]

theorem mag_nat {a : Int} (ha : U64 a) (h : mag a < 9218868437227405312) : (mag a).toNat < 9218868437227405312 := by have := (mag_range ha).1; omega
theorem wh_rep {how : Nat} {a : Int} (neg : Bool) (ha : U64 a) (h : mag a < 9218868437227405312) : Rep (wcut UN how neg (MZ a) * UN) := wcut_rep neg (mag_nat ha h)
theorem wh_parts {how : Nat} {a : Int} (ha : U64 a) (h : mag a < 9218868437227405312) : mag (wholeZ how a) < 9218868437227405312 ∧ belowB (wholeZ how a) = belowB a ∧ MZ (wholeZ how a) = wcut UN how (belowB a) (MZ a) * UN ∧ SV (wholeZ how a) = sz (belowB a) (wcut UN how (belowB a) (MZ a) * UN) := by
  rw [wholeZ_fin h]
  exact word_parts _ (wh_rep _ ha h)

/-- A whole number stays what it is. -/
theorem whole_stays {how : Nat} {a : Int} (ha : U64 a) (h : mag a < 9218868437227405312) (hw : MZ a % UN = 0) : wholeZ how a = a := by
  rw [wholeZ_fin h, wcut_exact _ hw]
  have e : MZ a / UN * UN = MZ a := by
    have := Nat.div_add_mod (MZ a) UN
    rw [hw, Nat.add_zero, Nat.mul_comm] at this
    exact this
  rw [e, rung_MZ ha (by omega)]
  exact (word_again ha).symm
/-- Whether a number is whole. -/
def isZ (a : Int) : Bool := decide (mag a < 9218868437227405312) && decide (MZ a % UN = 0)
end Go.Proofs.YthmocdabakkfhaaGreatDoor

/-
  The reference's halves: the whole part of a number, whether there is a rest, how it stands to a half.
-/
namespace Go.Proofs.YthmocdabakkfhaaGreatDoor
set_option maxRecDepth 100000
open Go.RowKit Dg Flo

theorem cmp_scale {n m c : Nat} (hc : 0 < c) : cmpZ (n * c) (m * c) = cmpZ n m := by
  unfold cmpZ
  by_cases h1 : n < m
  · rw [if_pos h1, if_pos (Nat.mul_lt_mul_of_pos_right h1 hc)]
  · rw [if_neg h1, if_neg (by have := Nat.mul_le_mul_right c (Nat.le_of_not_lt h1); omega)]
    by_cases h2 : n = m
    · rw [h2]; simp
    · rw [if_neg h2, if_neg (by intro h; exact h2 (Nat.mul_right_cancel hc h))]

end Go.Proofs.YthmocdabakkfhaaGreatDoor

/-
  The reference's Is, round, Trunc, Floor, Ceil, Near.
-/
namespace Go.Proofs.YthmocdabakkfhaaGreatDoor
set_option maxRecDepth 100000
open Go.RowKit Dg Flo

theorem round_un (v : Value) (N l : Nat) (neg : Bool) (w : World) (hD : D w v N l) (hl : l ≤ 1048576) :
    Calls Tryz.prog 70 #[.bool neg, .int .i64 0, v, .bool false] w fun e w' => e = .returned (.int .u64 (sgn neg + (rung 0 (N * UN) : Nat))) ∧ Below w.heap.size w w' := by
  have h := round_one v N l 0 neg w hD hl (by decide) (by decide)
  have e : N * 2 ^ ((0 : Int) + 1074).toNat = N * UN := by
    have ex : ((0 : Int) + 1074).toNat = OP := rfl
    rw [ex, UN_eq]
  rw [e] at h
  exact h
end Go.Proofs.YthmocdabakkfhaaGreatDoor
