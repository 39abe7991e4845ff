/-
  Plain laws of sums and products: either order, signs.
-/
import Derived.Test.YtpjgmlhchaojaaaSumWalk
namespace Go.Proofs.Ytpjgmlhchaojaaa
open Go.RowKit Flo

theorem addBad_comm (a b : Int) : addBad a b = addBad b a := by
  unfold addBad
  cases nanB a <;> cases nanB b <;> cases infB a <;> cases infB b <;> cases belowB a <;> cases belowB b <;> rfl
theorem addZ_comm {a b : Int} (ha : U64 a) (hb : U64 b) : addZ a b = addZ b a := by
  unfold addZ
  rw [addBad_comm b a]
  cases hbad : addBad a b
  · simp only [Bool.false_eq_true, if_false]
    cases h1 : infB a <;> cases h2 : infB b
    · simp only [Bool.false_eq_true, if_false]
      rw [Bool.and_comm, Int.add_comm]
    · simp only [Bool.false_eq_true, if_false, if_true]
    · simp only [Bool.false_eq_true, if_false, if_true]
    · simp only [if_true]
      unfold addBad at hbad
      rw [h1, h2] at hbad
      have hx : (belowB a ^^ belowB b) = false := by
        revert hbad; cases nanB a <;> cases nanB b <;> simp
      have e1 := inf_word ha (of_decide_eq_true h1)
      have e2 := inf_word hb (of_decide_eq_true h2)
      have : belowB a = belowB b := by revert hx; cases belowB a <;> cases belowB b <;> simp
      rw [this] at e1
      exact e1.trans e2.symm
  · simp only [if_true]
theorem nanZ_nan : nanB 9221120237041090560 = true := by decide
theorem neg_of_nan {b : Int} (h : nanB b = true) : negZ b = 9221120237041090560 := by unfold negZ; rw [h]; rfl
theorem neg_nan (b : Int) (hb : U64 b) : nanB (negZ b) = nanB b := by
  cases h : nanB b
  · have := (neg_parts hb h).1
    unfold nanB at h ⊢
    rw [this, h]
  · rw [neg_of_nan h, nanZ_nan]
theorem neg_neg {b : Int} (hb : U64 b) (h : nanB b = false) : negZ (negZ b) = b := by
  have h2 := neg_nan b hb
  rw [h] at h2
  obtain ⟨h0, h1⟩ := hb
  unfold negZ at h2 ⊢
  rw [h] at h2 ⊢
  simp only [Bool.false_eq_true, if_false] at h2 ⊢
  rw [h2]
  simp only [Bool.false_eq_true, if_false]
  by_cases c : 9223372036854775808 ≤ b
  · rw [if_pos c, if_neg (by omega)]; omega
  · rw [if_neg c, if_pos (by omega)]; omega
theorem addZ_nanl {a b : Int} (h : nanB a = true) : addZ a b = 9221120237041090560 := by unfold addZ addBad; rw [h]; simp
theorem addZ_nanr {a b : Int} (h : nanB b = true) : addZ a b = 9221120237041090560 := by unfold addZ addBad; rw [h]; simp
theorem sub_neg {a b : Int} (hb : U64 b) : subZ a (negZ b) = addZ a b := by
  unfold subZ
  cases h : nanB b
  · rw [neg_neg hb h]
  · rw [addZ_nanr h, addZ_nanr]
    rw [neg_nan _ (negZ_u64 hb), neg_nan _ hb, h]

theorem mulBad_comm (a b : Int) : mulBad a b = mulBad b a := by
  unfold mulBad
  cases nanB a <;> cases nanB b <;> cases infB a <;> cases infB b <;> cases decide (mag a = 0) <;> cases decide (mag b = 0) <;> rfl
theorem mulZ_comm (a b : Int) : mulZ a b = mulZ b a := by
  unfold mulZ
  rw [mulBad_comm b a, Bool.or_comm (infB b), Bool.xor_comm (belowB b), Nat.mul_comm (MZ b)]
theorem neg_sgn (s : Bool) {r : Nat} (h : r ≤ 9218868437227405312) : negZ (sgn s + (r : Int)) = sgn (!s) + (r : Int) := by
  unfold negZ nanB mag sgn
  cases s
  · simp only [Bool.false_eq_true, if_false, Bool.not_false, if_true]
    rw [if_neg (show ¬ (9223372036854775808 : Int) ≤ 0 + (r : Int) by omega), decide_eq_false (by omega)]
    simp only [Bool.false_eq_true, if_false]
    rw [if_neg (show ¬ (9223372036854775808 : Int) ≤ 0 + (r : Int) by omega)]
    omega
  · simp only [Bool.false_eq_true, if_false, Bool.not_true, if_true]
    rw [if_pos (show (9223372036854775808 : Int) ≤ 9223372036854775808 + (r : Int) by omega), decide_eq_false (by omega)]
    simp only [Bool.false_eq_true, if_false]
    rw [if_pos (show (9223372036854775808 : Int) ≤ 9223372036854775808 + (r : Int) by omega)]
    omega
theorem mulZ_neg {a b : Int} (ha : U64 a) : mulZ (negZ a) b = negZ (mulZ a b) := by
  cases h : nanB a
  · obtain ⟨e1, e2⟩ := neg_parts ha h
    have e3 := neg_nan a ha
    have e4 : infB (negZ a) = infB a := by unfold infB; rw [e1]
    have e5 : MZ (negZ a) = MZ a := by unfold MZ; rw [e1]
    have e6 : mulBad (negZ a) b = mulBad a b := by unfold mulBad; rw [e1, e3, e4]
    unfold mulZ
    rw [e6, e4, e5, e2]
    have hx : (!belowB a ^^ belowB b) = !(belowB a ^^ belowB b) := by cases belowB a <;> cases belowB b <;> rfl
    rw [hx]
    split
    · rw [neg_of_nan nanZ_nan]
    · split
      · exact (neg_sgn _ (Nat.le_refl _)).symm
      · exact (neg_sgn _ (rung_le _ _)).symm
  · have e1 : mulZ a b = 9221120237041090560 := by unfold mulZ mulBad; rw [h]; simp
    have e2 : mulZ (negZ a) b = 9221120237041090560 := by unfold mulZ mulBad; rw [neg_nan a ha, h]; simp
    rw [e1, e2, neg_of_nan nanZ_nan]

end Go.Proofs.Ytpjgmlhchaojaaa
