/-
  The walks of layer 2: what Add, Sub, Mul answer.
-/
import Derived.Test.YteihehpgegkcpaaSumMath
namespace Go.Proofs.Yteihehpgegkcpaa
open Go.RowKit Flo

theorem nearZ_u64 (z : Bool) (T : Int) : U64 (nearZ z T) := by
  have h := rung_le 0 T.natAbs
  unfold nearZ sgn U64
  split
  · cases z <;> simp
  · cases decide (T < 0) <;> simp <;> omega
theorem addZ_u64 {a b : Int} (ha : U64 a) (hb : U64 b) : U64 (addZ a b) := by
  unfold addZ
  split
  · exact ⟨by decide, by decide⟩
  · split
    · exact ha
    · split
      · exact hb
      · exact nearZ_u64 _ _
theorem mulZ_u64 (a b : Int) : U64 (mulZ a b) := by
  have h := rung_le 1074 (MZ a * MZ b)
  generalize hr : rung 1074 (MZ a * MZ b) = r at h
  unfold mulZ U64 sgn
  rw [hr]
  split
  · decide
  · split
    · cases belowB a ^^ belowB b <;> decide
    · cases belowB a ^^ belowB b <;> simp <;> omega

theorem nearZ_nan (z : Bool) (T : Int) : nanB (nearZ z T) = false := by
  have h := rung_le 0 T.natAbs
  unfold nearZ sgn nanB mag
  generalize rung 0 T.natAbs = r at *
  split
  · cases z <;> decide
  · cases decide (T < 0)
    · simp; split <;> omega
    · simp; split <;> omega
theorem addZ_canon {a b : Int} (_ha : U64 a) (_hb : U64 b) : canonZ (addZ a b) = addZ a b := by
  unfold canonZ
  by_cases h : addBad a b = true
  · have : addZ a b = 9221120237041090560 := by unfold addZ; rw [if_pos h]
    rw [this]; simp
  · have h' : addBad a b = false := by simpa using h
    have : nanB (addZ a b) = false := by
      unfold addZ
      rw [h']
      simp only [Bool.false_eq_true, if_false]
      unfold addBad at h'
      simp only [Bool.or_eq_false_iff] at h'
      split
      · exact h'.1
      · split
        · exact h'.2.1
        · exact nearZ_nan _ _
    rw [this]; simp
theorem mulZ_canon (a b : Int) : canonZ (mulZ a b) = mulZ a b := by
  unfold canonZ
  by_cases h : mulBad a b = true
  · have : mulZ a b = 9221120237041090560 := by unfold mulZ; rw [if_pos h]
    rw [this]; simp
  · have h' : mulBad a b = false := by simpa using h
    have : nanB (mulZ a b) = false := by
      have hr := rung_le 1074 (MZ a * MZ b)
      unfold mulZ
      rw [h']
      generalize rung 1074 (MZ a * MZ b) = r at *
      simp only [Bool.false_eq_true, if_false]
      unfold sgn nanB mag
      split
      · cases belowB a ^^ belowB b <;> decide
      · cases belowB a ^^ belowB b
        · simp; split <;> omega
        · simp; split <;> omega
    rw [this]; simp

theorem bits_run (n : Nat) (w : World) : (callFunc 21 #[.float .f64 n]).run Try.prog w = .ok (.value (.int .u64 (n : Int))) w :=
  run_callFunc_extern (e := Extern.MathFloatBits.float64bits) Try.func21 (by kernel_rfl) (by kernel_rfl) (by kernel_rfl) (by kernel_rfl) _ w

/-- An operation without an answer gives some NaN. -/
theorem float_none (op : BinOp) (x y : Nat) (w : World) (ho : op = .add ∨ op = .sub ∨ op = .mul ∨ op = .quo) (h : floatBits op .f64 x y = none) :
    ∃ n : Nat, n < 18446744073709551616 ∧ canonZ n = 9221120237041090560 ∧ ∀ t, (binOp op t (.float .f64 x) (.float .f64 y)).run Try.prog w = .ok (.float .f64 n) w.drew := by
  refine ⟨(Question.nanBits .f64 x y).cut (w.tape w.drawn (.nanBits .f64 x y)), ?_, ?_, ?_⟩
  · simp only [Question.cut]; omega
  · have : nanB (((Question.nanBits .f64 x y).cut (w.tape w.drawn (.nanBits .f64 x y)) : Nat) : Int) = true := by
      simp only [Question.cut]
      generalize w.tape w.drawn (.nanBits .f64 x y) = t
      unfold nanB mag
      rw [decide_eq_true_eq]
      split <;> omega
    unfold canonZ
    rw [this]; rfl
  · intro t
    have hq : (Question.nanBits .f64 x y).forced = false := rfl
    unfold floatBits at h
    rcases ho with rfl | rfl | rfl | rfl <;> simp only at h <;> simp [binOp, Op.floatArith, h, hq]

theorem float_op (op : BinOp) (x y : Nat) (r : Int) (w : World) (ho : op = .add ∨ op = .sub ∨ op = .mul ∨ op = .quo) (hr : U64 r) (hc : canonZ r = r)
    (h : floatBits op .f64 x y = some r.toNat ∨ (floatBits op .f64 x y = none ∧ r = 9221120237041090560)) :
    ∃ (n : Nat) (w' : World), n < 18446744073709551616 ∧ canonZ n = r ∧ Below w.heap.size w w' ∧ ∀ t, (binOp op t (.float .f64 x) (.float .f64 y)).run Try.prog w = .ok (.float .f64 n) w' := by
  rcases h with h | ⟨h, rfl⟩
  · refine ⟨r.toNat, w, u64_toNat hr, ?_, Below.refl _ _, fun t => run_float_arith w op t .f64 x y _ h⟩
    rw [show ((r.toNat : Nat) : Int) = r by have := hr.1; omega]
    exact hc
  · obtain ⟨n, h1, h2, h3⟩ := float_none op x y w ho h
    exact ⟨n, w.drew, h1, h2, (Below.refl _ _).drew, h3⟩

def subZ (a b : Int) : Int := addZ a (negZ b)
theorem lives_add : addZ 4591870180066957722 4596373779694328218 = 4599075939470750516 := by decide +kernel
theorem lives_mul : mulZ 0 13830554455654793216 = 9223372036854775808 := by decide +kernel

end Go.Proofs.Yteihehpgegkcpaa
