/-
  What Make makes, seen as places on a line; small laws for the statements' walks.
-/
import Derived.Test.YtgkhpnebofijdabFloLives
namespace Go.Proofs.Ytgkhpnebofijdab
open Go.RowKit Flo

theorem nat_nan {v : Nat} (h : v ≤ 9218868437227405312) : nanB (v : Int) = false := by
  unfold nanB mag; rw [if_neg (by omega)]; exact decide_eq_false (by omega)
theorem nat_sv {v : Nat} (h : v ≤ 9218868437227405312) : sv (v : Int) = v := by
  unfold sv; rw [if_neg (by omega)]
theorem nat_neg {v : Nat} (h : v ≤ 9218868437227405312) : negZ (v : Int) = 9223372036854775808 + v := by
  unfold negZ; rw [nat_nan h]; simp only [Bool.false_eq_true, if_false]; rw [if_neg (by omega)]; omega
theorem neg_nat_nan {v : Nat} (h : v ≤ 9218868437227405312) : nanB (9223372036854775808 + (v : Int)) = false := by
  unfold nanB mag; rw [if_pos (by omega)]; exact decide_eq_false (by omega)
theorem neg_nat_sv {v : Nat} (h : v ≤ 9218868437227405312) : sv (9223372036854775808 + (v : Int)) = -v := by
  unfold sv; rw [if_pos (by omega)]; omega
theorem nat_u64 {v : Nat} (h : v ≤ 9218868437227405312) : U64 (v : Int) := ⟨by omega, by omega⟩
theorem less_nat {v u : Nat} (hv : v ≤ 9218868437227405312) (hu : u ≤ 9218868437227405312) : lessB (v : Int) (u : Int) = decide (v < u) := by
  unfold lessB; rw [nat_nan hv, nat_nan hu, nat_sv hv, nat_sv hu]; simp
theorem less_negs {v u : Nat} (hv : v ≤ 9218868437227405312) (hu : u ≤ 9218868437227405312) : lessB (negZ (v : Int)) (negZ (u : Int)) = decide (u < v) := by
  unfold lessB; rw [nat_neg hv, nat_neg hu, neg_nat_nan hv, neg_nat_nan hu, neg_nat_sv hv, neg_nat_sv hu]
  simp
theorem before_nat {v u : Nat} (hv : v ≤ 9218868437227405312) (hu : u ≤ 9218868437227405312) : beforeB (v : Int) (u : Int) = decide (v < u) := by
  unfold beforeB; rw [nat_nan hv, nat_nan hu, nat_sv hv, nat_sv hu]
  unfold belowB
  rw [decide_eq_false (show ¬ (9223372036854775808 : Int) ≤ (v : Int) by omega)]
  simp
  omega

theorem make_pos (half : Bool) (exp : Int) (f : Nat) (w : World) (hf : f < 18446744073709551616) :
    Calls Try.prog 5 #[.bool false, .int .i64 exp, .int .u64 f, .bool half] w fun e w' => e = .returned (.int .u64 (rung G (units exp f half) : Nat)) ∧ w' = w :=
  make_any false half exp f w hf
theorem make_neg (half : Bool) (exp : Int) (f : Nat) (w : World) (hf : f < 18446744073709551616) :
    Calls Try.prog 5 #[.bool true, .int .i64 exp, .int .u64 f, .bool half] w fun e w' => e = .returned (.int .u64 (9223372036854775808 + (rung G (units exp f half) : Nat))) ∧ w' = w :=
  make_any true half exp f w hf
theorem units_mono (exp : Int) (half : Bool) {f g : Nat} (h : f ≤ g) : units exp f half ≤ units exp g half :=
  Nat.mul_le_mul_right _ (by omega)

end Go.Proofs.Ytgkhpnebofijdab
