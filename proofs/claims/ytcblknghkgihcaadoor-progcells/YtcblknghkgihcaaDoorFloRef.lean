/-
  The walks of the reference's small functions: Kind, Neg, Nan, Canon, Order, Less, Equal, Before.
-/
import Derived.Test.YtcblknghkgihcaaDoorFloLives
import Derived.Deep.Light
namespace Go.Proofs.YtcblknghkgihcaaDoor
set_option maxRecDepth 100000
open Go.RowKit Flo

theorem ret_i64 {a b : Int} (h : a = b) : Ending.returned (.int .i64 a) = .returned (.int .i64 b) := by rw [h]
theorem ret_bool {a b : Bool} (h : a = b) : Ending.returned (.bool a) = .returned (.bool b) := by rw [h]

def expo (a : Int) : Int := a / 4503599627370496 % 2048
def frac (a : Int) : Int := a % 4503599627370496

theorem and_expo {a : Int} (h : U64 a) : bits .and .u64 (a / 4503599627370496) 2047 = expo a := by
  obtain ⟨h0, h1⟩ := h
  rw [u64_and _ _ (by omega) (by omega) (by decide) (by decide), show (2047 : Int).toNat = 2 ^ 11 - 1 from rfl, Nat.and_two_pow_sub_one_eq_mod]
  unfold expo
  omega
theorem and_frac {a : Int} (h : U64 a) : bits .and .u64 a 4503599627370495 = frac a := by
  obtain ⟨h0, h1⟩ := h
  rw [u64_and _ _ h0 h1 (by decide) (by decide), show (4503599627370495 : Int).toNat = 2 ^ 52 - 1 from by decide, Nat.and_two_pow_sub_one_eq_mod]
  unfold frac
  omega
theorem mag_parts {a : Int} (h : U64 a) : mag a = expo a * 4503599627370496 + frac a ∧ 0 ≤ expo a ∧ expo a ≤ 2047 ∧ 0 ≤ frac a ∧ frac a < 4503599627370496 := by
  obtain ⟨h0, h1⟩ := h
  unfold mag expo frac
  refine ⟨?_, by omega, by omega, by omega, by omega⟩
  split <;> omega

set_option maxHeartbeats 400000 in
theorem refKind_any (a : Int) (w : World) (h : U64 a) : Calls Tryd.prog 87 #[.int .u64 a] w fun e w' => e = .returned (.int .i64 (kindZ a)) ∧ w' = w := by
  have t1 := and_expo h
  have t2 := and_frac h
  obtain ⟨hm, e0, e1, f0, f1⟩ := mag_parts h
  unfold kindZ
  rw [hm]
  obtain ⟨h0, h1⟩ := h
  clear hm
  generalize expo a = E at *
  generalize frac a = F at *
  go_enter Tryd.func87, Tryd.ntmps87
  go_wp2
  all_goals
    go_ret
    refine ⟨ret_i64 ?_, rfl⟩
    go_light
    try simp only [beq_iff_eq, beq_eq_false_iff_ne, bne_iff_ne, bne_eq_false_iff_eq, ne_eq] at *
    all_goals ((repeat' split) <;> first | rfl | omega)

theorem kind_nan (a : Int) : (kindZ a == 4) = nanB a := by
  unfold kindZ nanB
  split
  · rw [decide_eq_true (by assumption)]; rfl
  · rw [decide_eq_false (by assumption)]
    (repeat' split) <;> rfl
theorem kind_zero (a : Int) : (kindZ a == 0) = decide (mag a = 0) := by
  unfold kindZ
  split
  · rw [decide_eq_false (by omega)]; rfl
  · split
    · rw [decide_eq_true (by assumption)]; rfl
    · rw [decide_eq_false (by assumption)]
      (repeat' split) <;> rfl
theorem kind_not_nan (a : Int) : (kindZ a != 4) = !nanB a := by rw [bne, kind_nan]

theorem refNan_any (w : World) : Calls Tryd.prog 88 #[] w fun e w' => e = .returned (.int .u64 9221120237041090560) ∧ w' = w := by
  go_enter Tryd.func88, Tryd.ntmps88
  go_wp2
  go_ret
  exact ⟨rfl, rfl⟩

theorem refCanon_any (a : Int) (w : World) (h : U64 a) : Calls Tryd.prog 78 #[.int .u64 a] w fun e w' => e = .returned (.int .u64 (canonZ a)) ∧ w' = w := by
  have t := kind_nan a
  unfold canonZ
  cases hn : nanB a
  all_goals
    rw [hn] at t
    go_enter Tryd.func78, Tryd.ntmps78
    go_wp2_with (first | (go_at_call 87; refine (refKind_any _ _ h).mono ?_; rintro e w' ⟨rfl, rfl⟩) | (go_at_call 88; refine (refNan_any _).mono ?_; rintro e w' ⟨rfl, rfl⟩))
    go_ret
    exact ⟨rfl, rfl⟩

/-- How two numbers stand to one another, as -1, 0, 1. -/
def orderZ (a b : Int) : Int := if sv a < sv b then -1 else if sv a = sv b then 0 else 1

theorem sv_below {a : Int} (h : belowB a = true) : sv a = -mag a := by
  have := of_decide_eq_true (show decide (9223372036854775808 ≤ a) = true from h)
  unfold sv mag; rw [if_pos this, if_pos this]; omega
theorem sv_above {a : Int} (h : belowB a = false) : sv a = mag a := by
  have := of_decide_eq_false (show decide (9223372036854775808 ≤ a) = false from h)
  unfold sv mag; rw [if_neg this, if_neg this]

theorem order_lt (a b : Int) : decide (orderZ a b < 0) = decide (sv a < sv b) := by
  unfold orderZ; rw [decide_eq_decide]; (repeat' split) <;> omega
theorem order_eq0 (a b : Int) : (orderZ a b == 0) = decide (sv a = sv b) := by
  unfold orderZ; rw [Bool.eq_iff_iff, beq_iff_eq, decide_eq_true_eq]; (repeat' split) <;> omega

end Go.Proofs.YtcblknghkgihcaaDoor
