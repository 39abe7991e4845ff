/-
  The walks of the reference's small functions: Kind, Neg, Nan, Canon, Order, Less, Equal, Before.
-/
import Derived.Test.YteihehpgegkcpaaFloLives
import Derived.Deep.Light
namespace Go.Proofs.Yteihehpgegkcpaa
open Go.RowKit Flo

theorem ret_i64 {a b : Int} (h : a = b) : Ending.returned (.int .i64 a) = .returned (.int .i64 b) := by rw [h]
theorem ret_bool {a b : Bool} (h : a = b) : Ending.returned (.bool a) = .returned (.bool b) := by rw [h]

def expo (a : Int) : Int := a / 4503599627370496 % 2048
def frac (a : Int) : Int := a % 4503599627370496

theorem and_expo {a : Int} (h : U64 a) : bits .and .u64 (a / 4503599627370496) 2047 = expo a := by
  obtain ⟨h0, h1⟩ := h
  rw [u64_and _ _ (by omega) (by omega) (by decide) (by decide), show (2047 : Int).toNat = 2 ^ 11 - 1 from rfl, Nat.and_two_pow_sub_one_eq_mod]
  unfold expo
  omega
theorem and_frac {a : Int} (h : U64 a) : bits .and .u64 a 4503599627370495 = frac a := by
  obtain ⟨h0, h1⟩ := h
  rw [u64_and _ _ h0 h1 (by decide) (by decide), show (4503599627370495 : Int).toNat = 2 ^ 52 - 1 from by decide, Nat.and_two_pow_sub_one_eq_mod]
  unfold frac
  omega
theorem mag_parts {a : Int} (h : U64 a) : mag a = expo a * 4503599627370496 + frac a ∧ 0 ≤ expo a ∧ expo a ≤ 2047 ∧ 0 ≤ frac a ∧ frac a < 4503599627370496 := by
  obtain ⟨h0, h1⟩ := h
  unfold mag expo frac
  refine ⟨?_, by omega, by omega, by omega, by omega⟩
  split <;> omega

set_option maxHeartbeats 400000 in
theorem refKind_any (a : Int) (w : World) (h : U64 a) : Calls Try.prog 24 #[.int .u64 a] w fun e w' => e = .returned (.int .i64 (kindZ a)) ∧ w' = w := by
  have t1 := and_expo h
  have t2 := and_frac h
  obtain ⟨hm, e0, e1, f0, f1⟩ := mag_parts h
  unfold kindZ
  rw [hm]
  obtain ⟨h0, h1⟩ := h
  clear hm
  generalize expo a = E at *
  generalize frac a = F at *
  go_enter Try.func24, Try.ntmps24
  go_wp2
  all_goals
    go_ret
    refine ⟨ret_i64 ?_, rfl⟩
    go_light
    try simp only [beq_iff_eq, beq_eq_false_iff_ne, bne_iff_ne, bne_eq_false_iff_eq, ne_eq] at *
    all_goals ((repeat' split) <;> first | rfl | omega)

theorem refNeg_any (a : Int) (w : World) (h : U64 a) : Calls Try.prog 15 #[.int .u64 a] w fun e w' => e = .returned (.bool (belowB a)) ∧ w' = w := by
  have e : belowB a = (a / 9223372036854775808 == 1) := by
    obtain ⟨h0, h1⟩ := h
    unfold belowB
    rw [Bool.eq_iff_iff, decide_eq_true_eq, beq_iff_eq]
    omega
  rw [e]
  clear e
  go_enter Try.func15, Try.ntmps15
  go_wp2
  go_ret
  exact ⟨rfl, rfl⟩

theorem kind_nan (a : Int) : (kindZ a == 4) = nanB a := by
  unfold kindZ nanB
  split
  · rw [decide_eq_true (by assumption)]; rfl
  · rw [decide_eq_false (by assumption)]
    (repeat' split) <;> rfl
theorem kind_zero (a : Int) : (kindZ a == 0) = decide (mag a = 0) := by
  unfold kindZ
  split
  · rw [decide_eq_false (by omega)]; rfl
  · split
    · rw [decide_eq_true (by assumption)]; rfl
    · rw [decide_eq_false (by assumption)]
      (repeat' split) <;> rfl
theorem kind_not_nan (a : Int) : (kindZ a != 4) = !nanB a := by rw [bne, kind_nan]

/-- How two numbers stand to one another, as -1, 0, 1. -/
def orderZ (a b : Int) : Int := if sv a < sv b then -1 else if sv a = sv b then 0 else 1

theorem sv_below {a : Int} (h : belowB a = true) : sv a = -mag a := by
  have := of_decide_eq_true (show decide (9223372036854775808 ≤ a) = true from h)
  unfold sv mag; rw [if_pos this, if_pos this]; omega
theorem sv_above {a : Int} (h : belowB a = false) : sv a = mag a := by
  have := of_decide_eq_false (show decide (9223372036854775808 ≤ a) = false from h)
  unfold sv mag; rw [if_neg this, if_neg this]

set_option maxHeartbeats 1000000 in
theorem refOrder_any (a b : Int) (w : World) (ha : U64 a) (hb : U64 b) : Calls Try.prog 25 #[.int .u64 a, .int .u64 b] w fun e w' => e = .returned (.int .i64 (orderZ a b)) ∧ w' = w := by
  have ta := andNot_sign a ha
  have tb := andNot_sign b hb
  have ka := kind_zero a
  have kb := kind_zero b
  have ma := (mag_u64 ha).1
  have mb := (mag_u64 hb).1
  unfold orderZ
  cases na : belowB a
  all_goals cases nb : belowB b
  all_goals
    first | rw [sv_below na] | rw [sv_above na]
    first | rw [sv_below nb] | rw [sv_above nb]
    generalize mag a = A at *
    generalize mag b = B at *
    by_cases ca : A = 0
    all_goals by_cases cb : B = 0
    all_goals
      first | rw [decide_eq_true ca] at ka | rw [decide_eq_false ca] at ka
      first | rw [decide_eq_true cb] at kb | rw [decide_eq_false cb] at kb
      go_enter Try.func25, Try.ntmps25
      go_wp2_with (first | (go_at_call 24; refine (refKind_any _ _ (by assumption)).mono ?_; rintro e w' ⟨rfl, rfl⟩) | (go_at_call 15; refine (refNeg_any _ _ (by assumption)).mono ?_; rintro e w' ⟨rfl, rfl⟩))
      all_goals
        go_ret
        refine ⟨ret_i64 ?_, rfl⟩
        go_light
        try simp only [beq_iff_eq, beq_eq_false_iff_ne, ne_eq, Bool.not_eq_true', Bool.not_eq_false', decide_eq_false_iff_not, decide_eq_true_eq] at *
        all_goals ((repeat' split) <;> first | rfl | omega)

theorem order_lt (a b : Int) : decide (orderZ a b < 0) = decide (sv a < sv b) := by
  unfold orderZ; rw [decide_eq_decide]; (repeat' split) <;> omega
theorem order_eq0 (a b : Int) : (orderZ a b == 0) = decide (sv a = sv b) := by
  unfold orderZ; rw [Bool.eq_iff_iff, beq_iff_eq, decide_eq_true_eq]; (repeat' split) <;> omega

set_option maxHeartbeats 400000 in
theorem refLess_any (a b : Int) (w : World) (ha : U64 a) (hb : U64 b) : Calls Try.prog 16 #[.int .u64 a, .int .u64 b] w fun e w' => e = .returned (.bool (lessB a b)) ∧ w' = w := by
  have ka := kind_not_nan a
  have kb := kind_not_nan b
  have ko := order_lt a b
  unfold lessB
  cases na : nanB a
  · cases nb : nanB b
    · rw [na] at ka
      rw [nb] at kb
      go_enter Try.func16, Try.ntmps16
      go_wp2_with (first | (go_at_call 24; refine (refKind_any _ _ (by assumption)).mono ?_; rintro e w' ⟨rfl, rfl⟩) | (go_at_call 25; refine (refOrder_any _ _ _ ha hb).mono ?_; rintro e w' ⟨rfl, rfl⟩))
      go_ret
      exact ⟨rfl, rfl⟩
    · rw [na] at ka
      rw [nb] at kb
      go_enter Try.func16, Try.ntmps16
      go_wp2_with (first | (go_at_call 24; refine (refKind_any _ _ (by assumption)).mono ?_; rintro e w' ⟨rfl, rfl⟩) | (go_at_call 25; refine (refOrder_any _ _ _ ha hb).mono ?_; rintro e w' ⟨rfl, rfl⟩))
      go_ret
      exact ⟨rfl, rfl⟩
  · rw [na] at ka
    go_enter Try.func16, Try.ntmps16
    go_wp2_with (first | (go_at_call 24; refine (refKind_any _ _ (by assumption)).mono ?_; rintro e w' ⟨rfl, rfl⟩) | (go_at_call 25; refine (refOrder_any _ _ _ ha hb).mono ?_; rintro e w' ⟨rfl, rfl⟩))
    go_ret
    exact ⟨rfl, rfl⟩

end Go.Proofs.Yteihehpgegkcpaa
