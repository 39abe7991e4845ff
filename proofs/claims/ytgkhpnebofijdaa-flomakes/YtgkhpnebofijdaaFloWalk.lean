/-
  The walks of layer 1's small functions: what each call answers; the world is as it was.
-/
import Derived.Test.YtgkhpnebofijdaaRows
import Derived.Test.YtgkhpnebofijdaaFloSpec
import Derived.WalkKit
import Derived.WalkSpells
import Derived.WalkLawsBesides
namespace Go.Proofs.Ytgkhpnebofijdaa
open Go.RowKit Flo

theorem frombits_run (a : Int) (w : World) : (callFunc 37 #[.int .u64 a]).run Try.prog w = .ok (.value (.float .f64 a.toNat)) w :=
  run_callFunc_extern (e := Extern.MathFloatBits.float64frombits) Try.func37 (by kernel_rfl) (by kernel_rfl) (by kernel_rfl) (by kernel_rfl) _ w

theorem float_any (a : Int) (w : World) : Calls Try.prog 29 #[.int .u64 a] w fun e w' => e = .returned (.float .f64 a.toNat) ∧ w' = w := by
  have hf := frombits_run a
  go_enter Try.func29, Try.ntmps29
  go_wp2
  go_ret
  exact ⟨rfl, rfl⟩

theorem isNaN_any (a : Int) (w : World) (h : U64 a) : Calls Try.prog 30 #[.int .u64 a] w fun e w' => e = .returned (.bool (nanB a)) ∧ w' = w := by
  have ht := ne_test h h
  rw [equalB_self, Bool.not_not] at ht
  rw [← ht]
  clear ht
  go_enter Try.func30, Try.ntmps30
  go_wp2_with (go_at_call 29; refine (float_any _ _).mono ?_; rintro e w' ⟨rfl, rfl⟩)
  go_ret
  exact ⟨rfl, rfl⟩

theorem below_any (a : Int) (w : World) (h : U64 a) : Calls Try.prog 27 #[.int .u64 a] w fun e w' => e = .returned (.bool (belowB a)) ∧ w' = w := by
  have ht := and_sign a h
  have e : belowB a = (bits .and .u64 a 9223372036854775808 != 0) := by
    rw [ht]; unfold belowB; split <;> simp_all
  rw [e]
  clear ht e
  go_enter Try.func27, Try.ntmps27
  go_wp2
  go_ret
  exact ⟨rfl, rfl⟩

theorem less_any (a b : Int) (w : World) (ha : U64 a) (hb : U64 b) : Calls Try.prog 18 #[.int .u64 a, .int .u64 b] w fun e w' => e = .returned (.bool (lessB a b)) ∧ w' = w := by
  rw [← lt_test ha hb]
  go_enter Try.func18, Try.ntmps18
  go_wp2_with (go_at_call 29; refine (float_any _ _).mono ?_; rintro e w' ⟨rfl, rfl⟩)
  go_ret
  exact ⟨rfl, rfl⟩

theorem equal_any (a b : Int) (w : World) (ha : U64 a) (hb : U64 b) : Calls Try.prog 20 #[.int .u64 a, .int .u64 b] w fun e w' => e = .returned (.bool (equalB a b)) ∧ w' = w := by
  rw [← eq_test ha hb]
  go_enter Try.func20, Try.ntmps20
  go_wp2_with (go_at_call 29; refine (float_any _ _).mono ?_; rintro e w' ⟨rfl, rfl⟩)
  go_ret
  exact ⟨rfl, rfl⟩

theorem canon_any (a : Int) (w : World) (h : U64 a) : Calls Try.prog 13 #[.int .u64 a] w fun e w' => e = .returned (.int .u64 (canonZ a)) ∧ w' = w := by
  cases hn : nanB a
  · have e : canonZ a = a := by unfold canonZ; rw [hn]; rfl
    rw [e]
    go_enter Try.func13, Try.ntmps13
    go_wp2_with (go_at_call 30; refine (isNaN_any _ _ h).mono ?_; rintro e w' ⟨rfl, rfl⟩)
    go_ret
    exact ⟨rfl, rfl⟩
  · have e : canonZ a = 9221120237041090560 := by unfold canonZ; rw [hn]; rfl
    rw [e]
    go_enter Try.func13, Try.ntmps13
    go_wp2_with (go_at_call 30; refine (isNaN_any _ _ h).mono ?_; rintro e w' ⟨rfl, rfl⟩)
    go_ret
    exact ⟨rfl, rfl⟩

theorem neg_any (a : Int) (w : World) (h : U64 a) : Calls Try.prog 24 #[.int .u64 a] w fun e w' => e = .returned (.int .u64 (negZ a)) ∧ w' = w := by
  cases hn : nanB a
  · have e : negZ a = bits .xor .u64 a 9223372036854775808 := by unfold negZ; rw [hn, xor_sign a h]; rfl
    rw [e]
    clear e
    go_enter Try.func24, Try.ntmps24
    go_wp2_with (go_at_call 30; refine (isNaN_any _ _ h).mono ?_; rintro e w' ⟨rfl, rfl⟩)
    go_ret
    exact ⟨rfl, rfl⟩
  · have e : negZ a = 9221120237041090560 := by unfold negZ; rw [hn]; rfl
    rw [e]
    go_enter Try.func24, Try.ntmps24
    go_wp2_with (go_at_call 30; refine (isNaN_any _ _ h).mono ?_; rintro e w' ⟨rfl, rfl⟩)
    go_ret
    exact ⟨rfl, rfl⟩

theorem abs_any (a : Int) (w : World) (h : U64 a) : Calls Try.prog 26 #[.int .u64 a] w fun e w' => e = .returned (.int .u64 (absZ a)) ∧ w' = w := by
  cases hn : nanB a
  · have e : absZ a = bits .andNot .u64 a 9223372036854775808 := by unfold absZ; rw [hn, andNot_sign a h]; rfl
    rw [e]
    clear e
    go_enter Try.func26, Try.ntmps26
    go_wp2_with (go_at_call 30; refine (isNaN_any _ _ h).mono ?_; rintro e w' ⟨rfl, rfl⟩)
    go_ret
    exact ⟨rfl, rfl⟩
  · have e : absZ a = 9221120237041090560 := by unfold absZ; rw [hn]; rfl
    rw [e]
    go_enter Try.func26, Try.ntmps26
    go_wp2_with (go_at_call 30; refine (isNaN_any _ _ h).mono ?_; rintro e w' ⟨rfl, rfl⟩)
    go_ret
    exact ⟨rfl, rfl⟩

end Go.Proofs.Ytgkhpnebofijdaa
