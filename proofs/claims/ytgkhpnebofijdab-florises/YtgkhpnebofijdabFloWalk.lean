/-
  The walks of layer 1's small functions: what each call answers; the world is as it was.
-/
import Derived.Test.YtgkhpnebofijdabRows
import Derived.Test.YtgkhpnebofijdabFloSpec
import Derived.WalkKit
import Derived.WalkSpells
import Derived.WalkLawsBesides
namespace Go.Proofs.Ytgkhpnebofijdab
open Go.RowKit Flo

theorem frombits_run (a : Int) (w : World) : (callFunc 21 #[.int .u64 a]).run Try.prog w = .ok (.value (.float .f64 a.toNat)) w :=
  run_callFunc_extern (e := Extern.MathFloatBits.float64frombits) Try.func21 (by kernel_rfl) (by kernel_rfl) (by kernel_rfl) (by kernel_rfl) _ w

theorem float_any (a : Int) (w : World) : Calls Try.prog 14 #[.int .u64 a] w fun e w' => e = .returned (.float .f64 a.toNat) ∧ w' = w := by
  have hf := frombits_run a
  go_enter Try.func14, Try.ntmps14
  go_wp2
  go_ret
  exact ⟨rfl, rfl⟩

theorem isNaN_any (a : Int) (w : World) (h : U64 a) : Calls Try.prog 15 #[.int .u64 a] w fun e w' => e = .returned (.bool (nanB a)) ∧ w' = w := by
  have ht := ne_test h h
  rw [equalB_self, Bool.not_not] at ht
  rw [← ht]
  clear ht
  go_enter Try.func15, Try.ntmps15
  go_wp2_with (go_at_call 14; refine (float_any _ _).mono ?_; rintro e w' ⟨rfl, rfl⟩)
  go_ret
  exact ⟨rfl, rfl⟩

theorem below_any (a : Int) (w : World) (h : U64 a) : Calls Try.prog 17 #[.int .u64 a] w fun e w' => e = .returned (.bool (belowB a)) ∧ w' = w := by
  have ht := and_sign a h
  have e : belowB a = (bits .and .u64 a 9223372036854775808 != 0) := by
    rw [ht]; unfold belowB; split <;> simp_all
  rw [e]
  clear ht e
  go_enter Try.func17, Try.ntmps17
  go_wp2
  go_ret
  exact ⟨rfl, rfl⟩

theorem less_any (a b : Int) (w : World) (ha : U64 a) (hb : U64 b) : Calls Try.prog 6 #[.int .u64 a, .int .u64 b] w fun e w' => e = .returned (.bool (lessB a b)) ∧ w' = w := by
  rw [← lt_test ha hb]
  go_enter Try.func6, Try.ntmps6
  go_wp2_with (go_at_call 14; refine (float_any _ _).mono ?_; rintro e w' ⟨rfl, rfl⟩)
  go_ret
  exact ⟨rfl, rfl⟩

theorem equal_any (a b : Int) (w : World) (ha : U64 a) (hb : U64 b) : Calls Try.prog 16 #[.int .u64 a, .int .u64 b] w fun e w' => e = .returned (.bool (equalB a b)) ∧ w' = w := by
  rw [← eq_test ha hb]
  go_enter Try.func16, Try.ntmps16
  go_wp2_with (go_at_call 14; refine (float_any _ _).mono ?_; rintro e w' ⟨rfl, rfl⟩)
  go_ret
  exact ⟨rfl, rfl⟩

theorem canon_any (a : Int) (w : World) (h : U64 a) : Calls Try.prog 10 #[.int .u64 a] w fun e w' => e = .returned (.int .u64 (canonZ a)) ∧ w' = w := by
  cases hn : nanB a
  · have e : canonZ a = a := by unfold canonZ; rw [hn]; rfl
    rw [e]
    go_enter Try.func10, Try.ntmps10
    go_wp2_with (go_at_call 15; refine (isNaN_any _ _ h).mono ?_; rintro e w' ⟨rfl, rfl⟩)
    go_ret
    exact ⟨rfl, rfl⟩
  · have e : canonZ a = 9221120237041090560 := by unfold canonZ; rw [hn]; rfl
    rw [e]
    go_enter Try.func10, Try.ntmps10
    go_wp2_with (go_at_call 15; refine (isNaN_any _ _ h).mono ?_; rintro e w' ⟨rfl, rfl⟩)
    go_ret
    exact ⟨rfl, rfl⟩

theorem neg_any (a : Int) (w : World) (h : U64 a) : Calls Try.prog 7 #[.int .u64 a] w fun e w' => e = .returned (.int .u64 (negZ a)) ∧ w' = w := by
  cases hn : nanB a
  · have e : negZ a = bits .xor .u64 a 9223372036854775808 := by unfold negZ; rw [hn, xor_sign a h]; rfl
    rw [e]
    clear e
    go_enter Try.func7, Try.ntmps7
    go_wp2_with (go_at_call 15; refine (isNaN_any _ _ h).mono ?_; rintro e w' ⟨rfl, rfl⟩)
    go_ret
    exact ⟨rfl, rfl⟩
  · have e : negZ a = 9221120237041090560 := by unfold negZ; rw [hn]; rfl
    rw [e]
    go_enter Try.func7, Try.ntmps7
    go_wp2_with (go_at_call 15; refine (isNaN_any _ _ h).mono ?_; rintro e w' ⟨rfl, rfl⟩)
    go_ret
    exact ⟨rfl, rfl⟩

theorem abs_any (a : Int) (w : World) (h : U64 a) : Calls Try.prog 11 #[.int .u64 a] w fun e w' => e = .returned (.int .u64 (absZ a)) ∧ w' = w := by
  cases hn : nanB a
  · have e : absZ a = bits .andNot .u64 a 9223372036854775808 := by unfold absZ; rw [hn, andNot_sign a h]; rfl
    rw [e]
    clear e
    go_enter Try.func11, Try.ntmps11
    go_wp2_with (go_at_call 15; refine (isNaN_any _ _ h).mono ?_; rintro e w' ⟨rfl, rfl⟩)
    go_ret
    exact ⟨rfl, rfl⟩
  · have e : absZ a = 9221120237041090560 := by unfold absZ; rw [hn]; rfl
    rw [e]
    go_enter Try.func11, Try.ntmps11
    go_wp2_with (go_at_call 15; refine (isNaN_any _ _ h).mono ?_; rintro e w' ⟨rfl, rfl⟩)
    go_ret
    exact ⟨rfl, rfl⟩

end Go.Proofs.Ytgkhpnebofijdab
