/-
  The walks of layer 1's small functions: what each call answers; the world is as it was.
-/
import Derived.Test.YtjfgijdojenjnabRows
import Derived.Test.YtjfgijdojenjnabFloSpec
import Derived.WalkKit
import Derived.WalkSpells
import Derived.WalkLawsBesides
namespace Go.Proofs.Ytjfgijdojenjnab
open Go.RowKit Flo

theorem frombits_run (a : Int) (w : World) : (callFunc 16 #[.int .u64 a]).run Try.prog w = .ok (.value (.float .f64 a.toNat)) w :=
  run_callFunc_extern (e := Extern.MathFloatBits.float64frombits) Try.func16 (by kernel_rfl) (by kernel_rfl) (by kernel_rfl) (by kernel_rfl) _ w

theorem float_any (a : Int) (w : World) : Calls Try.prog 19 #[.int .u64 a] w fun e w' => e = .returned (.float .f64 a.toNat) ∧ w' = w := by
  have hf := frombits_run a
  go_enter Try.func19, Try.ntmps19
  go_wp2
  go_ret
  exact ⟨rfl, rfl⟩

theorem isNaN_any (a : Int) (w : World) (h : U64 a) : Calls Try.prog 18 #[.int .u64 a] w fun e w' => e = .returned (.bool (nanB a)) ∧ w' = w := by
  have ht := ne_test h h
  rw [equalB_self, Bool.not_not] at ht
  rw [← ht]
  clear ht
  go_enter Try.func18, Try.ntmps18
  go_wp2_with (go_at_call 19; refine (float_any _ _).mono ?_; rintro e w' ⟨rfl, rfl⟩)
  go_ret
  exact ⟨rfl, rfl⟩

theorem canon_any (a : Int) (w : World) (h : U64 a) : Calls Try.prog 14 #[.int .u64 a] w fun e w' => e = .returned (.int .u64 (canonZ a)) ∧ w' = w := by
  cases hn : nanB a
  · have e : canonZ a = a := by unfold canonZ; rw [hn]; rfl
    rw [e]
    go_enter Try.func14, Try.ntmps14
    go_wp2_with (go_at_call 18; refine (isNaN_any _ _ h).mono ?_; rintro e w' ⟨rfl, rfl⟩)
    go_ret
    exact ⟨rfl, rfl⟩
  · have e : canonZ a = 9221120237041090560 := by unfold canonZ; rw [hn]; rfl
    rw [e]
    go_enter Try.func14, Try.ntmps14
    go_wp2_with (go_at_call 18; refine (isNaN_any _ _ h).mono ?_; rintro e w' ⟨rfl, rfl⟩)
    go_ret
    exact ⟨rfl, rfl⟩

end Go.Proofs.Ytjfgijdojenjnab
