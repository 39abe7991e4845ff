/-
  The walks of layer 1's small functions: what each call answers; the world is as it was.
-/
import Derived.Test.YtcblknghkgihcaaDoorRows
import Derived.Test.YtcblknghkgihcaaDoorFloSpec
import Derived.WalkKit
import Derived.WalkSpells
import Derived.WalkLawsBesides
namespace Go.Proofs.YtcblknghkgihcaaDoor
set_option maxRecDepth 100000
open Go.RowKit Flo

theorem frombits_run (a : Int) (w : World) : (callFunc 100 #[.int .u64 a]).run Tryd.prog w = .ok (.value (.float .f64 a.toNat)) w :=
  run_callFunc_extern (e := Extern.MathFloatBits.float64frombits) Tryd.func100 (by kernel_rfl) (by kernel_rfl) (by kernel_rfl) (by kernel_rfl) _ w

theorem float_any (a : Int) (w : World) : Calls Tryd.prog 94 #[.int .u64 a] w fun e w' => e = .returned (.float .f64 a.toNat) ∧ w' = w := by
  have hf := frombits_run a
  go_enter Tryd.func94, Tryd.ntmps94
  go_wp2
  go_ret
  exact ⟨rfl, rfl⟩

theorem isNaN_any (a : Int) (w : World) (h : U64 a) : Calls Tryd.prog 89 #[.int .u64 a] w fun e w' => e = .returned (.bool (nanB a)) ∧ w' = w := by
  have ht := ne_test h h
  rw [equalB_self, Bool.not_not] at ht
  rw [← ht]
  clear ht
  go_enter Tryd.func89, Tryd.ntmps89
  go_wp2_with (go_at_call 94; refine (float_any _ _).mono ?_; rintro e w' ⟨rfl, rfl⟩)
  go_ret
  exact ⟨rfl, rfl⟩

theorem canon_any (a : Int) (w : World) (h : U64 a) : Calls Tryd.prog 83 #[.int .u64 a] w fun e w' => e = .returned (.int .u64 (canonZ a)) ∧ w' = w := by
  cases hn : nanB a
  · have e : canonZ a = a := by unfold canonZ; rw [hn]; rfl
    rw [e]
    go_enter Tryd.func83, Tryd.ntmps83
    go_wp2_with (go_at_call 89; refine (isNaN_any _ _ h).mono ?_; rintro e w' ⟨rfl, rfl⟩)
    go_ret
    exact ⟨rfl, rfl⟩
  · have e : canonZ a = 9221120237041090560 := by unfold canonZ; rw [hn]; rfl
    rw [e]
    go_enter Tryd.func83, Tryd.ntmps83
    go_wp2_with (go_at_call 89; refine (isNaN_any _ _ h).mono ?_; rintro e w' ⟨rfl, rfl⟩)
    go_ret
    exact ⟨rfl, rfl⟩

end Go.Proofs.YtcblknghkgihcaaDoor
