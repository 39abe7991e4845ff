/-
  The statements' own small living call.
-/
import Derived.Test.YtgkhpnebofijdaaFloMake3
namespace Go.Proofs.Ytgkhpnebofijdaa
open Go.RowKit Flo

theorem lives_make : makeZ false (-52) 4503599627370496 false = 4607182418800017408 := by decide +kernel
theorem lives_kind : kindZ 1 = 1 := by decide
theorem lives_less : lessB 0 1 = true := by decide

theorem lives_any (w : World) : Calls Try.prog 16 #[] w fun e w' => e = .returned (.bool true) ∧ w' = w := by
  have h1 := fun w => make_any false false (-52) 4503599627370496 w (by decide)
  rw [lives_make] at h1
  have h2 := fun w => kind_any 1 w ⟨by decide, by decide⟩
  rw [lives_kind] at h2
  have h3 := fun w => less_any 0 1 w ⟨by decide, by decide⟩ ⟨by decide, by decide⟩
  rw [lives_less] at h3
  go_enter Try.func16, Try.ntmps16
  go_wp2_with (first | (go_at_call 15; refine (h1 _).mono ?_; rintro e w' ⟨rfl, rfl⟩) | (go_at_call 12; refine (h2 _).mono ?_; rintro e w' ⟨rfl, rfl⟩) | (go_at_call 18; refine (h3 _).mono ?_; rintro e w' ⟨rfl, rfl⟩))
  go_ret
  exact ⟨rfl, rfl⟩

end Go.Proofs.Ytgkhpnebofijdaa
