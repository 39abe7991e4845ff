/-
  Layer 16: the landed Next, the reference's, and the laws' lives, walked.
-/
import Derived.Test.YteihehpgegkcpaaRdMath
namespace Go.Proofs.Yteihehpgegkcpaa
open Go.RowKit

theorem rmix_any (x : Int) (w : World) : Calls Try.prog 19 #[.int .u64 x] w fun e w' => e = .returned (.int .u64 (rmix x)) ∧ w' = w := by
  unfold rmix rm3 rm2 rm1
  go_enter Try.func19, Try.ntmps19
  go_wp2
  go_ret
  exact ⟨rfl, rfl⟩
theorem next_any (s : Int) (w : World) : Calls Try.prog 8 #[.int .u64 s] w fun e w' => e = .returned (.tuple #[.int .u64 (rst s), .int .u64 (rmix (rst s))]) ∧ w' = w := by
  unfold rst
  go_enter Try.func8, Try.ntmps8
  go_wp2_with (go_at_call 19; refine (rmix_any _ _).mono ?_; rintro e w' ⟨rfl, rfl⟩)
  go_ret2
  exact ⟨rfl, rfl⟩
theorem rnext_any (s : Int) (w : World) : Calls Try.prog 9 #[.int .u64 s] w fun e w' => e = .returned (.tuple #[.int .u64 (rst s), .int .u64 (rmix (rst s))]) ∧ w' = w := by
  unfold rmix rm3 rm2 rm1 rst
  go_enter Try.func9, Try.ntmps9
  go_wp2
  go_ret2
  exact ⟨rfl, rfl⟩
theorem lives0 : rst 0 = 11400714819323198485 ∧ rmix 11400714819323198485 = 16294208416658607535 := by decide +kernel
theorem rlives_any (w : World) : Calls Try.prog 10 #[] w fun e w' => e = .returned (.bool true) ∧ w' = w := by
  have hn : Calls Try.prog 8 #[.int .u64 0] w fun e w' => e = .returned (.tuple #[.int .u64 11400714819323198485, .int .u64 16294208416658607535]) ∧ w' = w := by
    have h := next_any 0 w
    rw [lives0.1, lives0.2] at h
    exact h
  go_enter Try.func10, Try.ntmps10
  go_wp2_with (go_at_call 8; refine hn.mono ?_; rintro e w' ⟨rfl, rfl⟩)
  go_ret
  exact ⟨rfl, rfl⟩
end Go.Proofs.Yteihehpgegkcpaa
