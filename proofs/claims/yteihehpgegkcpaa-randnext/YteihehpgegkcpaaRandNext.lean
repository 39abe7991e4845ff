/-
  Layer 16: RandNext, walked.
-/
import Derived.Test.YteihehpgegkcpaaRdWalk
namespace Go.Proofs.Yteihehpgegkcpaa
open Go.RowKit

theorem randNext_same (s A X : Int) (w : World) (n1 : Calls Try.prog 8 #[.int .u64 s] w fun e w' => e = .returned (.tuple #[.int .u64 A, .int .u64 X]) ∧ w' = w)
    (n3 : Calls Try.prog 9 #[.int .u64 s] w fun e w' => e = .returned (.tuple #[.int .u64 A, .int .u64 X]) ∧ w' = w) : Calls Try.prog 3 #[.int .u64 s, .int .u64 s] w fun e w' => e = .returned (.bool true) ∧ w' = w := by
  go_enter Try.func3, Try.ntmps3
  go_wp2_with fail
  refine n1.mono ?_
  rintro e w' ⟨rfl, rfl⟩
  go_wp2_with fail
  refine n1.mono ?_
  rintro e w' ⟨rfl, rfl⟩
  go_wp2_with fail
  refine n3.mono ?_
  rintro e w' ⟨rfl, rfl⟩
  go_wp2_with fail
  refine (rlives_any _).mono ?_
  rintro e w' ⟨rfl, rfl⟩
  go_wp2
  go_ret
  exact ⟨rfl, rfl⟩
theorem randNext_other (s t A X B Y : Int) (w : World) (n1 : Calls Try.prog 8 #[.int .u64 s] w fun e w' => e = .returned (.tuple #[.int .u64 A, .int .u64 X]) ∧ w' = w)
    (n2 : Calls Try.prog 8 #[.int .u64 t] w fun e w' => e = .returned (.tuple #[.int .u64 B, .int .u64 Y]) ∧ w' = w)
    (n3 : Calls Try.prog 9 #[.int .u64 s] w fun e w' => e = .returned (.tuple #[.int .u64 A, .int .u64 X]) ∧ w' = w) (h1 : (s == t) = false) (h2 : (A == B) = false) (h3 : (X == Y) = false) :
    Calls Try.prog 3 #[.int .u64 s, .int .u64 t] w fun e w' => e = .returned (.bool true) ∧ w' = w := by
  have g1 : ¬ s = t := by simpa using h1
  have g2 : ¬ A = B := by simpa using h2
  have g3 : ¬ X = Y := by simpa using h3
  go_enter Try.func3, Try.ntmps3
  go_wp2_with fail
  refine n1.mono ?_
  rintro e w' ⟨rfl, rfl⟩
  go_wp2_with fail
  refine n2.mono ?_
  rintro e w' ⟨rfl, rfl⟩
  go_wp2_with fail
  refine n3.mono ?_
  rintro e w' ⟨rfl, rfl⟩
  go_wp2_with fail
  refine (rlives_any _).mono ?_
  rintro e w' ⟨rfl, rfl⟩
  go_wp2
  go_ret
  exact ⟨rfl, rfl⟩
theorem randNext_walk (s t : Int) (w : World) (hs : In64 s) (ht : In64 t) : Calls Try.prog 3 #[.int .u64 s, .int .u64 t] w fun e w' => e = .returned (.bool true) ∧ w' = w := by
  by_cases h : s = t
  · subst h
    exact randNext_same s _ _ w (next_any s w) (rnext_any s w)
  · have h2 : rst s ≠ rst t := fun e => h (st_inj hs ht e)
    have h3 : rmix (rst s) ≠ rmix (rst t) := fun e => h2 (mix_inj (in_st _) (in_st _) e)
    exact randNext_other s t _ _ _ _ w (next_any s w) (next_any t w) (rnext_any s w) (by simpa using h) (by simpa using h2) (by simpa using h3)
end Go.Proofs.Yteihehpgegkcpaa
