/-
  Layer 16: RandBelow, walked.
-/
import Derived.Test.YteihehpgegkcpaaRdBelow
namespace Go.Proofs.Yteihehpgegkcpaa
open Go.RowKit

theorem randBelow_zero (s : Int) (w : World)
    (n1 : ∀ w, Calls Try.prog 11 #[.int .u64 s, .int .u64 0] w fun e w' => e = .returned (.tuple #[.int .u64 s, .int .u64 0]) ∧ Below w.heap.size w w')
    (n2 : ∀ w, Calls Try.prog 12 #[.int .u64 s, .int .u64 0] w fun e w' => e = .returned (.tuple #[.int .u64 s, .int .u64 0]) ∧ Below w.heap.size w w') :
    Calls Try.prog 4 #[.int .u64 s, .int .u64 0] w fun e w' => e = .returned (.bool true) ∧ Below w.heap.size w w' := by
  go_enter Try.func4, Try.ntmps4
  go_wp2_with fail
  refine (n1 _).mono ?_
  rintro e w1 ⟨rfl, b1⟩
  go_wp2_with fail
  refine (n2 _).mono ?_
  rintro e w2 ⟨rfl, b2⟩
  go_wp2_with fail
  refine (rlives_any _).mono ?_
  rintro e w' ⟨rfl, rfl⟩
  go_wp2
  go_ret
  exact ⟨rfl, b1.trans (b2.mono b1.size)⟩
theorem randBelow_some (s n S X : Int) (w : World) (h0 : 0 < n) (h1 : X < n)
    (n1 : ∀ w, Calls Try.prog 11 #[.int .u64 s, .int .u64 n] w fun e w' => e = .returned (.tuple #[.int .u64 S, .int .u64 X]) ∧ Below w.heap.size w w')
    (n2 : ∀ w, Calls Try.prog 12 #[.int .u64 s, .int .u64 n] w fun e w' => e = .returned (.tuple #[.int .u64 S, .int .u64 X]) ∧ Below w.heap.size w w') :
    Calls Try.prog 4 #[.int .u64 s, .int .u64 n] w fun e w' => e = .returned (.bool true) ∧ Below w.heap.size w w' := by
  have h2 : ¬ n = 0 := by omega
  go_enter Try.func4, Try.ntmps4
  go_wp2_with fail
  refine (n1 _).mono ?_
  rintro e w1 ⟨rfl, b1⟩
  go_wp2_with fail
  refine (n2 _).mono ?_
  rintro e w2 ⟨rfl, b2⟩
  go_wp2_with fail
  refine (rlives_any _).mono ?_
  rintro e w' ⟨rfl, rfl⟩
  go_wp2
  go_ret
  exact ⟨rfl, b1.trans (b2.mono b1.size)⟩
theorem randBelow_walk (s n : Int) (w : World) (hn : In64 n) : Calls Try.prog 4 #[.int .u64 s, .int .u64 n] w fun e w' => e = .returned (.bool true) ∧ Below w.heap.size w w' := by
  have n1 := fun w => below_any s n w hn
  have n2 := fun w => rbelow_any s n w hn
  by_cases h : n = 0
  · subst h
    exact randBelow_zero s w n1 n2
  · have h1 := hn.1
    have e2 : rbX s n = rmix (rfin (rlast n) (rst s)) % n := if_neg h
    exact randBelow_some s n _ _ w (by omega) (by rw [e2]; exact Int.emod_lt_of_pos _ (by omega)) n1 n2
end Go.Proofs.Yteihehpgegkcpaa
