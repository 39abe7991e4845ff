/-
  Any parts make the number that is nearest to them: the walk of the statement FloMakes.
-/
import Derived.Test.YtgkhpnebofijdaaDigMake2
import Derived.Test.YtgkhpnebofijdaaFloLives
namespace Go.Proofs.Ytgkhpnebofijdaa
open Go.RowKit Dg Flo

set_option maxHeartbeats 1000000 in
theorem floMakes_walk (half : Bool) (exp : Int) (f : Nat) (w : World) (hf : f < 18446744073709551616) :
    Calls Try.prog 4 #[.int .i64 exp, .int .u64 f, .bool half] w fun e w' => e = .returned (.bool true) ∧ Below w.heap.size w w' := by
  go_enter Try.func4, Try.ntmps4
  go_wp2_with fail
  refine (make_any false half exp f _ hf).mono ?_
  rintro e w1 ⟨rfl, hw1⟩
  rw [hw1]
  clear hw1 w1
  go_wp2_with fail
  refine (refMake_any false half exp f _ hf).mono ?_
  rintro e w2 ⟨rfl, hb2⟩
  go_wp2_with fail
  refine (make_any true half exp f _ hf).mono ?_
  rintro e w1 ⟨rfl, hw1⟩
  rw [hw1]
  clear hw1 w1
  go_wp2_with fail
  refine (refMake_any true half exp f _ hf).mono ?_
  rintro e w3 ⟨rfl, hb3⟩
  have hb4 := hb2.trans (hb3.mono hb2.size)
  clear hb2 hb3
  go_wp2_with fail
  refine (lives_any _).mono ?_
  rintro e w1 ⟨rfl, hw1⟩
  rw [hw1]
  clear hw1 w1
  go_wp2_with fail
  go_ret
  exact ⟨rfl, hb4⟩

end Go.Proofs.Ytgkhpnebofijdaa
