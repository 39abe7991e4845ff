/-
  The statement QuoDivides.
-/
import Derived.Test.YtpgjibfggagbmaaQuoWalk
namespace Go.Proofs.Ytpgjibfggagbmaa
open Go.RowKit Dg Flo

theorem quoDivides_walk (a b : Int) (w : World) (ha : U64 a) (hb : U64 b) :
    Calls Try.prog 3 #[.int .u64 a, .int .u64 b] w fun e w' => e = .returned (.bool true) ∧ Below w.heap.size w w' := by
  have A1 : Hid (∀ w, _) := fun w => div_any a b w ha hb
  have A2 : Hid (∀ w, _) := fun w => refDiv_any a b w ha hb
  generalize divZ a b = s at *
  go_enter Try.func3, Try.ntmps3
  go_wp2_with fail
  refine (A1.out _).mono ?_
  rintro e w1 ⟨rfl, hb1⟩
  go_wp2_with fail
  refine (A2.out _).mono ?_
  rintro e w2 ⟨rfl, hb2⟩
  replace hb2 := hb1.trans (hb2.mono hb1.size)
  go_wp2_with fail
  refine (quoLives_any _).mono ?_
  rintro e w7 ⟨rfl, hb7⟩
  go_wp2
  go_ret
  exact ⟨rfl, hb2.trans (hb7.mono hb2.size)⟩

end Go.Proofs.Ytpgjibfggagbmaa
