/-
  RfRead2
-/
import Derived.Test.YtgbajhenmamjjaaGreatDoorZ20

/-
  The reference's Read, walked.
-/
namespace Go.Proofs.YtgbajhenmamjjaaGreatDoor
set_option maxRecDepth 100000
open Go.RowKit Txt

theorem bx_below (w : World) (D : ByteArray) (X : Int) : Below w.heap.size w (bx w D X) := by
  unfold bx
  exact ((Below.refl _ _).alloc (Nat.le_refl _) _).alloc (by simp) _

theorem below_two (w : World) (a b : Obj) : Below w.heap.size w ((w.alloc a).alloc b) := ((Below.refl _ _).alloc (Nat.le_refl _) _).alloc (by simp) _

end Go.Proofs.YtgbajhenmamjjaaGreatDoor
