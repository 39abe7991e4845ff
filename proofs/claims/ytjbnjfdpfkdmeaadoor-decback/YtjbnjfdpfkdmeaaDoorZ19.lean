/-
  RfNear
-/
import Derived.Deep.RegionHeld3
import Derived.Test.YtjbnjfdpfkdmeaaDoorZ18

/-
  The reference's Whole, Near and Parse, walked.
-/
namespace Go.Proofs.YtjbnjfdpfkdmeaaDoor
set_option maxRecDepth 100000
open Go.RowKit Txt Dg Flo

theorem D.drew {w : World} {v : Value} {n l : Nat} (h : D w v n l) : D w.drew v n l := h

end Go.Proofs.YtjbnjfdpfkdmeaaDoor
