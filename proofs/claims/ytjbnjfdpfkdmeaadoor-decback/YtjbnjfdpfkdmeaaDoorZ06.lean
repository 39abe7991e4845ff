/-
  DigRef2
-/
import Derived.Deep.DeepCutAuto
import Derived.Test.YtjbnjfdpfkdmeaaDoorZ05

/-
  The walk of the reference's Round, its main road.
-/
namespace Go.Proofs.YtjbnjfdpfkdmeaaDoor
set_option maxRecDepth 100000
open Go.RowKit Dg Flo

end Go.Proofs.YtjbnjfdpfkdmeaaDoor
