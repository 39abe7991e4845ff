/-
  DigRef2
-/
import Derived.Deep.DeepCutAuto
import Derived.Test.YtfhoimfjfbbhaaaDoorZ05

/-
  The walk of the reference's Round, its main road.
-/
namespace Go.Proofs.YtfhoimfjfbbhaaaDoor
set_option maxRecDepth 100000
open Go.RowKit Dg Flo

end Go.Proofs.YtfhoimfjfbbhaaaDoor
