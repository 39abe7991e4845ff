/-
  DigRef2
-/
import Derived.Deep.DeepCutAuto
import Derived.Test.YtgbajhenmamjjaaDoorZ07

/-
  The walk of the reference's Round, its main road.
-/
namespace Go.Proofs.YtgbajhenmamjjaaDoor
set_option maxRecDepth 100000
open Go.RowKit Dg Flo

end Go.Proofs.YtgbajhenmamjjaaDoor
