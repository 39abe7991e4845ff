/-
  The walk of the reference's Round, its main road.
-/
import Derived.Test.YtjfgijdojenjnabDigRef
import Derived.Deep.DeepCutAuto
namespace Go.Proofs.Ytjfgijdojenjnab
open Go.RowKit Dg Flo

end Go.Proofs.Ytjfgijdojenjnab
