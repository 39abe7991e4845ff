/-
  The walks of magnitude.
-/
import Derived.Test.YtjfgijdojenjnabFloMake
import Derived.Test.YtjfgijdojenjnabFloRung
namespace Go.Proofs.Ytjfgijdojenjnab
open Go.RowKit Flo

end Go.Proofs.Ytjfgijdojenjnab
