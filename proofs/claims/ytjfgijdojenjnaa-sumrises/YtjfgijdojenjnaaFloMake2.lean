/-
  The walks of magnitude.
-/
import Derived.Test.YtjfgijdojenjnaaFloMake
import Derived.Test.YtjfgijdojenjnaaFloRung
namespace Go.Proofs.Ytjfgijdojenjnaa
open Go.RowKit Flo

end Go.Proofs.Ytjfgijdojenjnaa
