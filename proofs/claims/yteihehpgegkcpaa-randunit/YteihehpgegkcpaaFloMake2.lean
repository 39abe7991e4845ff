/-
  The walks of magnitude.
-/
import Derived.Test.YteihehpgegkcpaaFloMake
import Derived.Test.YteihehpgegkcpaaFloRung
namespace Go.Proofs.Yteihehpgegkcpaa
open Go.RowKit Flo

end Go.Proofs.Yteihehpgegkcpaa
