/-
  The walks of layer 1's small functions: what each call answers; the world is as it was.
-/
import Derived.Test.YteihehpgegkcpaaRows
import Derived.Test.YteihehpgegkcpaaFloSpec
import Derived.WalkKit
import Derived.WalkSpells
import Derived.WalkLawsBesides
namespace Go.Proofs.Yteihehpgegkcpaa
open Go.RowKit Flo

end Go.Proofs.Yteihehpgegkcpaa
