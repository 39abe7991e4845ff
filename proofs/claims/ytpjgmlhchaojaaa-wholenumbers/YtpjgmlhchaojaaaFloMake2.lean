/-
  The walks of magnitude.
-/
import Derived.Test.YtpjgmlhchaojaaaFloMake
import Derived.Test.YtpjgmlhchaojaaaFloRung
namespace Go.Proofs.Ytpjgmlhchaojaaa
open Go.RowKit Flo

end Go.Proofs.Ytpjgmlhchaojaaa
