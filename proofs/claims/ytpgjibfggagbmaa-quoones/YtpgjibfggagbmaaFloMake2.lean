/-
  The walks of magnitude.
-/
import Derived.Test.YtpgjibfggagbmaaFloMake
import Derived.Test.YtpgjibfggagbmaaFloRung
namespace Go.Proofs.Ytpgjibfggagbmaa
open Go.RowKit Flo

end Go.Proofs.Ytpgjibfggagbmaa
