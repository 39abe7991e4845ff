/-
  The statements' own small living call.
-/
import Derived.Test.YtcblknghkgihcaaDoorFloMake3
namespace Go.Proofs.YtcblknghkgihcaaDoor
set_option maxRecDepth 100000
open Go.RowKit Flo

theorem lives_make : makeZ false (-52) 4503599627370496 false = 4607182418800017408 := by decide +kernel
theorem lives_kind : kindZ 1 = 1 := by decide
theorem lives_less : lessB 0 1 = true := by decide

end Go.Proofs.YtcblknghkgihcaaDoor
