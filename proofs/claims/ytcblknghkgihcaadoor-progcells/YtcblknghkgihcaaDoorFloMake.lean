/-
  The walks of pack, rounded, magnitude and Make.
-/
import Derived.Test.YtcblknghkgihcaaDoorFloRound
import Derived.Test.YtcblknghkgihcaaDoorFloLen
namespace Go.Proofs.YtcblknghkgihcaaDoor
set_option maxRecDepth 100000
open Go.RowKit Flo

theorem ret_u64 {a b : Int} (h : a = b) : Ending.returned (.int .u64 a) = .returned (.int .u64 b) := by rw [h]

theorem u64_wrap_nat (n : Nat) (h : n < 18446744073709551616) : IntKind.u64.wrap (n : Int) = (n : Int) := by
  rw [IntKind.wrap_u64]; omega

end Go.Proofs.YtcblknghkgihcaaDoor
