/-
  Layer 7: what the landed reader and writer give up: panics with an Errno.
-/
import Derived.Test.YtcblknghkgihcaaDoorCdCount
import Derived.Test.YtcblknghkgihcaaDoorCdNumber
import Derived.WalkSmall
namespace Go.Proofs.YtcblknghkgihcaaDoor
set_option maxRecDepth 100000
open Go.RowKit Crc

/-- Given up, with this Errno: 1 ErrArg, 2 ErrLong, 3 ErrShort, 4 ErrForm as the reader and the writer number them. -/
def gaveUp (x : Int) : Ending := .panicked [{ v := .iface 37 (.int .i64 x), recovered := false }]

end Go.Proofs.YtcblknghkgihcaaDoor
