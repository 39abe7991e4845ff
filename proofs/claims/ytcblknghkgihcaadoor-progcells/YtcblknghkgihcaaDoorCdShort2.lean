/-
  Layer 7: what the landed reader's number and count give up, and the writer's number.
-/
import Derived.Test.YtcblknghkgihcaaDoorCdShort
namespace Go.Proofs.YtcblknghkgihcaaDoor
set_option maxRecDepth 100000
open Go.RowKit Crc

end Go.Proofs.YtcblknghkgihcaaDoor
