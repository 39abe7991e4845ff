/-
  The walks of magnitude.
-/
import Derived.Test.YtcblknghkgihcaaDoorFloMake
import Derived.Test.YtcblknghkgihcaaDoorFloRung
namespace Go.Proofs.YtcblknghkgihcaaDoor
set_option maxRecDepth 100000
open Go.RowKit Flo

theorem len64_nat (f L : Nat) (w : World) (h1 : f < 18446744073709551616) (hL : Lib.bitLen f = L) :
    Calls Tryd.prog 96 #[.int .u64 f] w fun e w' => e = .returned (.int .i64 L) ∧ w' = w := by
  have h := len64_any f w ⟨by omega, by omega⟩
  rw [Int.toNat_natCast, hL] at h
  exact h

end Go.Proofs.YtcblknghkgihcaaDoor
