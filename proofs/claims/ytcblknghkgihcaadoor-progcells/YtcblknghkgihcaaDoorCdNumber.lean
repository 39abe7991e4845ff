/-
  Layer 7: the landed writer's number, walked where there is room.
-/
import Derived.Test.YtcblknghkgihcaaDoorCdLay
namespace Go.Proofs.YtcblknghkgihcaaDoor
set_option maxRecDepth 100000
open Go.RowKit Crc

/-- A number in so many bytes, the highest first. -/
def be (n : Nat) : Nat → List Nat
  | 0 => []
  | k + 1 => n / 2 ^ (8 * k) % 256 :: be n k

theorem be_length (n : Nat) : ∀ k, (be n k).length = k
  | 0 => rfl
  | k + 1 => by unfold be; rw [List.length_cons, be_length n k]

end Go.Proofs.YtcblknghkgihcaaDoor
