/-
  magnitude and Make by the rung of what they are given.
-/
import Derived.Test.YtcblknghkgihcaaDoorFloMake2
namespace Go.Proofs.YtcblknghkgihcaaDoor
set_option maxRecDepth 100000
open Go.RowKit Flo

theorem min_cast (a b : Nat) : ((min a b : Nat) : Int) = min (a : Int) (b : Int) := by omega
theorem wrap_pow (f j k : Nat) (i : Int) (hj : i = (j : Int)) (e : f * 2 ^ j = k) (h : k ≤ 9007199254740992) : IntKind.u64.wrap ((f : Int) * 2 ^ i.toNat) = (k : Int) := by
  subst hj
  rw [Int.toNat_natCast, ← u64_wrap_nat k (by omega), ← e, Int.natCast_mul, Int.natCast_pow]
  rfl

theorem bitLen_64 {f : Nat} (h1 : f < 18446744073709551616) (h2 : 9223372036854775808 ≤ f) : Lib.bitLen f = 64 := by
  rw [bitLen_log f (by omega) (by omega), log2_of (k := 63) (by omega) (by omega)]

/-- The units of what is given to Make. -/
def units (exp : Int) (frac : Nat) (half : Bool) : Nat := (2 * frac + half.toNat) * 2 ^ (min (max exp (-1200)) 1100 + 1073 + G).toNat
def makeZ (neg : Bool) (exp : Int) (frac : Nat) (half : Bool) : Int := if neg then 9223372036854775808 + (rung G (units exp frac half) : Nat) else (rung G (units exp frac half) : Nat)

theorem or_sign (v : Nat) (h : v ≤ 9218868437227405312) : bits .or .u64 9223372036854775808 (v : Int) = 9223372036854775808 + (v : Int) := by
  rw [u64_or _ _ (by decide) (by decide) (by omega) (by omega), Int.toNat_natCast]
  rw [show (9223372036854775808 : Int).toNat = 9223372036854775808 from rfl, nat_join 63 _ _ (by decide) (by omega)]
  omega

end Go.Proofs.YtcblknghkgihcaaDoor
