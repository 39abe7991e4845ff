/-
  The walk of the reference's Round.
-/
import Derived.Test.YtjfgijdojenjnabDigRound
import Derived.Test.YtjfgijdojenjnabFloMake3
namespace Go.Proofs.Ytjfgijdojenjnab
open Go.RowKit Dg Flo

def sgn (neg : Bool) : Int := if neg then 9223372036854775808 else 0

theorem or_hi (neg : Bool) (y : Int) (h0 : 0 ≤ y) (h1 : y < 9223372036854775808) : bits .or .u64 (sgn neg) y = sgn neg + y := by
  cases neg
  · show bits .or .u64 0 y = 0 + y
    rw [u64_or _ _ (by decide) (by decide) h0 (by omega)]
    simp only [Int.toNat_zero, Nat.zero_or]; omega
  · show bits .or .u64 9223372036854775808 y = 9223372036854775808 + y
    rw [u64_or _ _ (by decide) (by decide) h0 (by omega), show (9223372036854775808 : Int).toNat = 9223372036854775808 from rfl, nat_join 63 _ _ (by decide) (by omega)]
    omega
theorem or_lo (x f : Int) (h0 : 0 ≤ x) (h1 : x < 18446744073709551616) (h2 : x % 4503599627370496 = 0) (h3 : 0 ≤ f) (h4 : f < 4503599627370496) : bits .or .u64 x f = x + f := by
  rw [u64_or _ _ h0 h1 h3 (by omega), nat_join 52 _ _ (by omega) (by omega)]
  omega

theorem and3 (x : Nat) (h : x < 18446744073709551616) : bits .and .u64 (x : Int) 3 = ((x % 4 : Nat) : Int) := by
  rw [u64_and _ _ (Int.natCast_nonneg _) (by omega) (by decide) (by decide), Int.toNat_natCast, show (3 : Int).toNat = 2 ^ 2 - 1 from by decide, Nat.and_two_pow_sub_one_eq_mod]

/-- The end of Round, in its own words. -/
theorem round_end (neg : Bool) (e : Int) (Q : Nat) (h1 : -1074 ≤ e) (h2 : Q ≤ 9007199254740992) (h3 : -1074 < e → 4503599627370496 ≤ Q) :
    (Q = 9007199254740992 → 971 < e + 1 → sgn neg + 9218868437227405312 = sgn neg + (min ((e + 1074).toNat * 4503599627370496 + Q) 9218868437227405312 : Nat)) ∧
    (Q = 9007199254740992 → e + 1 ≤ 971 → bits .or .u64 (bits .or .u64 (sgn neg) ((e + 1 + 1075) * 4503599627370496)) 0 = sgn neg + (min ((e + 1074).toNat * 4503599627370496 + Q) 9218868437227405312 : Nat)) ∧
    (Q ≠ 9007199254740992 → 971 < e → sgn neg + 9218868437227405312 = sgn neg + (min ((e + 1074).toNat * 4503599627370496 + Q) 9218868437227405312 : Nat)) ∧
    (Q ≠ 9007199254740992 → e ≤ 971 → Q < 4503599627370496 → bits .or .u64 (sgn neg) (Q : Int) = sgn neg + (min ((e + 1074).toNat * 4503599627370496 + Q) 9218868437227405312 : Nat)) ∧
    (Q ≠ 9007199254740992 → e ≤ 971 → 4503599627370496 ≤ Q → bits .or .u64 (bits .or .u64 (sgn neg) ((e + 1075) * 4503599627370496)) ((Q : Int) - 4503599627370496) = sgn neg + (min ((e + 1074).toNat * 4503599627370496 + Q) 9218868437227405312 : Nat)) := by
  have hs : sgn neg = 0 ∨ sgn neg = 9223372036854775808 := by cases neg <;> simp [sgn]
  refine ⟨?_, ?_, ?_, ?_, ?_⟩
  · intro a b; omega
  · intro a b
    rw [or_hi neg _ (by omega) (by omega), or_lo _ _ (by omega) (by omega) (by omega) (by omega) (by omega)]
    omega
  · intro a b
    have := h3 (by omega)
    omega
  · intro a b c
    rw [or_hi neg _ (by omega) (by omega)]
    have : e = -1074 := by
      rcases Int.lt_or_eq_of_le h1 with k | k
      · have := h3 k; omega
      · exact k.symm
    omega
  · intro a b c
    rw [or_hi neg _ (by omega) (by omega), or_lo _ _ (by omega) (by omega) (by omega) (by omega) (by omega)]
    omega

end Go.Proofs.Ytjfgijdojenjnab
