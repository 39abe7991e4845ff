/-
  The walks of the reference's Bit, Len, Small, Sign and Infinite.
-/
import Derived.Test.YtjfgijdojenjnabDigSum
namespace Go.Proofs.Ytjfgijdojenjnab
open Go.RowKit Dg

/-- How many bits a number has. -/
def blen (n : Nat) : Nat := if n = 0 then 0 else n.log2 + 1

theorem bit_dig (n q r : Nat) (hr : r < 16) : dig n q / 2 ^ r % 2 = n / 2 ^ (16 * q + r) % 2 := by
  unfold dig
  rw [pow16, Nat.pow_add, ← Nat.div_div_eq_div_mul]
  generalize n / 2 ^ (16 * q) = x
  have e : 65536 = 2 ^ r * 2 ^ (16 - r) := by rw [← Nat.pow_add, show r + (16 - r) = 16 by omega]
  rw [e, Nat.mod_mul_right_div_self]
  have d : 2 ∣ 2 ^ (16 - r) := by
    rw [show 16 - r = (15 - r) + 1 by omega, Nat.pow_succ]; exact Nat.dvd_mul_left _ _
  exact Nat.mod_mod_of_dvd _ d

theorem and1 (x : Nat) (h : x < 18446744073709551616) : bits .and .u64 (x : Int) 1 = ((x % 2 : Nat) : Int) := by
  rw [u64_and _ _ (Int.natCast_nonneg _) (by omega) (by decide) (by decide), Int.toNat_natCast, show (1 : Int).toNat = 1 from rfl, nat_mask1]

theorem blen_lt (n : Nat) : n < 2 ^ blen n := by
  unfold blen; split
  · rename_i h; subst h; simp
  · exact Nat.lt_log2_self
theorem blen_eq {n k : Nat} (h : n < 2 ^ k) (h2 : k = 0 ∨ n / 2 ^ (k - 1) % 2 = 1) : k = blen n := by
  unfold blen
  rcases Nat.eq_zero_or_pos k with k0 | k0
  · subst k0
    have : n = 0 := by simpa using h
    rw [if_pos this]
  · rcases h2 with h2 | h2
    · omega
    · have hge : 2 ^ (k - 1) ≤ n := by
        rcases Nat.lt_or_ge n (2 ^ (k - 1)) with hh | hh
        · rw [Nat.div_eq_of_lt hh] at h2; omega
        · exact hh
      have hn : n ≠ 0 := by have := Nat.two_pow_pos (k - 1); omega
      rw [if_neg hn]
      have := (Nat.log2_eq_iff hn).2 ⟨hge, by rw [show k - 1 + 1 = k by omega]; exact h⟩
      omega
theorem lt_of_bit {n k : Nat} (h : n < 2 ^ (k + 1)) (h2 : n / 2 ^ k % 2 = 0) : n < 2 ^ k := by
  have hq : n / 2 ^ k < 2 := (Nat.div_lt_iff_lt_mul (Nat.two_pow_pos k)).2 (by rw [← Nat.pow_succ']; exact h)
  rcases Nat.lt_or_ge n (2 ^ k) with hh | hh
  · exact hh
  · have := (Nat.le_div_iff_mul_le (Nat.two_pow_pos k)).2 (show 1 * 2 ^ k ≤ n by omega)
    generalize n / 2 ^ k = z at *
    omega

theorem join4 (n : Nat) (h : n < 18446744073709551616) : ((dig n 0 ||| dig n 1 * 65536) ||| dig n 2 * 4294967296) ||| dig n 3 * 281474976710656 = n := by
  have d0 := dig_lt n 0
  have d1 := dig_lt n 1
  have d2 := dig_lt n 2
  have d3 := dig_lt n 3
  rw [Nat.or_comm (dig n 0), nat_join 16 (dig n 1 * 65536) (dig n 0) (by omega) (by omega)]
  rw [Nat.or_comm _ (dig n 2 * 4294967296), nat_join 32 (dig n 2 * 4294967296) _ (by omega) (by omega)]
  rw [Nat.or_comm _ (dig n 3 * 281474976710656), nat_join 48 (dig n 3 * 281474976710656) _ (by omega) (by omega)]
  unfold dig
  simp only [Nat.pow_zero, Nat.div_one, Nat.pow_one]
  omega

theorem or_nat (a b : Nat) (ha : a < 18446744073709551616) (hb : b < 18446744073709551616) (B : Int) (e : B = (b : Int)) : bits .or .u64 (a : Int) B = ((a ||| b : Nat) : Int) := by
  subst e
  exact u64_or_nat a b ha hb

end Go.Proofs.Ytjfgijdojenjnab
