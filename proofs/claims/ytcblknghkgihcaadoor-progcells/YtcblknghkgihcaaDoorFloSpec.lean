/-
  What the small functions of layer 1 answer, as plain functions of integers.
-/
import Derived.Test.YtcblknghkgihcaaDoorFlo
namespace Go.Proofs.YtcblknghkgihcaaDoor.Flo
set_option maxRecDepth 100000

def kindZ (a : Int) : Int := if 9218868437227405312 < mag a then 4 else if mag a = 0 then 0 else if mag a = 9218868437227405312 then 3 else if mag a < 4503599627370496 then 1 else 2
def belowB (a : Int) : Bool := decide (9223372036854775808 ≤ a)
def canonZ (a : Int) : Int := if nanB a then 9221120237041090560 else a
def negZ (a : Int) : Int := if nanB a then 9221120237041090560 else if 9223372036854775808 ≤ a then a - 9223372036854775808 else a + 9223372036854775808
def absZ (a : Int) : Int := if nanB a then 9221120237041090560 else mag a
def beforeB (a b : Int) : Bool := if nanB a then false else if nanB b then true else if sv a = sv b then belowB a && !belowB b else decide (sv a < sv b)

theorem u64_toNat {a : Int} (h : U64 a) : a.toNat < 18446744073709551616 := by have := h.1; have := h.2; omega

theorem and_sign (a : Int) (h : U64 a) : bits .and .u64 a 9223372036854775808 = if 9223372036854775808 ≤ a then 9223372036854775808 else 0 := by
  obtain ⟨h0, h1⟩ := h
  rw [u64_and a _ h0 h1 (by decide) (by decide)]
  have e : (9223372036854775808 : Int).toNat = 2 ^ 63 := by decide
  rw [e, nat_bit 63 a.toNat]
  have : a.toNat / 2 ^ 63 = if 9223372036854775808 ≤ a then 1 else 0 := by
    split <;> omega
  rw [this]
  split <;> decide

theorem xor_sign (a : Int) (h : U64 a) : bits .xor .u64 a 9223372036854775808 = if 9223372036854775808 ≤ a then a - 9223372036854775808 else a + 9223372036854775808 := by
  obtain ⟨h0, h1⟩ := h
  rw [u64_xor a _ h0 h1 (by decide) (by decide)]
  have e : (9223372036854775808 : Int).toNat = 2 ^ 63 := by decide
  rw [e]
  obtain ⟨x, rfl⟩ := Int.eq_ofNat_of_zero_le h0
  simp only [Int.toNat_natCast]
  have hx : x < 2 ^ 64 := by omega
  have key : x ^^^ 2 ^ 63 = if 2 ^ 63 ≤ x then x - 2 ^ 63 else x + 2 ^ 63 := by
    split
    · rename_i hge
      apply Nat.eq_of_testBit_eq
      intro i
      obtain ⟨y, rfl⟩ := Nat.exists_eq_add_of_le hge
      have hy : y < 2 ^ 63 := by omega
      rw [Nat.add_sub_cancel_left, Nat.testBit_xor, Nat.testBit_two_pow]
      by_cases hi : 63 = i
      · subst hi
        rw [Nat.testBit_two_pow_add_eq, Nat.testBit_lt_two_pow hy]
        simp
      · rw [show decide (63 = i) = false from decide_eq_false hi, Bool.xor_false]
        rcases Nat.lt_or_gt_of_ne hi with h | h
        · rw [Nat.testBit_lt_two_pow (i := i) (Nat.lt_of_lt_of_le hx (Nat.pow_le_pow_right (by decide) h)), Nat.testBit_lt_two_pow (Nat.lt_of_lt_of_le hy (Nat.pow_le_pow_right (by decide) (by omega)))]
        · rw [Nat.testBit_two_pow_add_gt h]
    · rename_i hlt
      apply Nat.eq_of_testBit_eq
      intro i
      have hy : x < 2 ^ 63 := by omega
      rw [Nat.add_comm, Nat.testBit_xor, Nat.testBit_two_pow]
      by_cases hi : 63 = i
      · subst hi
        rw [Nat.testBit_two_pow_add_eq, Nat.testBit_lt_two_pow hy]
        simp
      · rw [show decide (63 = i) = false from decide_eq_false hi, Bool.xor_false]
        rcases Nat.lt_or_gt_of_ne hi with h | h
        · rw [Nat.testBit_lt_two_pow (Nat.lt_of_lt_of_le hy (Nat.pow_le_pow_right (by decide) (by omega))), Nat.testBit_lt_two_pow (i := i) (Nat.lt_of_lt_of_le (show 2 ^ 63 + x < 2 ^ 64 by omega) (Nat.pow_le_pow_right (by decide) h))]
        · rw [Nat.testBit_two_pow_add_gt h]
  rw [key]
  split <;> split <;> omega

theorem andNot_sign (a : Int) (h : U64 a) : bits .andNot .u64 a 9223372036854775808 = mag a := by
  obtain ⟨h0, h1⟩ := h
  rw [u64_andNot a _ h0 h1 (by decide) (by decide)]
  have e : 18446744073709551615 - (9223372036854775808 : Int).toNat = 2 ^ 63 - 1 := by decide
  rw [e, Nat.and_two_pow_sub_one_eq_mod]
  unfold mag
  split <;> omega

theorem negZ_u64 {a : Int} (h : U64 a) : U64 (negZ a) := by
  obtain ⟨h0, h1⟩ := h
  unfold negZ U64
  split
  · decide
  · split <;> omega
theorem mag_u64 {a : Int} (h : U64 a) : U64 (mag a) := by
  obtain ⟨h0, h1⟩ := h
  unfold mag U64
  split <;> omega
theorem absZ_u64 {a : Int} (h : U64 a) : U64 (absZ a) := by
  unfold absZ
  split
  · exact ⟨by decide, by decide⟩
  · exact mag_u64 h

end Go.Proofs.YtcblknghkgihcaaDoor.Flo
