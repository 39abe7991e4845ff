/-
  Layer 16: the next state and number, as plain functions; they are one to one.
-/
import Derived.Test.YteihehpgegkcpaaRows
import Derived.WalkKit
import Derived.ProofKit
import Derived.OpenShut
import Derived.ShutString
import Derived.ChangeOld
import Derived.Below
import Derived.Deep.Light
import Derived.Deep.DeepCutAuto
import Derived.Laws.Bits64
namespace Go.Proofs.Yteihehpgegkcpaa
open Go.RowKit

def rm1 (x : Int) : Int := IntKind.u64.wrap (bits BinOp.xor IntKind.u64 x (x / 1073741824) * 13787848793156543929)
def rm2 (x : Int) : Int := IntKind.u64.wrap (bits BinOp.xor IntKind.u64 x (x / 134217728) * 10723151780598845931)
def rm3 (x : Int) : Int := bits BinOp.xor IntKind.u64 x (x / 2147483648)
/-- The number that a state tells. -/
def rmix (x : Int) : Int := rm3 (rm2 (rm1 x))
/-- The next state. -/
def rst (s : Int) : Int := IntKind.u64.wrap (s + 11400714819323198485)
def In64 (x : Int) : Prop := 0 ≤ x ∧ x < 18446744073709551616

theorem wrap64 (x : Int) : IntKind.u64.wrap x = x % 18446744073709551616 := by
  rw [IntKind.wrap_u64]
theorem in_wrap (x : Int) : In64 (IntKind.u64.wrap x) := by
  rw [wrap64]; exact ⟨by omega, by omega⟩
theorem in_st (s : Int) : In64 (rst s) := in_wrap _
theorem in_m1 (s : Int) : In64 (rm1 s) := in_wrap _
theorem in_m2 (s : Int) : In64 (rm2 s) := in_wrap _
theorem in_bits (x y : Int) : In64 (bits BinOp.xor IntKind.u64 x y) := by
  have h : 0 ≤ bits BinOp.xor IntKind.u64 x y ∧ bits BinOp.xor IntKind.u64 x y ≤ 18446744073709551615 := bits_within _ .u64 _ _
  exact ⟨h.1, by omega⟩
theorem in_m3 (s : Int) : In64 (rm3 s) := in_bits _ _
theorem in_mix (s : Int) : In64 (rmix s) := in_m3 _

/-- What is put together with itself shifted down tells what it was. -/
theorem shift_inj {x y s : Nat} (hs : 2 ≤ s) (k : Nat) (hk : s = 2 ^ k) (h : x ^^^ x / s = y ^^^ y / s) : x = y := by
  subst hk
  have h1 : (x ^^^ y) = (x ^^^ y) / 2 ^ k := by
    have e : (x ^^^ y) / 2 ^ k = x / 2 ^ k ^^^ y / 2 ^ k := by
      rw [← Nat.shiftRight_eq_div_pow, ← Nat.shiftRight_eq_div_pow, ← Nat.shiftRight_eq_div_pow, Nat.shiftRight_xor_distrib]
    rw [e]
    have e2 : x ^^^ x / 2 ^ k ^^^ (y ^^^ x / 2 ^ k) = y ^^^ y / 2 ^ k ^^^ (y ^^^ x / 2 ^ k) := by rw [h]
    have e3 : x ^^^ x / 2 ^ k ^^^ (y ^^^ x / 2 ^ k) = x ^^^ y := by
      rw [Nat.xor_assoc, Nat.xor_comm y, ← Nat.xor_assoc (x / 2 ^ k), Nat.xor_self, Nat.zero_xor]
    have e4 : y ^^^ y / 2 ^ k ^^^ (y ^^^ x / 2 ^ k) = x / 2 ^ k ^^^ y / 2 ^ k := by
      rw [Nat.xor_comm y, Nat.xor_assoc, ← Nat.xor_assoc y, Nat.xor_self, Nat.zero_xor, Nat.xor_comm]
    rw [← e3, e2, e4]
  have h2 : x ^^^ y = 0 := by
    rcases Nat.eq_zero_or_pos (x ^^^ y) with h3 | h3
    · exact h3
    · have := Nat.div_lt_self h3 hs
      omega
  have e5 : x ^^^ y ^^^ y = 0 ^^^ y := by rw [h2]
  rw [Nat.xor_assoc, Nat.xor_self, Nat.xor_zero, Nat.zero_xor] at e5
  exact e5
theorem shift_injZ {x y : Int} (hx : In64 x) (hy : In64 y) (k : Nat) (hk : 1 ≤ k) (h : bits BinOp.xor IntKind.u64 x (x / ((2 ^ k : Nat) : Int)) = bits BinOp.xor IntKind.u64 y (y / ((2 ^ k : Nat) : Int))) : x = y := by
  obtain ⟨a, rfl⟩ := Int.eq_ofNat_of_zero_le hx.1
  obtain ⟨b, rfl⟩ := Int.eq_ofNat_of_zero_le hy.1
  have h1 := hx.2; have h2 := hy.2
  rw [xorShift_u64 a (2 ^ k) (by omega), xorShift_u64 b (2 ^ k) (by omega)] at h
  have h3 : 2 ^ 1 ≤ 2 ^ k := Nat.pow_le_pow_right (by omega) hk
  rw [shift_inj h3 k rfl (Int.ofNat.inj h)]
theorem mul_inj {x y c d : Int} (hx : In64 x) (hy : In64 y) (hc : c * d % 18446744073709551616 = 1) (h : IntKind.u64.wrap (x * c) = IntKind.u64.wrap (y * c)) : x = y := by
  rw [wrap64, wrap64] at h
  have key : ∀ z : Int, In64 z → z = (z * c % 18446744073709551616) * d % 18446744073709551616 := by
    intro z hz
    rw [Int.mul_emod, Int.emod_emod_of_dvd _ (Int.dvd_refl _), ← Int.mul_emod, Int.mul_assoc, Int.mul_emod, hc, Int.mul_one, Int.emod_emod_of_dvd _ (Int.dvd_refl _)]
    exact (Int.emod_eq_of_lt hz.1 hz.2).symm
  rw [key x hx, key y hy, h]
theorem m1_inj {x y : Int} (hx : In64 x) (hy : In64 y) (h : rm1 x = rm1 y) : x = y :=
  shift_injZ hx hy 30 (by omega) (mul_inj (d := 10871156337175269513) (in_bits _ _) (in_bits _ _) (by decide) h)
theorem m2_inj {x y : Int} (hx : In64 x) (hy : In64 y) (h : rm2 x = rm2 y) : x = y :=
  shift_injZ hx hy 27 (by omega) (mul_inj (d := 3573116690164977347) (in_bits _ _) (in_bits _ _) (by decide) h)
theorem m3_inj {x y : Int} (hx : In64 x) (hy : In64 y) (h : rm3 x = rm3 y) : x = y :=
  shift_injZ hx hy 31 (by omega) h
theorem mix_inj {x y : Int} (hx : In64 x) (hy : In64 y) (h : rmix x = rmix y) : x = y :=
  m1_inj hx hy (m2_inj (in_m1 _) (in_m1 _) (m3_inj (in_m2 _) (in_m2 _) h))
theorem st_inj {x y : Int} (hx : In64 x) (hy : In64 y) (h : rst x = rst y) : x = y := by
  unfold rst at h
  rw [wrap64, wrap64] at h
  have := hx.1; have := hx.2; have := hy.1; have := hy.2
  omega

/-- The state behind k steps. -/
def rsts (s : Int) : Nat → Int
  | 0 => s
  | k + 1 => rsts (rst s) k
theorem rsts_mod (k : Nat) : ∀ s : Int, In64 s → rsts s k = (s + k * 11400714819323198485) % 18446744073709551616 := by
  induction k with
  | zero => intro s hs; simp [rsts]; exact (Int.emod_eq_of_lt hs.1 hs.2).symm
  | succ k ih =>
    intro s hs
    show rsts (rst s) k = _
    rw [ih _ (in_st s)]
    unfold rst
    rw [wrap64]
    omega
/-- Behind some steps the state 0 comes, which tells 0. -/
theorem rsts_zero (s : Int) (hs : In64 s) : ∃ k, rsts s (k + 1) = 0 := by
  have hk : ∃ k : Nat, (k : Int) = (-(s + 11400714819323198485) * 17428512612931826493) % 18446744073709551616 := ⟨_, Int.toNat_of_nonneg (by omega)⟩
  obtain ⟨k, hk⟩ := hk
  refine ⟨k, ?_⟩
  rw [rsts_mod _ _ hs]
  have h1 : ((k : Int) * 11400714819323198485) % 18446744073709551616 = (-(s + 11400714819323198485)) % 18446744073709551616 := by
    rw [hk, Int.mul_emod, Int.emod_emod_of_dvd _ (Int.dvd_refl _), ← Int.mul_emod, Int.mul_assoc, Int.mul_emod, show (17428512612931826493 * 11400714819323198485 : Int) % 18446744073709551616 = 1 by decide, Int.mul_one, Int.emod_emod_of_dvd _ (Int.dvd_refl _)]
  have h2 : (s + ((k + 1 : Nat) : Int) * 11400714819323198485) = (k : Int) * 11400714819323198485 + (s + 11400714819323198485) := by
    rw [Int.natCast_add, Int.add_mul]; omega
  rw [h2]
  omega
theorem mix_zero : rmix 0 = 0 := by decide +kernel
end Go.Proofs.Yteihehpgegkcpaa
