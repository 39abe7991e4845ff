/-
  Layer 16: RandPowers, walked.
-/
import Derived.Test.YteihehpgegkcpaaRdBelow
import Derived.Laws.BitsAllLaws
namespace Go.Proofs.Yteihehpgegkcpaa
open Go.RowKit

theorem low_bits (Y : Int) (j : Nat) (hY : In64 Y) (hj : j < 64) : bits BinOp.and IntKind.u64 Y (((2 ^ j : Nat) : Int) - 1) = Y % ((2 ^ j : Nat) : Int) := by
  obtain ⟨y, rfl⟩ := Int.eq_ofNat_of_zero_le hY.1
  have h1 : 0 < 2 ^ j := Nat.pow_pos (by omega)
  have h2 : 2 ^ j ≤ 2 ^ 63 := Nat.pow_le_pow_right (by omega) (by omega)
  have h3 := hY.2
  have e : ((2 ^ j : Nat) : Int) - 1 = ((2 ^ j - 1 : Nat) : Int) := by omega
  rw [e, u64_and_nat y (2 ^ j - 1) (by omega) (by omega), Nat.and_two_pow_sub_one_eq_mod]
  exact Int.natCast_emod y (2 ^ j)
theorem last_pow (j : Nat) (hj : j < 64) : rlast ((2 ^ j : Nat) : Int) = 18446744073709551615 := by
  have h : ((2 ^ j : Nat) : Int) ∣ 18446744073709551616 := by
    have h0 : (2 ^ j : Nat) ∣ 2 ^ 64 := Nat.pow_dvd_pow 2 (by omega)
    exact Int.natCast_dvd_natCast.2 h0
  unfold rlast
  rw [Int.emod_eq_zero_of_dvd h]; rfl
theorem below_pow (s : Int) (j : Nat) (hj : j < 64) : rbS s ((2 ^ j : Nat) : Int) = rst s ∧ rbX s ((2 ^ j : Nat) : Int) = rmix (rst s) % ((2 ^ j : Nat) : Int) := by
  have h1 : 0 < 2 ^ j := Nat.pow_pos (by omega)
  have h0 : ¬ ((2 ^ j : Nat) : Int) = 0 := by omega
  have h2 : rfin 18446744073709551615 (rst s) = rst s := rfin_stop (by have := (in_mix (rst s)).2; omega)
  unfold rbS rbX
  rw [if_neg h0, if_neg h0, last_pow j hj, h2]
  exact ⟨rfl, rfl⟩
theorem randPowers_step (s k N A Y Z : Int) (w : World) (hN : IntKind.u64.wrap (2 ^ (k % 64).toNat) = N) (hM : IntKind.u64.wrap (N - 1) = N - 1) (hk : 0 ≤ k ∧ k < 256)
    (n1 : ∀ w, Calls Try.prog 11 #[.int .u64 s, .int .u64 N] w fun e w' => e = .returned (.tuple #[.int .u64 A, .int .u64 Z]) ∧ Below w.heap.size w w')
    (n2 : ∀ w, Calls Try.prog 8 #[.int .u64 s] w fun e w' => e = .returned (.tuple #[.int .u64 A, .int .u64 Y]) ∧ w' = w)
    (hZ : bits BinOp.and IntKind.u64 Y (N - 1) = Z) :
    Calls Try.prog 7 #[.int .u64 s, .int .u8 k] w fun e w' => e = .returned (.bool true) ∧ Below w.heap.size w w' := by
  go_enter Try.func7, Try.ntmps7
  go_wp2_with fail
  refine (n1 _).mono ?_
  rintro e w1 ⟨rfl, b1⟩
  go_wp2_with fail
  refine (n2 _).mono ?_
  rintro e w2 ⟨rfl, rfl⟩
  go_wp2_with fail
  refine (rlives_any _).mono ?_
  rintro e w' ⟨rfl, rfl⟩
  go_wp2
  go_ret
  exact ⟨rfl, b1⟩
theorem randPowers_walk (s k : Int) (w : World) (hk : 0 ≤ k ∧ k < 256) : Calls Try.prog 7 #[.int .u64 s, .int .u8 k] w fun e w' => e = .returned (.bool true) ∧ Below w.heap.size w w' := by
  obtain ⟨j, hj⟩ : ∃ j : Nat, (k % 64).toNat = j := ⟨_, rfl⟩
  have hj2 : j < 64 := by omega
  have h1 : 0 < 2 ^ j := Nat.pow_pos (by omega)
  have h2 : 2 ^ j ≤ 2 ^ 63 := Nat.pow_le_pow_right (by omega) (by omega)
  have e := below_pow s j hj2
  refine randPowers_step s k ((2 ^ j : Nat) : Int) (rst s) (rmix (rst s)) (rmix (rst s) % ((2 ^ j : Nat) : Int)) w ?_ ?_ hk (fun w => ?_) (fun w => next_any s w) (low_bits _ j (in_mix _) hj2)
  · rw [hj, wrap64, Int.natCast_pow]
    have e3 : ((2 : Nat) : Int) ^ j = ((2 ^ j : Nat) : Int) := by rw [Int.natCast_pow]
    show ((2 : Nat) : Int) ^ j % _ = ((2 : Nat) : Int) ^ j
    rw [e3]; omega
  · rw [wrap64]; omega
  · have h := below_any s ((2 ^ j : Nat) : Int) w ⟨by omega, by omega⟩
    rw [e.1, e.2] at h
    exact h
end Go.Proofs.Yteihehpgegkcpaa
