/-
  The reference's Round and Make, by the rung of what they are given.
-/
import Derived.Test.YtjfgijdojenjnabDigRef2
namespace Go.Proofs.Ytjfgijdojenjnab
open Go.RowKit Dg Flo

theorem blen_ge {N : Nat} (h : N ≠ 0) : 2 ^ blen N ≤ 2 * N := by
  unfold blen
  rw [if_neg h, Nat.pow_succ']
  have := Nat.log2_self_le h
  omega
theorem blen_up {N : Nat} : 2 * N < 2 ^ (blen N + 1) := by
  have := blen_lt N
  rw [Nat.pow_succ']
  omega
theorem blen_le {N k : Nat} (h : N < 2 ^ k) : blen N ≤ k := by
  unfold blen
  split
  · omega
  · rename_i hn
    have := (Nat.log2_lt hn).2 h
    omega

/-- What the reference makes is what the program makes. -/
theorem make_same (exp : Int) (N : Nat) (hN : N < 36893488147419103232) :
    rung (G + 3700) (2 * N * 2 ^ (min (max exp (-5000)) 5000 - 1 + 1073 + (G + 3700 : Nat)).toNat) = rung G (N * 2 ^ (min (max exp (-1200)) 1100 + 1073 + G).toNat) := by
  have hg := G_eq
  have e0 : 2 * N * 2 ^ (min (max exp (-5000)) 5000 - 1 + 1073 + (G + 3700 : Nat)).toNat = N * 2 ^ (min (max exp (-5000)) 5000 + 1073 + (G + 3700 : Nat)).toNat := by
    rw [show (min (max exp (-5000)) 5000 + 1073 + ((G + 3700 : Nat) : Int)).toNat = (min (max exp (-5000)) 5000 - 1 + 1073 + ((G + 3700 : Nat) : Int)).toNat + 1 by omega, Nat.pow_succ]
    grind
  rw [e0]
  by_cases c1 : exp < -1200
  · rw [rung_tiny, rung_tiny]
    · obtain ⟨k, hk⟩ : ∃ k, (min (max exp (-1200)) 1100 + 1073 + (G : Int)).toNat = k := ⟨_, rfl⟩
      rw [hk]
      have h1 := scaled_lt (n := N) (L := 65) (E := k) (by omega)
      have h2 : 2 * 2 ^ (65 + k) ≤ 2 ^ G := by rw [← Nat.pow_succ']; exact Nat.pow_le_pow_right (by decide) (by omega)
      omega
    · obtain ⟨k, hk⟩ : ∃ k, (min (max exp (-5000)) 5000 + 1073 + ((G + 3700 : Nat) : Int)).toNat = k := ⟨_, rfl⟩
      rw [hk]
      have h1 := scaled_lt (n := N) (L := 65) (E := k) (by omega)
      have h2 : 2 * 2 ^ (65 + k) ≤ 2 ^ (G + 3700) := by rw [← Nat.pow_succ']; exact Nat.pow_le_pow_right (by decide) (by omega)
      omega
  · by_cases c2 : exp ≤ 1100
    · have e1 : (min (max exp (-5000)) 5000 + 1073 + ((G + 3700 : Nat) : Int)).toNat = (min (max exp (-1200)) 1100 + 1073 + (G : Int)).toNat + 3700 := by omega
      rw [e1, Nat.pow_add, ← Nat.mul_assoc, rung_scale]
    · by_cases h0 : N = 0
      · subst h0
        rw [Nat.zero_mul, Nat.zero_mul, rung_tiny (by simp), rung_tiny (by simp)]
      · rw [rung_huge, rung_huge]
        · exact Nat.le_trans (Nat.pow_le_pow_right (by decide) (by omega)) (Nat.le_mul_of_pos_left _ (by omega))
        · exact Nat.le_trans (Nat.pow_le_pow_right (by decide) (by omega)) (Nat.le_mul_of_pos_left _ (by omega))

end Go.Proofs.Ytjfgijdojenjnab
