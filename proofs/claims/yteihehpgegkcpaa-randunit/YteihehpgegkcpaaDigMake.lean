/-
  The reference's Round and Make, by the rung of what they are given.
-/
import Derived.Test.YteihehpgegkcpaaDigRef2
namespace Go.Proofs.Yteihehpgegkcpaa
open Go.RowKit Dg Flo

theorem blen_ge {N : Nat} (h : N ≠ 0) : 2 ^ blen N ≤ 2 * N := by
  unfold blen
  rw [if_neg h, Nat.pow_succ']
  have := Nat.log2_self_le h
  omega
theorem blen_up {N : Nat} : 2 * N < 2 ^ (blen N + 1) := by
  have := blen_lt N
  rw [Nat.pow_succ']
  omega
theorem blen_le {N k : Nat} (h : N < 2 ^ k) : blen N ≤ k := by
  unfold blen
  split
  · omega
  · rename_i hn
    have := (Nat.log2_lt hn).2 h
    omega

/-- Round, at any number of digits. -/
theorem round_any (v : Value) (N l g : Nat) (exp : Int) (more neg : Bool) (w : World) (hD : D w v N l) (hl : l ≤ 1048576) (e1 : -16777216 ≤ exp) (e2 : exp ≤ 16777216) (hg : 0 ≤ exp + 1073 + g) (hm : more = true → 9007199254740992 ≤ N) :
    Calls Try.prog 22 #[.bool neg, .int .i64 exp, v, .bool more] w fun e w' => e = .returned (.int .u64 (sgn neg + (rung g ((2 * N + more.toNat) * 2 ^ (exp + 1073 + g).toNat) : Nat))) ∧ Below w.heap.size w w' := by
  have hmn : more.toNat ≤ 1 := by cases more <;> simp
  have hn2 : blen N ≤ 16777216 := by
    have := hD.lt
    rw [pow16] at this
    have := blen_le this
    omega
  by_cases h0 : N = 0
  · have hf : more = false := by
      cases more
      · rfl
      · have := hm rfl; omega
    subst h0
    subst hf
    refine (round_low v 0 l 0 exp false neg w hD hl rfl (by omega) e1 e2 (Or.inl ⟨rfl, rfl⟩)).mono ?_
    rintro e w' ⟨rfl, rfl⟩
    refine ⟨ret_u64 ?_, Below.refl _ _⟩
    rw [rung_tiny (by simp)]
    simp
  · have b1 := blen_ge h0
    have b2 := blen_up (N := N)
    have hn0 : blen N ≠ 0 := by unfold blen; rw [if_neg h0]; omega
    obtain ⟨E, hE⟩ := Int.eq_ofNat_of_zero_le hg
    have hm54 : more = true → 54 ≤ blen N := by
      intro h
      have h1 := hm h
      rcases Nat.lt_or_ge (blen N) 54 with k | k
      · have h2 := blen_lt N
        have h3 : 2 ^ blen N ≤ 2 ^ 53 := Nat.pow_le_pow_right (by decide) (by omega)
        omega
      · exact k
    by_cases c1 : (blen N : Int) + exp < -1100
    · refine (round_low v N l (blen N) exp more neg w hD hl rfl hn2 e1 e2 (Or.inr c1)).mono ?_
      rintro e w' ⟨rfl, rfl⟩
      refine ⟨ret_u64 ?_, Below.refl _ _⟩
      rw [rung_tiny]
      · simp
      · rw [hE, Int.toNat_natCast]
        have h2 : 2 * N + more.toNat < 2 ^ (blen N + 1) := by
          have : 2 ^ (blen N + 1) = 2 * 2 ^ blen N := Nat.pow_succ'
          omega
        have h3 := scaled_lt (E := E) h2
        have h4 : 2 * 2 ^ (blen N + 1 + E) ≤ 2 ^ g := by
          rw [← Nat.pow_succ']; exact Nat.pow_le_pow_right (by decide) (by omega)
        omega
    · by_cases c2 : 1100 < (blen N : Int) + exp
      · refine (round_high v N l (blen N) exp more neg w hD hl rfl hn2 e1 e2 hn0 c2).mono ?_
        rintro e w' ⟨rfl, rfl⟩
        refine ⟨ret_u64 ?_, Below.refl _ _⟩
        rw [rung_huge]
        · rfl
        · rw [hE, Int.toNat_natCast]
          have h2 : 2 ^ blen N ≤ 2 * N + more.toNat := by omega
          exact Nat.le_trans (Nat.pow_le_pow_right (by decide) (by omega)) (scaled_ge (E := E) h2)
      · obtain ⟨r1, r2, r3, r4⟩ := round_rung N (blen N) g exp (max ((blen N : Int) - 53) (-1074 - exp)) more b1 b2 rfl hg hm54
        refine round_main v N l (blen N) _ _ _ _ _ exp _ more neg _ (decide (N % 2 ^ (max ((blen N : Int) - 53) (-1074 - exp) - 2).toNat ≠ 0)) w hD hl rfl hn2 e1 e2 hn0 (by omega) (by omega) rfl (fun _ => rfl) ?_ rfl r4 rfl rfl rfl r2 r3 r1
        unfold rLost
        rfl

/-- What the reference makes is what the program makes. -/
theorem make_same (exp : Int) (N : Nat) (hN : N < 36893488147419103232) :
    rung (G + 3700) (2 * N * 2 ^ (min (max exp (-5000)) 5000 - 1 + 1073 + (G + 3700 : Nat)).toNat) = rung G (N * 2 ^ (min (max exp (-1200)) 1100 + 1073 + G).toNat) := by
  have hg := G_eq
  have e0 : 2 * N * 2 ^ (min (max exp (-5000)) 5000 - 1 + 1073 + (G + 3700 : Nat)).toNat = N * 2 ^ (min (max exp (-5000)) 5000 + 1073 + (G + 3700 : Nat)).toNat := by
    rw [show (min (max exp (-5000)) 5000 + 1073 + ((G + 3700 : Nat) : Int)).toNat = (min (max exp (-5000)) 5000 - 1 + 1073 + ((G + 3700 : Nat) : Int)).toNat + 1 by omega, Nat.pow_succ]
    grind
  rw [e0]
  by_cases c1 : exp < -1200
  · rw [rung_tiny, rung_tiny]
    · obtain ⟨k, hk⟩ : ∃ k, (min (max exp (-1200)) 1100 + 1073 + (G : Int)).toNat = k := ⟨_, rfl⟩
      rw [hk]
      have h1 := scaled_lt (n := N) (L := 65) (E := k) (by omega)
      have h2 : 2 * 2 ^ (65 + k) ≤ 2 ^ G := by rw [← Nat.pow_succ']; exact Nat.pow_le_pow_right (by decide) (by omega)
      omega
    · obtain ⟨k, hk⟩ : ∃ k, (min (max exp (-5000)) 5000 + 1073 + ((G + 3700 : Nat) : Int)).toNat = k := ⟨_, rfl⟩
      rw [hk]
      have h1 := scaled_lt (n := N) (L := 65) (E := k) (by omega)
      have h2 : 2 * 2 ^ (65 + k) ≤ 2 ^ (G + 3700) := by rw [← Nat.pow_succ']; exact Nat.pow_le_pow_right (by decide) (by omega)
      omega
  · by_cases c2 : exp ≤ 1100
    · have e1 : (min (max exp (-5000)) 5000 + 1073 + ((G + 3700 : Nat) : Int)).toNat = (min (max exp (-1200)) 1100 + 1073 + (G : Int)).toNat + 3700 := by omega
      rw [e1, Nat.pow_add, ← Nat.mul_assoc, rung_scale]
    · by_cases h0 : N = 0
      · subst h0
        rw [Nat.zero_mul, Nat.zero_mul, rung_tiny (by simp), rung_tiny (by simp)]
      · rw [rung_huge, rung_huge]
        · exact Nat.le_trans (Nat.pow_le_pow_right (by decide) (by omega)) (Nat.le_mul_of_pos_left _ (by omega))
        · exact Nat.le_trans (Nat.pow_le_pow_right (by decide) (by omega)) (Nat.le_mul_of_pos_left _ (by omega))

end Go.Proofs.Yteihehpgegkcpaa
