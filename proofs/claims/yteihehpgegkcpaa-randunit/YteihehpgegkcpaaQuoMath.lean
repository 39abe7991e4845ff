/-
  Plain mathematics: what is cut off, but noted, does not change what is rounded.
-/
import Derived.Test.YteihehpgegkcpaaSumRep
namespace Go.Proofs.Yteihehpgegkcpaa.Flo
open Go.Proofs.Yteihehpgegkcpaa

/-- Within a cell, its lower end apart, all is rounded alike. -/
theorem rne_cell {d p c a : Nat} (hp : p < d) (a0 : 0 < a) (a1 : a < 2 ^ p) :
    rne (c * 2 ^ p + a) d = c / 2 ^ (d - p) + (if 2 ^ (d - p - 1) ≤ c % 2 ^ (d - p) then 1 else 0) := by
  have hP := Nat.two_pow_pos p
  have eD : 2 ^ d = 2 ^ p * 2 ^ (d - p) := by rw [← Nat.pow_add]; congr 1; omega
  have eW : 2 ^ (d - p) = 2 * 2 ^ (d - p - 1) := by rw [← Nat.pow_succ']; congr 1; omega
  have e1 : (c * 2 ^ p + a) / 2 ^ p = c := by
    rw [Nat.mul_comm, Nat.mul_add_div hP, Nat.div_eq_of_lt a1, Nat.add_zero]
  have e2 : (c * 2 ^ p + a) / 2 ^ d = c / 2 ^ (d - p) := by rw [eD, ← Nat.div_div_eq_div_mul, e1]
  have e3 : (c * 2 ^ p + a) % 2 ^ d = c % 2 ^ (d - p) * 2 ^ p + a := by
    rw [eD, Nat.mod_mul, e1, Nat.mul_comm c, Nat.mul_add_mod, Nat.mod_eq_of_lt a1, Nat.mul_comm]
    omega
  unfold rne
  rw [e2, e3, eD, eW]
  generalize 2 ^ (d - p - 1) = W
  generalize c % (2 * W) = z
  generalize c / (2 * W) = y
  generalize 2 ^ p = P at *
  congr 1
  have x1 : P * (2 * W) = 2 * (P * W) := by grind
  rw [x1]
  by_cases h : W ≤ z
  · have h1 : P * W ≤ z * P := by rw [Nat.mul_comm z]; exact Nat.mul_le_mul_left P h
    rw [if_pos h, if_pos (Or.inl (by omega))]
  · have h1 : (z + 1) * P ≤ P * W := by rw [Nat.mul_comm]; exact Nat.mul_le_mul_left P (by omega)
    rw [Nat.add_mul, Nat.one_mul] at h1
    rw [if_neg h, if_neg (by omega)]

theorem rung_cell {g p c a b : Nat} (hc : 9007199254740992 ≤ c) (a0 : 0 < a) (a1 : a < 2 ^ p) (b0 : 0 < b) (b1 : b < 2 ^ p) : rung g (c * 2 ^ p + a) = rung g (c * 2 ^ p + b) := by
  obtain ⟨s1, s2, s3⟩ := lowest_spec g (c * 2 ^ p + a)
  have hP := Nat.two_pow_pos p
  have h53 : 2 ^ (53 + p) ≤ c * 2 ^ p := scaled_ge (by omega)
  have hp : p < lowest g (c * 2 ^ p + a) := by
    rcases Nat.lt_or_ge p (lowest g (c * 2 ^ p + a)) with k | k
    · exact k
    · exfalso
      have : 2 ^ (lowest g (c * 2 ^ p + a) + 53) ≤ 2 ^ (53 + p) := Nat.pow_le_pow_right (by decide) (by generalize lowest g (c * 2 ^ p + a) = d at *; omega)
      exact absurd (Nat.lt_of_lt_of_le s2 (Nat.le_trans this h53)) (by omega)
  have hl : lowest g (c * 2 ^ p + b) = lowest g (c * 2 ^ p + a) := by
    generalize lowest g (c * 2 ^ p + a) = d at *
    have u1 : c * 2 ^ p + b < 2 ^ (d + 53) := by
      have e : 2 ^ (d + 53) = 2 ^ (d + 53 - p) * 2 ^ p := by rw [← Nat.pow_add]; congr 1; omega
      rw [e] at s2 ⊢
      have : c < 2 ^ (d + 53 - p) := Nat.lt_of_mul_lt_mul_right (a := 2 ^ p) (by omega)
      have := Nat.mul_le_mul_right (2 ^ p) this
      rw [Nat.succ_mul] at this
      omega
    rcases Nat.lt_or_ge g d with k | k
    · refine lowest_high k ?_ u1
      have h := s3 k
      have e : 2 ^ (d + 52) = 2 ^ (d + 52 - p) * 2 ^ p := by rw [← Nat.pow_add]; congr 1; omega
      rw [e] at h ⊢
      have : 2 ^ (d + 52 - p) < c + 1 := by
        refine Nat.lt_of_mul_lt_mul_right (a := 2 ^ p) ?_
        rw [Nat.add_mul, Nat.one_mul]; omega
      have := Nat.mul_le_mul_right (2 ^ p) (show 2 ^ (d + 52 - p) ≤ c by omega)
      omega
    · have : d = g := by omega
      subst this
      exact lowest_low u1
  unfold rung
  rw [hl, rne_cell hp a0 a1, rne_cell hp b0 b1]

/-- Two that were cut off in one cell, and note whether anything fell. -/
theorem rung_sticky {g p c v u : Nat} (hc : 9007199254740992 ≤ c) (v1 : c * 2 ^ p ≤ v) (v2 : v < (c + 1) * 2 ^ p) (u1 : c * 2 ^ p ≤ u) (u2 : u < (c + 1) * 2 ^ p) (h : v = c * 2 ^ p ↔ u = c * 2 ^ p) : rung g v = rung g u := by
  rw [Nat.add_mul, Nat.one_mul] at v2 u2
  by_cases k : v = c * 2 ^ p
  · rw [k, h.1 k]
  · have k2 : u ≠ c * 2 ^ p := fun q => k (h.2 q)
    have e1 : v = c * 2 ^ p + (v - c * 2 ^ p) := by omega
    have e2 : u = c * 2 ^ p + (u - c * 2 ^ p) := by omega
    rw [e1, e2]
    exact rung_cell hc (by omega) (by omega) (by omega) (by omega)

theorem sticky_pair {Q Q2 x t g : Nat} {z1 z2 : Prop} [Decidable z1] [Decidable z2] (hq : 9007199254740992 ≤ Q) (l1 : Q * 2 ^ t ≤ Q2) (l2 : Q2 < (Q + 1) * 2 ^ t) (l3 : z1 ↔ (z2 ∧ Q2 = Q * 2 ^ t)) :
    rung g ((2 * Q + (if z1 then 0 else 1)) * 2 ^ (x + t)) = rung g ((2 * Q2 + (if z2 then 0 else 1)) * 2 ^ x) := by
  have ht := Nat.two_pow_pos t
  have hx := Nat.two_pow_pos x
  have ex : 2 ^ (x + t) = 2 ^ t * 2 ^ x := by rw [← Nat.pow_add, Nat.add_comm]
  have ep : 2 ^ (x + t + 1) = 2 * 2 ^ t * 2 ^ x := by rw [Nat.pow_succ', ex, Nat.mul_assoc]
  generalize 2 ^ t = T at *
  generalize 2 ^ x = X at *
  have hX : ∀ y z : Nat, y ≤ z → y * X ≤ z * X := fun y z h => Nat.mul_le_mul_right X h
  have hXl : ∀ y z : Nat, y < z → y * X < z * X := fun y z h => Nat.mul_lt_mul_of_pos_right h hx
  refine rung_sticky (p := x + t + 1) (c := Q) hq ?_ ?_ ?_ ?_ ?_
  · rw [ep, ex, show Q * (2 * T * X) = (2 * Q * T) * X by grind, show (2 * Q + (if z1 then 0 else 1)) * (T * X) = ((2 * Q + (if z1 then 0 else 1)) * T) * X by grind]
    exact hX _ _ (Nat.mul_le_mul_right T (by omega))
  · rw [ep, ex, show (Q + 1) * (2 * T * X) = ((2 * Q + 2) * T) * X by grind, show (2 * Q + (if z1 then 0 else 1)) * (T * X) = ((2 * Q + (if z1 then 0 else 1)) * T) * X by grind]
    exact hXl _ _ (Nat.mul_lt_mul_of_pos_right (by split <;> omega) ht)
  · rw [ep, show Q * (2 * T * X) = (2 * (Q * T)) * X by grind]
    exact hX _ _ (by omega)
  · rw [ep, show (Q + 1) * (2 * T * X) = (2 * ((Q + 1) * T)) * X by grind]
    exact hXl _ _ (by split <;> omega)
  · rw [ep, ex, show Q * (2 * T * X) = (2 * (Q * T)) * X by grind, show (2 * Q + (if z1 then 0 else 1)) * (T * X) = ((2 * Q + (if z1 then 0 else 1)) * T) * X by grind]
    constructor
    · intro h
      have h1 := Nat.eq_of_mul_eq_mul_right hx h
      have h2 : (2 * Q + (if z1 then 0 else 1)) * T = (2 * Q) * T := by rw [h1]; grind
      have h3 := Nat.eq_of_mul_eq_mul_right ht h2
      have h4 : z1 := by
        by_cases q : z1
        · exact q
        · rw [if_neg q] at h3; omega
      obtain ⟨h5, h6⟩ := l3.1 h4
      rw [if_pos h5, h6]
      rfl
    · intro h
      have h1 := Nat.eq_of_mul_eq_mul_right hx h
      have h2 : z2 := by
        by_cases q : z2
        · exact q
        · rw [if_neg q] at h1; omega
      rw [if_pos h2] at h1
      have h3 := l3.2 ⟨h2, by omega⟩
      rw [if_pos h3]
      grind

/-! Quotients. -/
/-- A quotient with k bits more, twice, and one more where anything is left. -/
def stick (A B k : Nat) : Nat := 2 * (A * 2 ^ k / B) + (if A * 2 ^ k % B = 0 then 0 else 1)

theorem stick_more {A B k t g x : Nat} (hB : 0 < B) (hq : 9007199254740992 ≤ A * 2 ^ k / B) : rung g (stick A B k * 2 ^ (x + t)) = rung g (stick A B (k + t) * 2 ^ x) := by
  unfold stick
  have eA : A * 2 ^ (k + t) = A * 2 ^ k * 2 ^ t := by rw [Nat.pow_add, Nat.mul_assoc]
  rw [eA]
  have hN := Nat.div_add_mod (A * 2 ^ k) B
  have hr := Nat.mod_lt (A * 2 ^ k) hB
  have hN2 := Nat.div_add_mod (A * 2 ^ k * 2 ^ t) B
  have hr2 := Nat.mod_lt (A * 2 ^ k * 2 ^ t) hB
  have ht := Nat.two_pow_pos t
  generalize A * 2 ^ k = N at *
  generalize N / B = Q at *
  generalize N % B = r at *
  generalize N * 2 ^ t % B = r2 at *
  -- how the finer quotient lies to the coarser one
  have l1 : Q * 2 ^ t ≤ N * 2 ^ t / B := by
    rw [Nat.le_div_iff_mul_le hB, ← hN]
    have : Q * 2 ^ t * B = B * Q * 2 ^ t := by grind
    rw [this]
    exact Nat.mul_le_mul_right _ (by omega)
  have l2 : N * 2 ^ t / B < (Q + 1) * 2 ^ t := by
    rw [Nat.div_lt_iff_lt_mul hB]
    have : (Q + 1) * 2 ^ t * B = (B * Q + B) * 2 ^ t := by grind
    rw [this, ← hN]
    exact Nat.mul_lt_mul_of_pos_right (by omega) ht
  have l3 : (r = 0) ↔ (r2 = 0 ∧ N * 2 ^ t / B = Q * 2 ^ t) := by
    constructor
    · intro h
      have e : N * 2 ^ t = B * (Q * 2 ^ t) := by rw [← hN, h]; grind
      have e2 : N * 2 ^ t / B = Q * 2 ^ t := by rw [e]; exact Nat.mul_div_cancel_left _ hB
      rw [e2, e] at hN2
      exact ⟨by omega, e2⟩
    · rintro ⟨h1, h2⟩
      rw [h1, h2, Nat.add_zero, ← hN] at hN2
      have : (B * Q) * 2 ^ t = (B * Q + r) * 2 ^ t := by rw [← hN2]; grind
      have := Nat.eq_of_mul_eq_mul_right ht this
      omega
  exact sticky_pair hq l1 l2 l3
theorem stick_scale (A B k c : Nat) : stick (A * 2 ^ c) (B * 2 ^ c) k = stick A B k := by
  have hc := Nat.two_pow_pos c
  unfold stick
  have e : A * 2 ^ c * 2 ^ k = A * 2 ^ k * 2 ^ c := by grind
  rw [e, Nat.mul_div_mul_right _ _ hc, Nat.mul_mod_mul_right]
  have i : A * 2 ^ k % B * 2 ^ c = 0 ↔ A * 2 ^ k % B = 0 := by
    rw [Nat.mul_eq_zero]; omega
  simp only [i]
theorem stick_up (A B k c : Nat) : stick (A * 2 ^ c) B k = stick A B (k + c) := by
  unfold stick
  have e : A * 2 ^ c * 2 ^ k = A * 2 ^ (k + c) := by rw [Nat.add_comm, Nat.pow_add, Nat.mul_assoc]
  rw [e]

end Go.Proofs.Yteihehpgegkcpaa.Flo
