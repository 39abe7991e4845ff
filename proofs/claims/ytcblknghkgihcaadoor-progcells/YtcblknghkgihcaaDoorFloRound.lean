/-
  Plain mathematics of rounding: the nearest number, in units of 2 to the power -1374.
-/
import Derived.Test.YtcblknghkgihcaaDoorFloSpec
import Derived.Lib.BitFns
namespace Go.Proofs.YtcblknghkgihcaaDoor.Flo
set_option maxRecDepth 100000

/-- v by 2 ^ d, to the nearest, ties to even. -/
def rne (v d : Nat) : Nat := v / 2 ^ d + (if 2 ^ d < 2 * (v % 2 ^ d) ∨ (2 ^ d = 2 * (v % 2 ^ d) ∧ v / 2 ^ d % 2 = 1) then 1 else 0)
def lowest (g v : Nat) : Nat := if v < 2 ^ (g + 53) then g else v.log2 - 52
/-- The rung nearest to v units of 2 to the power (-1074 - g). -/
def rung (g v : Nat) : Nat := min ((lowest g v - g) * 4503599627370496 + rne v (lowest g v)) 9218868437227405312

theorem rne_mono {v u : Nat} (d : Nat) (h : v ≤ u) : rne v d ≤ rne u d := by
  have hp : 0 < 2 ^ d := Nat.two_pow_pos d
  have hq : v / 2 ^ d ≤ u / 2 ^ d := Nat.div_le_div_right h
  have ev := Nat.div_add_mod v (2 ^ d)
  have eu := Nat.div_add_mod u (2 ^ d)
  unfold rne
  generalize v / 2 ^ d = q at *
  generalize u / 2 ^ d = s at *
  generalize v % 2 ^ d = r at *
  generalize u % 2 ^ d = t at *
  by_cases e : q = s
  · subst e
    have hr : r ≤ t := by omega
    split <;> split <;> omega
  · split <;> split <;> omega

theorem rne_le {v d : Nat} (h : v < 2 ^ (d + 53)) : rne v d ≤ 9007199254740992 := by
  have : v / 2 ^ d < 2 ^ 53 := (Nat.div_lt_iff_lt_mul (Nat.two_pow_pos d)).2 (by rw [← Nat.pow_add, Nat.add_comm]; exact h)
  unfold rne
  split <;> omega
theorem rne_ge {v d : Nat} (h : 2 ^ (d + 52) ≤ v) : 4503599627370496 ≤ rne v d := by
  have : 2 ^ 52 ≤ v / 2 ^ d := (Nat.le_div_iff_mul_le (Nat.two_pow_pos d)).2 (by rw [← Nat.pow_add, Nat.add_comm]; exact h)
  unfold rne
  split <;> omega

theorem rne_scale (v d s : Nat) : rne (v * 2 ^ s) (d + s) = rne v d := by
  have hs : 0 < 2 ^ s := Nat.two_pow_pos s
  unfold rne
  rw [Nat.pow_add, Nat.mul_div_mul_right _ _ hs, Nat.mul_mod_mul_right]
  have e1 : 2 ^ d * 2 ^ s < 2 * (v % 2 ^ d * 2 ^ s) ↔ 2 ^ d < 2 * (v % 2 ^ d) := by
    rw [← Nat.mul_assoc]
    exact Nat.mul_lt_mul_right hs
  have e2 : 2 ^ d * 2 ^ s = 2 * (v % 2 ^ d * 2 ^ s) ↔ 2 ^ d = 2 * (v % 2 ^ d) := by
    rw [← Nat.mul_assoc]
    exact ⟨fun k => Nat.eq_of_mul_eq_mul_right hs k, fun k => congrArg (· * 2 ^ s) k⟩
  simp only [e1, e2]
theorem rne_exact (v d : Nat) : rne (v * 2 ^ d) d = v := by
  have h := rne_scale v 0 d
  rw [Nat.zero_add] at h
  rw [h]
  unfold rne
  simp [Nat.mod_one]
theorem rne_small {v d : Nat} (h : 2 * v < 2 ^ d) : rne v d = 0 := by
  unfold rne
  rw [Nat.div_eq_of_lt (by omega), Nat.mod_eq_of_lt (by omega), if_neg (by omega)]

theorem log2_bounds {v : Nat} (h : v ≠ 0) : 2 ^ v.log2 ≤ v ∧ v < 2 ^ (v.log2 + 1) := ⟨Nat.log2_self_le h, Nat.lt_log2_self⟩
theorem log2_of {v k : Nat} (h1 : 2 ^ k ≤ v) (h2 : v < 2 ^ (k + 1)) : v.log2 = k :=
  (Nat.log2_eq_iff (by have := Nat.two_pow_pos k; omega)).2 ⟨h1, h2⟩

theorem lowest_low {g v : Nat} (h : v < 2 ^ (g + 53)) : lowest g v = g := if_pos h
theorem lowest_high {g v d : Nat} (hd : g < d) (h1 : 2 ^ (d + 52) ≤ v) (h2 : v < 2 ^ (d + 53)) : lowest g v = d := by
  have h3 : 2 ^ (g + 53) ≤ 2 ^ (d + 52) := Nat.pow_le_pow_right (by decide) (by omega)
  unfold lowest
  rw [if_neg (by omega), log2_of h1 h2]
  omega

/-- Where the lowest digit that is kept lies. -/
theorem lowest_spec (g v : Nat) : g ≤ lowest g v ∧ v < 2 ^ (lowest g v + 53) ∧ (g < lowest g v → 2 ^ (lowest g v + 52) ≤ v) := by
  unfold lowest
  split
  · rename_i h
    exact ⟨Nat.le_refl _, h, fun k => absurd k (Nat.lt_irrefl _)⟩
  · rename_i h
    have hv : v ≠ 0 := by intro e; subst e; exact h (Nat.two_pow_pos _)
    obtain ⟨b1, b2⟩ := log2_bounds hv
    have hl : g + 53 ≤ v.log2 := by
      rcases Nat.lt_or_ge v.log2 (g + 53) with k | k
      · exfalso; exact h (Nat.lt_of_lt_of_le b2 (Nat.pow_le_pow_right (by decide) k))
      · exact k
    refine ⟨by omega, ?_, fun _ => ?_⟩
    · rw [show v.log2 - 52 + 53 = v.log2 + 1 by omega]; exact b2
    · rw [show v.log2 - 52 + 52 = v.log2 by omega]; exact b1

theorem ladder (g l m a b : Nat) (h1 : l = m → a ≤ b) (h2 : l < m → a ≤ 9007199254740992 ∧ 4503599627370496 ≤ b) (h3 : l ≤ m) (h4 : g ≤ l) :
    min ((l - g) * 4503599627370496 + a) 9218868437227405312 ≤ min ((m - g) * 4503599627370496 + b) 9218868437227405312 := by
  rcases Nat.lt_or_ge l m with k | k
  · obtain ⟨k1, k2⟩ := h2 k
    omega
  · have e : l = m := by omega
    have := h1 e
    subst e
    omega
theorem rung_mono (g : Nat) {v u : Nat} (h : v ≤ u) : rung g v ≤ rung g u := by
  obtain ⟨a1, a2, a3⟩ := lowest_spec g v
  obtain ⟨b1, b2, b3⟩ := lowest_spec g u
  unfold rung
  refine ladder g _ _ _ _ (fun k => ?_) (fun k => ⟨rne_le a2, rne_ge (b3 (Nat.lt_of_le_of_lt a1 k))⟩) ?_ a1
  · rw [k]
    exact rne_mono _ h
  · rcases Nat.lt_or_ge (lowest g u) (lowest g v) with k | k
    · exfalso
      have h1 := a3 (Nat.lt_of_le_of_lt b1 k)
      have h2 : 2 ^ (lowest g u + 53) ≤ 2 ^ (lowest g v + 52) := Nat.pow_le_pow_right (by decide) (by generalize lowest g u = l at k ⊢; generalize lowest g v = m at k ⊢; omega)
      exact absurd (Nat.lt_of_lt_of_le b2 (Nat.le_trans h2 (Nat.le_trans h1 h))) (Nat.lt_irrefl _)
    · exact k
theorem rung_le (g v : Nat) : rung g v ≤ 9218868437227405312 := Nat.min_le_right _ _
/-- What lies far below the least number. -/
theorem rung_tiny {g v : Nat} (h : 2 * v ≤ 2 ^ g) : rung g v = 0 := by
  have hp : 2 ^ g < 2 ^ (g + 53) := Nat.pow_lt_pow_right (by decide) (by omega)
  have h0 := Nat.two_pow_pos g
  have e : lowest g v = g := lowest_low (by omega)
  unfold rung
  rw [e]
  have : rne v g = 0 := by
    unfold rne
    rw [Nat.div_eq_of_lt (by omega), Nat.mod_eq_of_lt (by omega)]
    simp only [Nat.zero_mod]
    rw [if_neg (by omega)]
  rw [this]
  omega
/-- What is too great. -/
theorem rung_huge {g v : Nat} (h : 2 ^ (g + 2098) ≤ v) : rung g v = 9218868437227405312 := by
  have e : rung g (2 ^ (g + 2098)) = 9218868437227405312 := by
    have l : lowest g (2 ^ (g + 2098)) = g + 2046 := lowest_high (by omega) (Nat.le_refl _) (Nat.pow_lt_pow_right (by decide) (by omega))
    have r : rne (2 ^ (g + 2098)) (g + 2046) = 4503599627370496 := by
      rw [show 2 ^ (g + 2098) = 4503599627370496 * 2 ^ (g + 2046) from by rw [show g + 2098 = 52 + (g + 2046) by omega, Nat.pow_add], rne_exact]
    unfold rung
    rw [l, r]
    omega
  have h1 := rung_mono g h
  have h2 := rung_le g v
  omega
/-- Units that are finer by a power of two. -/
theorem rung_scale (g v s : Nat) : rung (g + s) (v * 2 ^ s) = rung g v := by
  obtain ⟨a1, a2, a3⟩ := lowest_spec g v
  have e : lowest (g + s) (v * 2 ^ s) = lowest g v + s := by
    have hs := Nat.two_pow_pos s
    have l2 : v * 2 ^ s < 2 ^ (lowest g v + s + 53) := by
      rw [show lowest g v + s + 53 = lowest g v + 53 + s by omega, Nat.pow_add]; exact Nat.mul_lt_mul_of_pos_right a2 hs
    rcases Nat.lt_or_ge g (lowest g v) with k | k
    · refine lowest_high (by omega) ?_ l2
      rw [show lowest g v + s + 52 = lowest g v + 52 + s by omega, Nat.pow_add]; exact Nat.mul_le_mul_right _ (a3 k)
    · have : lowest g v = g := by omega
      rw [this] at l2 ⊢
      exact lowest_low l2
  unfold rung
  rw [e, rne_scale, show lowest g v + s - (g + s) = lowest g v - g by omega]

/-! The length of a number in bits. -/
theorem bitLen_log : ∀ x : Nat, x ≠ 0 → x < 2 ^ 64 → Lib.bitLen x = x.log2 + 1 := by
  intro x
  induction x using Nat.strongRecOn with
  | _ x ih =>
    intro h0 h1
    rw [Lib.bitLen_half x h0 h1, Nat.log2_def]
    by_cases h : 2 ≤ x
    · rw [if_pos h, ih (x / 2) (by omega) (by omega) (by omega)]
      omega
    · have : x = 1 := by omega
      subst this
      decide
theorem bitLen_bounds {x : Nat} (h0 : x ≠ 0) (h1 : x < 18446744073709551616) : 1 ≤ Lib.bitLen x ∧ Lib.bitLen x ≤ 64 ∧ 2 ^ (Lib.bitLen x - 1) ≤ x ∧ x < 2 ^ Lib.bitLen x := by
  have e := bitLen_log x h0 (by omega)
  obtain ⟨b1, b2⟩ := log2_bounds h0
  have : x.log2 < 64 := (Nat.log2_lt h0).2 (by omega)
  rw [e]
  exact ⟨by omega, by omega, by simpa using b1, b2⟩

/-! What the code reckons. -/
def roundedN (f d : Nat) (more : Bool) : Nat := if 64 < d then 0 else f / 2 ^ d + (if 2 ^ (d - 1) < f % 2 ^ d ∨ (f % 2 ^ d = 2 ^ (d - 1) ∧ (more = true ∨ f / 2 ^ d % 2 = 1)) then 1 else 0)

theorem roundedN_false {f d : Nat} (hf : f < 2 ^ 64) (hd : 1 ≤ d) : roundedN f d false = rne f d := by
  unfold roundedN
  split
  · rename_i h
    refine (rne_small ?_).symm
    have : 2 ^ 65 ≤ 2 ^ d := Nat.pow_le_pow_right (by decide) h
    omega
  · obtain ⟨k, rfl⟩ := Nat.exists_eq_add_of_le hd
    unfold rne
    rw [show 1 + k - 1 = k by omega, Nat.add_comm 1 k]
    have e : 2 ^ (k + 1) = 2 * 2 ^ k := Nat.pow_succ'
    simp only [Bool.false_eq_true, false_or]
    have i1 : (2 ^ k < f % 2 ^ (k + 1)) ↔ 2 ^ (k + 1) < 2 * (f % 2 ^ (k + 1)) := by omega
    have i2 : (f % 2 ^ (k + 1) = 2 ^ k) ↔ 2 ^ (k + 1) = 2 * (f % 2 ^ (k + 1)) := by omega
    simp only [i1, i2]
theorem roundedN_true {f d : Nat} (hf : f < 2 ^ 64) (hd : 1 ≤ d) : roundedN f d true = rne (2 * f + 1) (d + 1) := by
  unfold roundedN
  split
  · rename_i h
    refine (rne_small ?_).symm
    have : 2 ^ 66 ≤ 2 ^ (d + 1) := Nat.pow_le_pow_right (by decide) (by omega)
    omega
  · obtain ⟨k, rfl⟩ := Nat.exists_eq_add_of_le hd
    unfold rne
    rw [show 1 + k - 1 = k by omega, Nat.add_comm 1 k]
    have e : 2 ^ (k + 1) = 2 * 2 ^ k := Nat.pow_succ'
    have e2 : 2 ^ (k + 1 + 1) = 2 * 2 ^ (k + 1) := Nat.pow_succ'
    have q : (2 * f + 1) / 2 ^ (k + 1 + 1) = f / 2 ^ (k + 1) := by
      rw [e2, ← Nat.div_div_eq_div_mul, show (2 * f + 1) / 2 = f by omega]
    have r : (2 * f + 1) % 2 ^ (k + 1 + 1) = 2 * (f % 2 ^ (k + 1)) + 1 := by
      have h1 := Nat.div_add_mod (2 * f + 1) (2 ^ (k + 1 + 1))
      have h2 := Nat.div_add_mod f (2 ^ (k + 1))
      rw [q, e2, Nat.mul_assoc] at h1
      rw [e2]
      omega
    rw [q, r]
    simp only [true_or, and_true]
    have i : (2 ^ k < f % 2 ^ (k + 1) ∨ f % 2 ^ (k + 1) = 2 ^ k) ↔ (2 ^ (k + 1 + 1) < 2 * (2 * (f % 2 ^ (k + 1)) + 1) ∨ (2 ^ (k + 1 + 1) = 2 * (2 * (f % 2 ^ (k + 1)) + 1) ∧ f / 2 ^ (k + 1) % 2 = 1)) := by
      have : 0 < 2 ^ k := Nat.two_pow_pos k
      generalize f / 2 ^ (k + 1) % 2 = z
      omega
    simp only [i]

end Go.Proofs.YtcblknghkgihcaaDoor.Flo
