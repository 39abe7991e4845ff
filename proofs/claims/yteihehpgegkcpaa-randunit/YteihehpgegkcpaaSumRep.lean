/-
  Plain mathematics: which whole numbers of units are numbers, and what rounding gives of them.
-/
import Derived.Test.YteihehpgegkcpaaSumMath
namespace Go.Proofs.Yteihehpgegkcpaa.Flo
open Go.Proofs.Yteihehpgegkcpaa

/-- Where the greatest numbers end, as a power of two of units. -/
def TP : Nat := 2098
theorem TP_eq : TP = 2098 := rfl
def pl (r : Nat) : Nat := r / 4503599627370496 - 1
def pq (r : Nat) : Nat := if r < 4503599627370496 then r else 4503599627370496 + r % 4503599627370496

theorem M_parts (r : Nat) : M r = pq r * 2 ^ pl r ∧ pq r < 9007199254740992 ∧ (1 ≤ pl r → 4503599627370496 ≤ pq r) := by
  unfold M pq pl
  by_cases h : r < 4503599627370496
  · rw [if_pos h, if_pos h, Nat.div_eq_of_lt h]
    refine ⟨by simp, by omega, by omega⟩
  · rw [if_neg h, if_neg h]
    exact ⟨rfl, by omega, by omega⟩
theorem pl_mono {r s : Nat} (h : r ≤ s) : pl r ≤ pl s := by
  have := Nat.div_le_div_right (c := 4503599627370496) h
  unfold pl
  omega
theorem M_at {q l : Nat} (h : q < 9007199254740992) (h0 : l = 0 ∨ 4503599627370496 ≤ q) : M (l * 4503599627370496 + q) = q * 2 ^ l := by
  unfold M
  by_cases c : q < 4503599627370496
  · have : l = 0 := by omega
    subst this
    rw [if_pos (by omega)]; simp
  · rw [if_neg (by omega)]
    have e1 : (l * 4503599627370496 + q) % 4503599627370496 = q - 4503599627370496 := by omega
    have e2 : (l * 4503599627370496 + q) / 4503599627370496 = l + 1 := by omega
    rw [e1, e2, show l + 1 - 1 = l by omega, show 4503599627370496 + (q - 4503599627370496) = q by omega]
theorem M_lt {r : Nat} (h : r < 9218868437227405312) : M r < 2 ^ TP := by
  have ht := TP_eq
  obtain ⟨e, h1, _⟩ := M_parts r
  rw [e]
  have hl : pl r ≤ 2045 := by unfold pl; omega
  exact Nat.lt_of_lt_of_le (scaled_lt (L := 53) (by omega)) (Nat.pow_le_pow_right (by decide) (by omega))
theorem rung_M {r : Nat} (h : r ≤ 9218868437227405312) : rung 0 (M r) = r := by
  obtain ⟨e, h1, h2⟩ := M_parts r
  rw [e]
  by_cases c : r < 4503599627370496
  · have e1 : pl r = 0 := by unfold pl; rw [Nat.div_eq_of_lt c]
    have e2 : pq r = r := by unfold pq; rw [if_pos c]
    rw [e1, e2, rung_b0 (L := 52) (by omega) (by omega) (by omega)]
    simp
    omega
  · have e2 : pq r = 4503599627370496 + r % 4503599627370496 := by unfold pq; rw [if_neg c]
    rw [rung_a0 (L := 52) (by omega) (by omega) (by omega) (by omega), e2]
    unfold pl
    simp only [Nat.sub_self, Nat.pow_zero, Nat.mul_one]
    omega

/-- A whole number of units that is a number. -/
def Rep (v : Nat) : Prop := ∃ r, r < 9218868437227405312 ∧ M r = v
theorem Rep.rung {v : Nat} (h : Rep v) : rung 0 v < 9218868437227405312 ∧ M (rung 0 v) = v := by
  obtain ⟨r, h1, rfl⟩ := h
  rw [rung_M (by omega)]
  exact ⟨h1, rfl⟩
theorem rep_zero : Rep 0 := ⟨0, by decide, M_zero⟩
theorem rep_lt {n k : Nat} (h : n < 9007199254740992) (hv : n * 2 ^ k < 2 ^ TP) : Rep (n * 2 ^ k) := by
  have ht := TP_eq
  by_cases h0 : n = 0
  · subst h0; rw [Nat.zero_mul]; exact rep_zero
  · have b1 := Nat.log2_self_le h0
    have b2 : n < 2 ^ (n.log2 + 1) := Nat.lt_log2_self
    have b3 : n.log2 < 53 := (Nat.log2_lt h0).2 (by omega)
    generalize n.log2 = L at *
    by_cases c : L + k < 52
    · have b4 : n * 2 ^ k < 2 ^ (L + 1 + k) := scaled_lt b2
      have b5 : 2 ^ (L + 1 + k) ≤ 2 ^ 52 := Nat.pow_le_pow_right (by decide) (by omega)
      refine ⟨n * 2 ^ k, by omega, ?_⟩
      unfold M
      rw [if_pos (by omega)]
    · obtain ⟨s, hs⟩ : ∃ s, s = L + k - 52 := ⟨_, rfl⟩
      have e : n * 2 ^ k = n * 2 ^ (52 - L) * 2 ^ s := by rw [Nat.mul_assoc, ← Nat.pow_add, show 52 - L + s = k by omega]
      have q1 : n * 2 ^ (52 - L) < 2 ^ (L + 1 + (52 - L)) := scaled_lt b2
      have q2 : 2 ^ (L + (52 - L)) ≤ n * 2 ^ (52 - L) := scaled_ge b1
      rw [show L + 1 + (52 - L) = 53 by omega] at q1
      rw [show L + (52 - L) = 52 by omega] at q2
      rw [e] at hv ⊢
      generalize n * 2 ^ (52 - L) = q at *
      have s1 : s ≤ 2045 := by
        rcases Nat.lt_or_ge s 2046 with k1 | k1
        · omega
        · exfalso
          have h1 : 2 ^ (52 + s) ≤ q * 2 ^ s := scaled_ge q2
          have h2 : 2 ^ TP ≤ 2 ^ (52 + s) := Nat.pow_le_pow_right (by decide) (by omega)
          omega
      exact ⟨s * 4503599627370496 + q, by omega, M_at (by omega) (Or.inr (by omega))⟩
theorem rep_of {n k : Nat} (h : n ≤ 9007199254740992) (hv : n * 2 ^ k < 2 ^ TP) : Rep (n * 2 ^ k) := by
  rcases Nat.lt_or_ge n 9007199254740992 with c | c
  · exact rep_lt c hv
  · have e : n = 9007199254740992 := by omega
    subst e
    have e2 : 9007199254740992 * 2 ^ k = 4503599627370496 * 2 ^ (k + 1) := by rw [Nat.pow_succ]; omega
    rw [e2] at hv ⊢
    exact rep_lt (by omega) hv

/-- What a number that is rounded stands for. -/
theorem M_rung {v : Nat} (h : rung 0 v < 9218868437227405312) : M (rung 0 v) = rne v (lowest 0 v) * 2 ^ lowest 0 v := by
  obtain ⟨a1, a2, a3⟩ := lowest_spec 0 v
  have e : rung 0 v = lowest 0 v * 4503599627370496 + rne v (lowest 0 v) := by
    unfold rung at h ⊢
    rw [Nat.sub_zero] at h ⊢
    omega
  rw [e]
  have r1 := rne_le a2
  generalize lowest 0 v = d at *
  by_cases c : rne v d = 9007199254740992
  · rw [c, show d * 4503599627370496 + 9007199254740992 = (d + 1) * 4503599627370496 + 4503599627370496 by omega, M_at (by omega) (Or.inr (by omega)), Nat.pow_succ]
    omega
  · refine M_at (by omega) ?_
    rcases Nat.eq_zero_or_pos d with k | k
    · exact Or.inl k
    · exact Or.inr (rne_ge (a3 k))

theorem rne_near (v d : Nat) : ∃ e : Int, (v : Int) = (rne v d : Int) * ((2 ^ d : Nat) : Int) + e ∧ 2 * e ≤ ((2 ^ d : Nat) : Int) ∧ -((2 ^ d : Nat) : Int) ≤ 2 * e := by
  have hp : 0 < 2 ^ d := Nat.two_pow_pos d
  have hv := Nat.div_add_mod v (2 ^ d)
  have hm := Nat.mod_lt v hp
  unfold rne
  generalize 2 ^ d = P at *
  generalize v / P = q at *
  generalize v % P = r at *
  have hq : (v : Int) = (q : Int) * (P : Int) + (r : Int) := by
    rw [← hv]; push_cast; rw [Int.mul_comm]
  split
  · refine ⟨(r : Int) - (P : Int), ?_, by omega, by omega⟩
    rw [hq]
    push_cast
    rw [Int.add_mul]
    omega
  · refine ⟨(r : Int), ?_, by omega, by omega⟩
    rw [hq]
    push_cast
    rw [Int.add_mul]
    omega
/-- Of the multiples of 2 to the d none is nearer. -/
theorem near_least {v e q c P : Int} (hP : 0 < P) (hv : v = q * P + e) (h1 : 2 * e ≤ P) (h2 : -P ≤ 2 * e) : e.natAbs ≤ (v - c * P).natAbs := by
  rcases Int.lt_trichotomy q c with h | h | h
  · obtain ⟨t, ht⟩ : ∃ t : Nat, c = q + 1 + (t : Int) := ⟨(c - q - 1).toNat, by omega⟩
    have hx : 0 ≤ (t : Int) * P := Int.mul_nonneg (by omega) (by omega)
    have e1 : v - c * P = e - P - (t : Int) * P := by rw [hv, ht, Int.add_mul, Int.add_mul]; omega
    rw [e1]
    omega
  · have e1 : v - c * P = e := by rw [hv, h]; omega
    rw [e1]; exact Nat.le_refl _
  · obtain ⟨t, ht⟩ : ∃ t : Nat, q = c + 1 + (t : Int) := ⟨(q - c - 1).toNat, by omega⟩
    have hx : 0 ≤ (t : Int) * P := Int.mul_nonneg (by omega) (by omega)
    have e1 : v - c * P = e + P + (t : Int) * P := by rw [hv, ht, Int.add_mul, Int.add_mul]; omega
    rw [e1]
    omega

end Go.Proofs.Yteihehpgegkcpaa.Flo
