/-
  Plain mathematics: the rung of a whole number times a power of two.
-/
import Derived.Test.YtcblknghkgihcaaDoorFloRound
namespace Go.Proofs.YtcblknghkgihcaaDoor.Flo
set_option maxRecDepth 100000

/-- How many places below the least number's place the units lie. -/
def G : Nat := 300
theorem G_eq : G = 300 := rfl

theorem scaled_lt {n L E : Nat} (h : n < 2 ^ L) : n * 2 ^ E < 2 ^ (L + E) := by
  rw [Nat.pow_add]; exact Nat.mul_lt_mul_of_pos_right h (Nat.two_pow_pos E)
theorem scaled_ge {n L E : Nat} (h : 2 ^ L ≤ n) : 2 ^ (L + E) ≤ n * 2 ^ E := by
  rw [Nat.pow_add]; exact Nat.mul_le_mul_right _ h

theorem rne_up {n E d : Nat} (h : d ≤ E) : rne (n * 2 ^ E) d = n * 2 ^ (E - d) := by
  have e : n * 2 ^ E = n * 2 ^ (E - d) * 2 ^ d := by rw [Nat.mul_assoc, ← Nat.pow_add, show E - d + d = E by omega]
  rw [e, rne_exact]
theorem rne_down {n E d : Nat} (h : E ≤ d) : rne (n * 2 ^ E) d = rne n (d - E) := by
  have e := rne_scale n (d - E) E
  rw [show d - E + E = d by omega] at e
  exact e

theorem low_a {g n L E : Nat} (h : n < 2 ^ L) (hc : L + E ≤ g + 53) : lowest g (n * 2 ^ E) = g :=
  lowest_low (Nat.lt_of_lt_of_le (scaled_lt h) (Nat.pow_le_pow_right (by decide) hc))
theorem low_b {g n L E : Nat} (h0 : 2 ^ L ≤ n) (h : n < 2 ^ (L + 1)) (hc : g + 53 ≤ L + 1 + E) : lowest g (n * 2 ^ E) = L + 1 + E - 53 := by
  rcases Nat.lt_or_ge (g + 53) (L + 1 + E) with k | k
  · refine lowest_high (by omega) ?_ ?_
    · rw [show L + 1 + E - 53 + 52 = L + E by omega]; exact scaled_ge h0
    · rw [show L + 1 + E - 53 + 53 = L + 1 + E by omega]; exact scaled_lt h
  · rw [low_a h (by omega)]; omega

/-- The four ways, in the code's own words. -/
theorem rung_a0 {g n L E : Nat} (h0 : 2 ^ L ≤ n) (h : n < 2 ^ (L + 1)) (hc : g + 53 ≤ L + 1 + E) (hl : L + 1 ≤ 53) :
    rung g (n * 2 ^ E) = min ((L + 1 + E - 53 - g) * 4503599627370496 + n * 2 ^ (53 - (L + 1))) 9218868437227405312 := by
  unfold rung
  rw [low_b h0 h hc, rne_up (by omega), show E - (L + 1 + E - 53) = 53 - (L + 1) by omega]
theorem rung_a1 {g n L E : Nat} (h0 : 2 ^ L ≤ n) (h : n < 2 ^ (L + 1)) (hc : g + 53 ≤ L + 1 + E) (hl : 53 ≤ L + 1) :
    rung g (n * 2 ^ E) = min ((L + 1 + E - 53 - g) * 4503599627370496 + rne n (L + 1 - 53)) 9218868437227405312 := by
  unfold rung
  rw [low_b h0 h hc, rne_down (by omega), show L + 1 + E - 53 - E = L + 1 - 53 by omega]
theorem rung_b0 {g n L E : Nat} (h : n < 2 ^ L) (hc : L + E ≤ g + 53) (hl : g ≤ E) :
    rung g (n * 2 ^ E) = min (n * 2 ^ (E - g)) 9218868437227405312 := by
  unfold rung
  rw [low_a h hc, rne_up hl, Nat.sub_self, Nat.zero_mul, Nat.zero_add]
theorem rung_b1 {g n L E : Nat} (h : n < 2 ^ L) (hc : L + E ≤ g + 53) (hl : E ≤ g) :
    rung g (n * 2 ^ E) = min (rne n (g - E)) 9218868437227405312 := by
  unfold rung
  rw [low_a h hc, rne_down hl, Nat.sub_self, Nat.zero_mul, Nat.zero_add]

theorem kept_a0 {n L : Nat} (h : n < 2 ^ (L + 1)) (hl : L + 1 ≤ 53) : n * 2 ^ (53 - (L + 1)) < 9007199254740992 := by
  have := scaled_lt (E := 53 - (L + 1)) h
  rw [show L + 1 + (53 - (L + 1)) = 53 by omega] at this
  omega
theorem kept_b0 {g n L E : Nat} (h : n < 2 ^ L) (hc : L + E ≤ g + 53) (hl : g ≤ E) : n * 2 ^ (E - g) < 9007199254740992 := by
  have := scaled_lt (E := E - g) h
  have k : 2 ^ (L + (E - g)) ≤ 2 ^ 53 := Nat.pow_le_pow_right (by decide) (by omega)
  omega
theorem kept_1 {n L d : Nat} (h : n < 2 ^ L) (hc : L ≤ d + 53) : rne n d ≤ 9007199254740992 :=
  rne_le (Nat.lt_of_lt_of_le h (Nat.pow_le_pow_right (by decide) hc))

end Go.Proofs.YtcblknghkgihcaaDoor.Flo
