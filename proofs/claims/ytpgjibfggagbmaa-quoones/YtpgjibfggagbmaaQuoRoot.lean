/-
  Plain mathematics: roots of words.
-/
import Derived.Test.YtpgjibfggagbmaaQuoDiv
namespace Go.Proofs.Ytpgjibfggagbmaa.Flo
open Go.Proofs.Ytpgjibfggagbmaa

def IsRoot (N x : Nat) : Prop := x * x ≤ N ∧ N < (x + 1) * (x + 1)

theorem sq_lt {x y : Nat} (h : x * x < y * y) : x < y := by
  rcases Nat.lt_or_ge x y with k | k
  · exact k
  · exact absurd (Nat.mul_le_mul k k) (by omega)
theorem sq_le {x y : Nat} (h : x * x ≤ y * y) : x ≤ y := by
  rcases Nat.lt_or_ge y x with k | k
  · have := Nat.mul_lt_mul_of_lt_of_le k (Nat.le_of_lt k) (by omega); omega
  · exact k
theorem IsRoot.unique {N x y : Nat} (h : IsRoot N x) (k : IsRoot N y) : x = y := by
  have h1 : x < y + 1 := sq_lt (Nat.lt_of_le_of_lt h.1 k.2)
  have h2 : y < x + 1 := sq_lt (Nat.lt_of_le_of_lt k.1 h.2)
  omega

theorem rootFrom_spec (N : Nat) : ∀ t x, x * x ≤ N → N < (x + 2 ^ t) * (x + 2 ^ t) → IsRoot N (Ieee.Datum.rootFrom N t x) := by
  intro t
  induction t with
  | zero => intro x h1 h2; exact ⟨h1, by rw [Nat.pow_zero] at h2; exact h2⟩
  | succ t ih =>
    intro x h1 h2
    show IsRoot N (Ieee.Datum.rootFrom N t (if (x + 1 <<< t) * (x + 1 <<< t) ≤ N then x + 1 <<< t else x))
    rw [Nat.one_shiftLeft]
    by_cases c : (x + 2 ^ t) * (x + 2 ^ t) ≤ N
    · rw [if_pos c]
      refine ih _ c ?_
      rw [Nat.add_assoc, show 2 ^ t + 2 ^ t = 2 ^ (t + 1) by rw [Nat.pow_succ]; omega]
      exact h2
    · rw [if_neg c]
      exact ih _ h1 (by omega)
def isq (N : Nat) : Nat := Ieee.Datum.rootFrom N (N.log2 / 2 + 1) 0
theorem isq_spec (N : Nat) : IsRoot N (isq N) := by
  refine rootFrom_spec N _ 0 (Nat.zero_le _) ?_
  rw [Nat.zero_add, ← Nat.pow_add]
  have : N < 2 ^ (N.log2 + 1) := Nat.lt_log2_self
  exact Nat.lt_of_lt_of_le this (Nat.pow_le_pow_right (by decide) (by omega))

/-- A root, twice, and one more where it is not the whole root. -/
def stickR (N x : Nat) : Nat := 2 * x + (if x * x = N then 0 else 1)

theorem root_more {N x y t g e : Nat} (hx : IsRoot N x) (hy : IsRoot (N * 2 ^ (2 * t)) y) (hq : 9007199254740992 ≤ x) :
    rung g (stickR N x * 2 ^ (e + t)) = rung g (stickR (N * 2 ^ (2 * t)) y * 2 ^ e) := by
  have ht := Nat.two_pow_pos t
  have e4 : 2 ^ (2 * t) = 2 ^ t * 2 ^ t := by rw [← Nat.pow_add]; congr 1; omega
  rw [e4] at hy ⊢
  unfold stickR
  obtain ⟨x1, x2⟩ := hx
  obtain ⟨y1, y2⟩ := hy
  obtain ⟨T, hT⟩ : ∃ T, T = 2 ^ t := ⟨_, rfl⟩
  rw [← hT] at ht y1 y2
  have hl1 : x * T ≤ y := by
    have h1 : x * T * (x * T) < (y + 1) * (y + 1) := by
      refine Nat.lt_of_le_of_lt ?_ y2
      rw [show x * T * (x * T) = x * x * (T * T) by grind]
      exact Nat.mul_le_mul_right _ x1
    have := sq_lt h1
    omega
  have hl2 : y < (x + 1) * T := by
    refine sq_lt (Nat.lt_of_le_of_lt y1 ?_)
    rw [show (x + 1) * T * ((x + 1) * T) = (x + 1) * (x + 1) * (T * T) by grind]
    exact Nat.mul_lt_mul_of_pos_right x2 (Nat.mul_pos ht ht)
  have hl3 : x * x = N ↔ (y * y = N * (T * T) ∧ y = x * T) := by
    constructor
    · intro h
      have h1 : y * y ≤ x * T * (x * T) := by
        rw [show x * T * (x * T) = x * x * (T * T) by grind, h]; exact y1
      have h2 := sq_le h1
      have h3 : y = x * T := by omega
      refine ⟨?_, h3⟩
      rw [h3, ← h]; grind
    · rintro ⟨h1, h2⟩
      rw [h2, show x * T * (x * T) = x * x * (T * T) by grind] at h1
      exact Nat.eq_of_mul_eq_mul_right (Nat.mul_pos ht ht) h1
  rw [hT] at hl1 hl2 hl3
  exact sticky_pair hq hl1 hl2 hl3

/-- With how many bits more a root is told. -/
def KR : Nat := 1200
theorem KR_eq : KR = 1200 := rfl
/-- The rung nearest to the root of V units. -/
def rootR (V : Nat) : Nat := rung 64 (stickR (V * 2 ^ KR) (isq (V * 2 ^ KR)))

theorem root_ge {N x k : Nat} (h : IsRoot N x) (hN : 2 ^ (2 * k) ≤ N) : 2 ^ k ≤ x := by
  have e : 2 ^ (2 * k) = 2 ^ k * 2 ^ k := by rw [← Nat.pow_add]; congr 1; omega
  rw [e] at hN
  have := sq_lt (Nat.lt_of_le_of_lt hN h.2)
  omega

/-- The rung of a root, told with any number of bits that is enough. -/
theorem root_at {m i c g E x : Nat} (hm : m ≠ 0) (hx : IsRoot (m * 2 ^ c) x) (hq : 9007199254740992 ≤ x) (hp : ((i : Int) - (c : Int)) % 2 = 0) (hE : (E : Int) = ((i : Int) - (c : Int)) / 2 - 1 + 537 + (g : Int)) :
    rung g (stickR (m * 2 ^ c) x * 2 ^ E) = rootR (m * 2 ^ i) := by
  have hK := KR_eq
  unfold rootR
  have e1 : m * 2 ^ i * 2 ^ KR = m * 2 ^ (i + KR) := by rw [Nat.mul_assoc, ← Nat.pow_add]
  rw [e1]
  have hy := isq_spec (m * 2 ^ (i + KR))
  have hyq : 9007199254740992 ≤ isq (m * 2 ^ (i + KR)) := by
    have h1 : 2 ^ (2 * 53) ≤ m * 2 ^ (i + KR) := by
      have h2 : 2 ^ (2 * 53) ≤ 2 ^ (i + KR) := Nat.pow_le_pow_right (by decide) (by omega)
      have h3 := Nat.le_mul_of_pos_left (2 ^ (i + KR)) (show 0 < m by omega)
      omega
    exact root_ge hy h1
  generalize isq (m * 2 ^ (i + KR)) = y at *
  rw [← rung_scale g (stickR (m * 2 ^ c) x * 2 ^ E) 64, ← rung_scale 64 (stickR (m * 2 ^ (i + KR)) y) g, Nat.mul_assoc, ← Nat.pow_add, Nat.add_comm 64 g]
  rcases Nat.lt_or_ge (i + KR) c with k | k
  · obtain ⟨t, ht⟩ : ∃ t, c = i + KR + 2 * t := ⟨(c - (i + KR)) / 2, by omega⟩
    have e2 : m * 2 ^ c = m * 2 ^ (i + KR) * 2 ^ (2 * t) := by rw [ht, Nat.mul_assoc, ← Nat.pow_add]
    rw [e2] at hx ⊢
    have h := root_more (g := g + 64) (e := E + 64) hy hx hyq
    rw [show E + 64 + t = g by omega] at h
    exact h.symm
  · obtain ⟨t, ht⟩ : ∃ t, i + KR = c + 2 * t := ⟨(i + KR - c) / 2, by omega⟩
    have e2 : m * 2 ^ (i + KR) = m * 2 ^ c * 2 ^ (2 * t) := by rw [ht, Nat.mul_assoc, ← Nat.pow_add]
    rw [e2] at hy ⊢
    have h := root_more (g := g + 64) (e := g) hx hy hq
    rw [show g + t = E + 64 by omega] at h
    exact h

def rootBad (a : Int) : Bool := nanB a || (belowB a && decide (mag a ≠ 0))
def rootZ (a : Int) : Int := if rootBad a then 9221120237041090560 else if infB a || decide (mag a = 0) then a else (rootR (MZ a) : Nat)

theorem root_number {m : Nat} {i : Int} (hi : 0 ≤ i + 1074) (hm : m < 9007199254740992) (h0 : m ≠ 0) :
    ∃ r : Nat, ((Ieee.Datum.number false m i).root 54).map Ieee.double.write = some r ∧ r = rootR (m * 2 ^ (i + 1074).toNat) := by
  simp only [Ieee.Datum.root, h0, if_false, Bool.false_eq_true, Option.map_some, Ieee.Format.write]
  refine ⟨_, rfl, ?_⟩
  have hm2 : m.log2 < 53 := (Nat.log2_lt h0).2 (by omega)
  have b1 := Nat.log2_self_le h0
  obtain ⟨c, hc⟩ : ∃ c : Nat, c = 2 * 54 - m.log2 + ((i - ((2 * 54 - m.log2 : Nat) : Int)) % 2).toNat := ⟨_, rfl⟩
  rw [← hc, Nat.shiftLeft_eq]
  have hx := isq_spec (m * 2 ^ c)
  have hst : 2 * Ieee.Datum.rootFrom (m * 2 ^ c) ((m * 2 ^ c).log2 / 2 + 1) 0 + (Ieee.Datum.rootFrom (m * 2 ^ c) ((m * 2 ^ c).log2 / 2 + 1) 0 * Ieee.Datum.rootFrom (m * 2 ^ c) ((m * 2 ^ c).log2 / 2 + 1) 0 != m * 2 ^ c).toNat = stickR (m * 2 ^ c) (isq (m * 2 ^ c)) := by
    show 2 * isq (m * 2 ^ c) + (isq (m * 2 ^ c) * isq (m * 2 ^ c) != m * 2 ^ c).toNat = _
    unfold stickR
    generalize isq (m * 2 ^ c) = x
    by_cases h : x * x = m * 2 ^ c
    · rw [if_pos h, h]; simp
    · rw [if_neg h]
      have : (x * x != m * 2 ^ c) = true := by simpa using h
      rw [this]; rfl
  rw [hst]
  have hq : 9007199254740992 ≤ isq (m * 2 ^ c) := by
    refine root_ge hx (k := 53) ?_
    have h1 : 2 ^ (m.log2 + c) ≤ m * 2 ^ c := scaled_ge b1
    exact Nat.le_trans (Nat.pow_le_pow_right (by decide) (by omega)) h1
  obtain ⟨g, hg⟩ : ∃ g : Nat, g = c := ⟨_, rfl⟩
  have hn := nearest_rung false (stickR (m * 2 ^ c) (isq (m * 2 ^ c))) ((i - (c : Int)) / 2 - 1) g (by omega)
  rw [root_at (E := ((i - (c : Int)) / 2 - 1 + 1074 + (g : Int)).toNat) (i := (i + 1074).toNat) h0 hx hq (by omega) (by omega)] at hn
  have e0 : sgn false = 0 := rfl
  rw [e0] at hn
  omega

theorem write_zero {a : Int} (ha : U64 a) (hz : mag a = 0) (i : Int) : ((Ieee.double.write (.number (belowB a) 0 i) : Nat) : Int) = a := by
  have e : Ieee.double.write (.number (belowB a) 0 i) = Ieee.double.nearest (belowB a) 0 i := rfl
  rw [e]
  unfold Ieee.Format.nearest
  rw [if_pos rfl, word_sgn]
  obtain ⟨a0, a1⟩ := ha
  unfold mag at hz
  unfold belowB sgn
  by_cases c : 9223372036854775808 ≤ a
  · rw [if_pos c] at hz; rw [decide_eq_true c, if_pos rfl]; omega
  · rw [if_neg c] at hz; rw [decide_eq_false c]; simp; omega
theorem root_some {a : Int} (ha : U64 a) (h : rootBad a = false) : Ieee.double.sqrt a.toNat = some (rootZ a).toNat := by
  have e52 : Ieee.double.fractionBits + 2 = 54 := by decide
  unfold rootZ
  rw [h]
  simp only [Bool.false_eq_true, if_false]
  unfold Ieee.Format.sqrt
  rw [e52]
  unfold rootBad at h
  have hr := mag_range ha
  rcases kindsZ a with ka | ka | ka
  · obtain ⟨m, i, hi, m1, em, ex⟩ := read_size ha ka
    rw [ex, fin_inf ka]
    by_cases hz : mag a = 0
    · have hm : m = 0 := by
        rw [(MZ_null ha).2 hz] at em
        rcases Nat.mul_eq_zero.1 em with k | k
        · exact k
        · have := Nat.two_pow_pos (i + 1074).toNat; omega
      have hw := write_zero ha hz i
      have hzz : decide (mag a = 0) = true := decide_eq_true hz
      rw [hm, hzz]
      simp only [Ieee.Datum.root, if_true, Option.map_some, Option.some.injEq, Bool.or_true]
      exact (Int.toNat_natCast _).symm.trans (congrArg Int.toNat hw)
    · have hb : belowB a = false := by
        rw [fin_nan ka, decide_eq_true hz] at h
        revert h; cases belowB a <;> simp
      have hm : m ≠ 0 := by
        intro k
        rw [k, Nat.zero_mul] at em
        exact hz ((MZ_null ha).1 em.symm)
      obtain ⟨r, h1, h2⟩ := root_number hi m1 hm
      have hzz : decide (mag a = 0) = false := decide_eq_false hz
      have q1 : Option.map Ieee.double.write ((Ieee.Datum.number (belowB a) m i).root 54) = some (rootR (MZ a)) := by rw [hb, h1, h2, em]
      have q2 : ∀ R : Nat, (if (false || decide (mag a = 0)) = true then a else (R : Int)) = (R : Int) := by intro R; rw [hzz]; exact if_neg (by decide)
      rw [q1, q2]
      exact congrArg some (Int.toNat_natCast _).symm
  · rw [read_infZ ha ka, inf_inf ka]
    have hb : belowB a = false := by
      rw [inf_nan ka, decide_eq_true (show mag a ≠ 0 by omega)] at h
      revert h; cases belowB a <;> simp
    have hw := write_inf (belowB a)
    rw [← inf_word ha ka] at hw
    rw [hb] at hw ⊢
    simp only [Ieee.Datum.root, Bool.false_eq_true, if_false, Option.map_some, Bool.true_or, if_true, Option.some.injEq]
    exact (Int.toNat_natCast _).symm.trans (congrArg Int.toNat hw)
  · rw [nan_nan ka] at h; simp at h

theorem root_none {a : Int} (ha : U64 a) (h : rootBad a = true) : Ieee.double.sqrt a.toNat = none := by
  unfold Ieee.Format.sqrt
  unfold rootBad at h
  rcases kindsZ a with ka | ka | ka
  · obtain ⟨m, i, hi, em, ex⟩ := read_fin ha ka
    rw [fin_nan ka] at h
    have hb : belowB a = true ∧ mag a ≠ 0 := by simpa using h
    have hm : m ≠ 0 := by
      intro k
      rw [k, Nat.zero_mul] at em
      exact hb.2 ((MZ_null ha).1 em.symm)
    rw [ex, hb.1]
    simp only [Ieee.Datum.root, hm, if_false, if_true, Option.map_none]
  · rw [inf_nan ka] at h
    have hb : belowB a = true ∧ mag a ≠ 0 := by simpa using h
    rw [read_infZ ha ka, hb.1]; rfl
  · obtain ⟨f, ex⟩ := read_nanZ ha ka
    rw [ex]; rfl

theorem isq_mono {N M' : Nat} (h : N ≤ M') : isq N ≤ isq M' := by
  have h1 := isq_spec N
  have h2 := isq_spec M'
  have := sq_lt (Nat.lt_of_le_of_lt (Nat.le_trans h1.1 h) h2.2)
  omega
theorem rootR_mono {V U : Nat} (h : V ≤ U) : rootR V ≤ rootR U := by
  unfold rootR
  refine rung_mono 64 ?_
  have hN := Nat.mul_le_mul_right (2 ^ KR) h
  have h1 := isq_spec (V * 2 ^ KR)
  have h3 := isq_mono hN
  unfold stickR
  generalize V * 2 ^ KR = N at *
  generalize U * 2 ^ KR = N' at *
  generalize isq N = x at *
  generalize isq N' = y at *
  rcases Nat.lt_or_ge x y with k | k
  · split <;> split <;> omega
  · have : x = y := by omega
    subst this
    have := h1.1
    split <;> split <;> omega

end Go.Proofs.Ytpgjibfggagbmaa.Flo
