/-
  Plain mathematics: quotients of words.
-/
import Derived.Test.YteihehpgegkcpaaQuoMath
namespace Go.Proofs.Yteihehpgegkcpaa.Flo
open Go.Proofs.Yteihehpgegkcpaa

/-- With how many bits more a quotient is told. -/
def KQ : Nat := 2200
theorem KQ_eq : KQ = 2200 := rfl
def GQ : Nat := 1127
theorem GQ_eq : GQ = 1127 := rfl
/-- The rung nearest to A by B. -/
def quoR (A B : Nat) : Nat := rung GQ (stick A B KQ)

theorem stick_zero (B k : Nat) : stick 0 B k = 0 := by unfold stick; simp
theorem quoR_zero (B : Nat) : quoR 0 B = 0 := by unfold quoR; rw [stick_zero]; exact rung_tiny (Nat.zero_le _)

/-- The rung of a quotient, told with any number of bits that is enough. -/
theorem quo_at {m n i j k g E : Nat} (hm : m ≠ 0) (hn : 0 < n) (hB : n * 2 ^ j < 2 ^ TP) (hq : 9007199254740992 ≤ m * 2 ^ k / n) (hE : (E : Int) = (i : Int) - (j : Int) - ((k : Int) + 1) + 1074 + (g : Int)) :
    rung g (stick m n k * 2 ^ E) = quoR (m * 2 ^ i) (n * 2 ^ j) := by
  have hT := TP_eq
  have hK := KQ_eq
  have hj : j < 2098 := by
    rcases Nat.lt_or_ge j TP with q | q
    · omega
    · exfalso
      have h1 : 2 ^ TP ≤ 2 ^ j := Nat.pow_le_pow_right (by decide) q
      have h2 := Nat.le_mul_of_pos_left (2 ^ j) hn
      omega
  obtain ⟨K2, hK2⟩ : ∃ K2, K2 = i + KQ - j := ⟨_, rfl⟩
  have e1 : stick (m * 2 ^ i) (n * 2 ^ j) KQ = stick m n K2 := by
    have h1 := stick_up (m * 2 ^ i) (n * 2 ^ j) 0 KQ
    rw [Nat.zero_add] at h1
    have h2 := stick_scale (m * 2 ^ K2) n 0 j
    have h3 : m * 2 ^ i * 2 ^ KQ = m * 2 ^ K2 * 2 ^ j := by
      rw [Nat.mul_assoc, ← Nat.pow_add, Nat.mul_assoc, ← Nat.pow_add, show i + KQ = K2 + j by omega]
    have h4 := stick_up m n 0 K2
    rw [Nat.zero_add] at h4
    rw [← h1, h3, h2, h4]
  have e2 : 9007199254740992 ≤ m * 2 ^ K2 / n := by
    rw [Nat.le_div_iff_mul_le hn]
    have hp := Nat.two_pow_pos j
    refine Nat.le_of_mul_le_mul_right (c := 2 ^ j) ?_ hp
    have a1 : 9007199254740992 * n * 2 ^ j ≤ 9007199254740992 * 2 ^ TP := by rw [Nat.mul_assoc]; exact Nat.mul_le_mul_left _ (by omega)
    have a2 : 9007199254740992 * 2 ^ TP = 2 ^ (53 + TP) := by rw [Nat.pow_add]
    have a3 : 2 ^ (53 + TP) ≤ 2 ^ (i + KQ) := Nat.pow_le_pow_right (by decide) (by omega)
    have a4 : m * 2 ^ K2 * 2 ^ j = m * 2 ^ (i + KQ) := by rw [Nat.mul_assoc, ← Nat.pow_add, show K2 + j = i + KQ by omega]
    rw [a4]
    have a5 := Nat.le_mul_of_pos_left (2 ^ (i + KQ)) (show 0 < m by omega)
    exact Nat.le_trans a1 (Nat.le_trans (Nat.le_of_eq a2) (Nat.le_trans a3 a5))
  have hG := GQ_eq
  unfold quoR
  rw [e1, ← rung_scale g (stick m n k * 2 ^ E) GQ, ← rung_scale GQ (stick m n K2) g, Nat.mul_assoc, ← Nat.pow_add, Nat.add_comm GQ g]
  rcases Nat.lt_or_ge K2 k with c | c
  · have h := stick_more (g := g + GQ) (x := E + GQ) (t := k - K2) hn e2
    rw [show K2 + (k - K2) = k by omega, show E + GQ + (k - K2) = g by omega] at h
    exact h.symm
  · have h := stick_more (g := g + GQ) (x := g) (t := K2 - k) hn hq
    rw [show k + (K2 - k) = K2 by omega, show g + (K2 - k) = E + GQ by omega] at h
    exact h

def divBad (a b : Int) : Bool := nanB a || (nanB b || ((infB a && infB b) || (decide (mag a = 0) && decide (mag b = 0))))
def divZ (a b : Int) : Int := if divBad a b then 9221120237041090560 else if infB a || decide (mag b = 0) then sgn (belowB a ^^ belowB b) + 9218868437227405312 else if infB b then sgn (belowB a ^^ belowB b) else sgn (belowB a ^^ belowB b) + (quoR (MZ a) (MZ b) : Nat)

theorem M_null {r : Nat} : M r = 0 ↔ r = 0 := by
  have := @M_inj r 0
  rw [M_zero] at this
  exact this
theorem MZ_null {a : Int} (h : U64 a) : MZ a = 0 ↔ mag a = 0 := by
  have := (mag_range h).1
  unfold MZ
  rw [M_null]
  omega
/-- The size of what a finite word is read as. -/
theorem read_size {a : Int} (h : U64 a) (hm : mag a < 9218868437227405312) : ∃ m p, 0 ≤ p + 1074 ∧ m < 9007199254740992 ∧ m * 2 ^ (p + 1074).toNat = MZ a ∧ Ieee.double.read a.toNat = .number (belowB a) m p := by
  obtain ⟨w1, w2⟩ := words h
  have hr := mag_range h
  have e1 : Ieee.double.signWeight = 9223372036854775808 := by decide
  have e2 : Ieee.double.binade = 4503599627370496 := by decide
  have e3 : Ieee.double.infRung = 9218868437227405312 := by decide
  have e4 : Ieee.double.leastPlace = -1074 := by decide
  unfold Ieee.Format.read MZ
  rw [e1, w1, w2]
  simp only [e2, e3, e4]
  generalize hx : (mag a).toNat = r at *
  unfold M
  by_cases h1 : r < 4503599627370496
  · simp only [h1, if_true]
    exact ⟨r, -1074, by omega, by omega, by simp, rfl⟩
  · simp only [h1, show r < 9218868437227405312 by omega, if_true, if_false]
    refine ⟨_, _, ?_, ?_, ?_, rfl⟩
    · omega
    · omega
    · congr 2; omega

theorem quotient_number {s t : Bool} {m n : Nat} {i j : Int} (hi : 0 ≤ i + 1074) (hj : 0 ≤ j + 1074) (hm : m < 9007199254740992) (hn : n ≠ 0) (hB : n * 2 ^ (j + 1074).toNat < 2 ^ TP) :
    ∃ r : Nat, ((Ieee.Datum.number s m i).quotient 54 (.number t n j)).map Ieee.double.write = some r ∧ (r : Int) = sgn (s ^^ t) + (quoR (m * 2 ^ (i + 1074).toNat) (n * 2 ^ (j + 1074).toNat) : Nat) := by
  simp only [Ieee.Datum.quotient, hn, if_false, Option.map_some, Ieee.Format.write]
  refine ⟨_, rfl, ?_⟩
  obtain ⟨k, hk⟩ : ∃ k, k = 54 + n.log2 - m.log2 := ⟨_, rfl⟩
  rw [← hk]
  have hst : 2 * (m <<< k / n) + (m <<< k % n != 0).toNat = stick m n k := by
    unfold stick
    rw [Nat.shiftLeft_eq]
    by_cases h : m * 2 ^ k % n = 0
    · rw [if_pos h, h]; rfl
    · rw [if_neg h]
      have : (m * 2 ^ k % n != 0) = true := by simpa using h
      rw [this]; rfl
  rw [hst]
  by_cases h0 : m = 0
  · subst h0
    rw [stick_zero, Nat.zero_mul, quoR_zero]
    unfold Ieee.Format.nearest
    rw [if_pos rfl, word_sgn]
  · have hm2 : m.log2 < 53 := (Nat.log2_lt h0).2 (by omega)
    have b1 := Nat.log2_self_le h0
    have b2 : n < 2 ^ (n.log2 + 1) := Nat.lt_log2_self
    have hq : 9007199254740992 ≤ m * 2 ^ k / n := by
      rw [Nat.le_div_iff_mul_le (by omega)]
      have h1 : 2 ^ (m.log2 + k) ≤ m * 2 ^ k := scaled_ge b1
      have h2 : 2 ^ (m.log2 + k) = 9007199254740992 * 2 ^ (n.log2 + 1) := by
        rw [show m.log2 + k = 53 + (n.log2 + 1) by omega, Nat.pow_add]
      have h3 := Nat.mul_le_mul_left 9007199254740992 (show n ≤ 2 ^ (n.log2 + 1) by omega)
      omega
    obtain ⟨g, hg⟩ : ∃ g : Nat, g = (1075 + (k : Int) + (j + 1074)).toNat := ⟨_, rfl⟩
    have hE : 0 ≤ i - j - (k : Int) - 1 + 1074 + (g : Int) := by omega
    rw [nearest_rung _ _ _ g hE]
    rw [quo_at (E := (i - j - (k : Int) - 1 + 1074 + (g : Int)).toNat) (i := (i + 1074).toNat) (j := (j + 1074).toNat) h0 (by omega) hB hq (by omega)]

theorem MZ_lt {a : Int} (h : U64 a) (hm : mag a < 9218868437227405312) : MZ a < 2 ^ TP := by
  have := (mag_range h).1
  exact M_lt (by omega)

theorem div_some {a b : Int} (ha : U64 a) (hb : U64 b) (h : divBad a b = false) : floatBits .quo .f64 a.toNat b.toNat = some (divZ a b).toNat := by
  show Ieee.double.div a.toNat b.toNat = _
  have e52 : Ieee.double.fractionBits + 2 = 54 := by decide
  unfold divZ
  rw [h]
  simp only [Bool.false_eq_true, if_false]
  unfold Ieee.Format.div
  rw [e52]
  unfold divBad at h
  rcases kindsZ a with ka | ka | ka
  · obtain ⟨m, i, hi, m1, em, ex⟩ := read_size ha ka
    rcases kindsZ b with kb | kb | kb
    · obtain ⟨n, j, hj, n1, en, ey⟩ := read_size hb kb
      rw [ex, ey, fin_inf ka, fin_inf kb]
      by_cases hz : mag b = 0
      · have hn : n = 0 := by
          have : MZ b = 0 := (MZ_null hb).2 hz
          rw [this] at en
          rcases Nat.mul_eq_zero.1 en with k | k
          · exact k
          · have := Nat.two_pow_pos (j + 1074).toNat; omega
        have hm : m ≠ 0 := by
          intro k
          rw [k, Nat.zero_mul] at em
          have := (MZ_null ha).1 em.symm
          rw [this, hz] at h
          simp at h
        have hw := write_inf (belowB a ^^ belowB b)
        simp only [Ieee.Datum.quotient, hn, hm, if_true, if_false, Option.map_some, Option.some.injEq, hz, decide_true, Bool.or_true]
        omega
      · have hn : n ≠ 0 := by
          intro k
          rw [k, Nat.zero_mul] at en
          exact hz ((MZ_null hb).1 en.symm)
        obtain ⟨r, h1, h2⟩ := quotient_number (s := belowB a) (t := belowB b) hi hj m1 hn (by rw [en]; exact MZ_lt hb kb)
        rw [h1]
        rw [em, en] at h2
        have hzz : decide (mag b = 0) = false := decide_eq_false hz
        rw [hzz]
        simp only [Bool.or_false, Bool.false_eq_true, if_false]
        rw [← h2, Int.toNat_natCast]
    · rw [ex, read_infZ hb kb, fin_inf ka, inf_inf kb]
      have hzz : decide (mag b = 0) = false := decide_eq_false (by omega)
      have hw : ((Ieee.double.write (.number (belowB a ^^ belowB b) 0 0) : Nat) : Int) = sgn (belowB a ^^ belowB b) := by
        show ((Ieee.double.nearest (belowB a ^^ belowB b) 0 0 : Nat) : Int) = _
        unfold Ieee.Format.nearest
        rw [if_pos rfl, word_sgn]
        omega
      rw [hzz]
      simp only [Bool.or_false, Bool.false_eq_true, if_false, if_true, Ieee.Datum.quotient, Option.map_some, Option.some.injEq]
      omega
    · rw [nan_nan kb] at h; simp at h
  · rw [read_infZ ha ka, inf_inf ka]
    have hw := write_inf (belowB a ^^ belowB b)
    rcases kindsZ b with kb | kb | kb
    · obtain ⟨n, j, hj, n1, en, ey⟩ := read_size hb kb
      rw [ey]
      simp only [Bool.true_or, if_true, Ieee.Datum.quotient, Option.map_some, Option.some.injEq]
      omega
    · rw [inf_inf ka, inf_inf kb] at h; simp at h
    · rw [nan_nan kb] at h; simp at h
  · rw [nan_nan ka] at h; simp at h

theorem div_none {a b : Int} (ha : U64 a) (hb : U64 b) (h : divBad a b = true) : floatBits .quo .f64 a.toNat b.toNat = none := by
  show Ieee.double.div a.toNat b.toNat = _
  unfold Ieee.Format.div
  unfold divBad at h
  rcases kindsZ a with ka | ka | ka
  · obtain ⟨m, i, hi, em, ex⟩ := read_fin ha ka
    rcases kindsZ b with kb | kb | kb
    · obtain ⟨n, j, hj, en, ey⟩ := read_fin hb kb
      rw [fin_nan ka, fin_nan kb, fin_inf ka, fin_inf kb] at h
      have hz : mag a = 0 ∧ mag b = 0 := by simpa using h
      have hm : m = 0 := by
        rw [(MZ_null ha).2 hz.1] at em
        rcases Nat.mul_eq_zero.1 em with k | k
        · exact k
        · have := Nat.two_pow_pos (i + 1074).toNat; omega
      have hn : n = 0 := by
        rw [(MZ_null hb).2 hz.2] at en
        rcases Nat.mul_eq_zero.1 en with k | k
        · exact k
        · have := Nat.two_pow_pos (j + 1074).toNat; omega
      rw [ex, ey]
      simp only [Ieee.Datum.quotient, hm, hn, if_true, Option.map_none]
    · rw [fin_nan ka, inf_nan kb, fin_inf ka, inf_inf kb, kb] at h; simp at h
    · obtain ⟨f, ey⟩ := read_nanZ hb kb
      rw [ex, ey]; rfl
  · rw [read_infZ ha ka]
    rcases kindsZ b with kb | kb | kb
    · rw [inf_nan ka, fin_nan kb, inf_inf ka, fin_inf kb, ka] at h; simp at h
    · rw [read_infZ hb kb]; rfl
    · obtain ⟨f, ey⟩ := read_nanZ hb kb
      rw [ey]; rfl
  · obtain ⟨f, ex⟩ := read_nanZ ha ka
    rw [ex]; rfl

end Go.Proofs.Yteihehpgegkcpaa.Flo
