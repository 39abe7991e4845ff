/-
  Plain mathematics: the nearest word of IEEE 754 is the nearest rung; sums and products of words.
-/
import Derived.Test.YteihehpgegkcpaaDigMake
import Derived.Laws.FloatArith
namespace Go.Proofs.Yteihehpgegkcpaa.Flo
open Go.Proofs.Yteihehpgegkcpaa

theorem even_cut (neg : Bool) (n d : Nat) : Ieee.Toward.even.cut neg n d = rne n d := by
  unfold Ieee.Toward.cut
  simp only [Nat.one_shiftLeft]
  have key : ∀ G : Nat, (decide (G < 2 * (n % G)) || (G == 2 * (n % G) && n / G % 2 == 1)).toNat = if G < 2 * (n % G) ∨ (G = 2 * (n % G) ∧ n / G % 2 = 1) then 1 else 0 := by
    intro G
    by_cases c1 : G < 2 * (n % G)
    · simp [c1]
    · by_cases c2 : G = 2 * (n % G)
      · by_cases c3 : n / G % 2 = 1
        · rw [if_pos (Or.inr ⟨c2, c3⟩)]
          have : (G == 2 * (n % G)) = true := beq_iff_eq.2 c2
          rw [this]
          simp [c3]
        · rw [if_neg (by omega)]
          have : (n / G % 2 == 1) = false := beq_eq_false_iff_ne.2 c3
          rw [this]
          simp only [Bool.and_false, Bool.or_false]
          simp [c1]
      · rw [if_neg (by omega)]
        have : (G == 2 * (n % G)) = false := beq_eq_false_iff_ne.2 c2
        rw [this]
        simp [c1]
  rcases Nat.lt_or_ge (n.log2 + 2) d with h | h
  · rw [Nat.min_eq_right (by omega), key]
    have hn : n < 2 ^ (n.log2 + 1) := Nat.lt_log2_self
    have e : 2 ^ (n.log2 + 2) = 2 * 2 ^ (n.log2 + 1) := Nat.pow_succ'
    have e2 : 2 ^ (n.log2 + 2) < 2 ^ d := Nat.pow_lt_pow_right (by decide) h
    rw [rne_small (by omega), Nat.div_eq_of_lt (by omega), Nat.mod_eq_of_lt (by omega), if_neg (by omega)]
  · rw [Nat.min_eq_left h, key]
    rfl

theorem rne_zero (v : Nat) : rne v 0 = v := by
  have := rne_exact v 0
  simpa using this

theorem word_sgn (neg : Bool) (r : Nat) : ((Ieee.double.word neg r : Nat) : Int) = sgn neg + (r : Int) := by
  have e1 : Ieee.double.signWeight = 9223372036854775808 := by decide
  unfold Ieee.Format.word sgn
  rw [e1]
  cases neg <;> simp

theorem nearest_rung (neg : Bool) (m : Nat) (p : Int) (g : Nat) (hg : 0 ≤ p + 1074 + g) :
    ((Ieee.double.nearest neg m p : Nat) : Int) = sgn neg + (rung g (m * 2 ^ (p + 1074 + g).toNat) : Nat) := by
  have e2 : Ieee.double.binade = 4503599627370496 := by decide
  have e3 : Ieee.double.infRung = 9218868437227405312 := by decide
  have e4 : Ieee.double.leastPlace = -1074 := by decide
  have e5 : Ieee.double.fractionBits = 52 := by decide
  unfold Ieee.Format.nearest
  by_cases h0 : m = 0
  · subst h0
    rw [if_pos rfl, word_sgn, Nat.zero_mul, rung_tiny (by simp)]
  · rw [if_neg h0]
    simp only [e2, e3, e4, e5]
    rw [word_sgn, even_cut, Nat.shiftLeft_eq]
    have b1 : 2 ^ m.log2 ≤ m := Nat.log2_self_le h0
    have b2 : m < 2 ^ (m.log2 + 1) := Nat.lt_log2_self
    generalize m.log2 = L at *
    obtain ⟨E, hE⟩ := Int.eq_ofNat_of_zero_le hg
    rw [hE, Int.toNat_natCast]
    refine congrArg (fun r : Nat => sgn neg + (r : Int)) ?_
    rcases Int.lt_or_le (p + L - 52) (-1074) with c | c
    · rw [show max (p + (L : Int) - ((52 : Nat) : Int)) (-1074) = -1074 by omega]
      rcases Nat.lt_or_ge E g with c2 | c2
      · rw [rung_b1 b2 (by omega) (by omega), show (p - -1074).toNat = 0 by omega, show (-1074 - p).toNat = g - E by omega]
        simp
      · rw [rung_b0 b2 (by omega) (by omega), show (p - -1074).toNat = E - g by omega, show (-1074 - p).toNat = 0 by omega, rne_zero]
        simp
    · rw [show max (p + (L : Int) - ((52 : Nat) : Int)) (-1074) = p + L - 52 by omega]
      rw [show (p + (L : Int) - 52 - -1074).toNat = L + 1 + E - 53 - g by omega]
      rcases Nat.lt_or_ge L 53 with c2 | c2
      · rw [rung_a0 b1 b2 (by omega) (by omega), show (p - (p + (L : Int) - 52)).toNat = 53 - (L + 1) by omega, show (p + (L : Int) - 52 - p).toNat = 0 by omega, rne_zero]
      · rw [rung_a1 b1 b2 (by omega) (by omega), show (p - (p + (L : Int) - 52)).toNat = 0 by omega, show (p + (L : Int) - 52 - p).toNat = L + 1 - 53 by omega]
        simp

/-- What a word stands for, in units of the least number. -/
def MZ (a : Int) : Nat := M (mag a).toNat
def SV (a : Int) : Int := sz (belowB a) (MZ a)
def infB (a : Int) : Bool := decide (mag a = 9218868437227405312)
/-- The number nearest to T units; a nought of the sign z. -/
def nearZ (z : Bool) (T : Int) : Int := if T = 0 then sgn z else sgn (decide (T < 0)) + (rung 0 T.natAbs : Nat)
def addBad (a b : Int) : Bool := nanB a || (nanB b || (infB a && (infB b && (belowB a ^^ belowB b))))
def addZ (a b : Int) : Int := if addBad a b then 9221120237041090560 else if infB a then a else if infB b then b else nearZ (belowB a && belowB b) (SV a + SV b)
def mulBad (a b : Int) : Bool := nanB a || (nanB b || ((infB a && decide (mag b = 0)) || (decide (mag a = 0) && infB b)))
def mulZ (a b : Int) : Int := if mulBad a b then 9221120237041090560 else if infB a || infB b then sgn (belowB a ^^ belowB b) + 9218868437227405312 else sgn (belowB a ^^ belowB b) + (rung 1074 (MZ a * MZ b) : Nat)

theorem words {a : Int} (h : U64 a) : (a.toNat / 9223372036854775808 % 2 == 1) = belowB a ∧ a.toNat % 9223372036854775808 = (mag a).toNat := by
  obtain ⟨h0, h1⟩ := h
  unfold belowB mag
  constructor
  · rw [Bool.eq_iff_iff, decide_eq_true_eq, beq_iff_eq]; omega
  · split <;> omega
theorem mag_range {a : Int} (h : U64 a) : 0 ≤ mag a ∧ mag a < 9223372036854775808 := by
  obtain ⟨h0, h1⟩ := h
  unfold mag
  split <;> omega
theorem read_fin {a : Int} (h : U64 a) (hm : mag a < 9218868437227405312) : ∃ m p, 0 ≤ p + 1074 ∧ m * 2 ^ (p + 1074).toNat = MZ a ∧ Ieee.double.read a.toNat = .number (belowB a) m p := by
  obtain ⟨w1, w2⟩ := words h
  have := mag_range h
  obtain ⟨m, p, h1, h2, h3⟩ := read_number a.toNat (by omega)
  rw [w1] at h3
  rw [w2] at h2
  exact ⟨m, p, h1, h2, h3⟩
theorem read_infZ {a : Int} (h : U64 a) (hm : mag a = 9218868437227405312) : Ieee.double.read a.toNat = .infinity (belowB a) := by
  obtain ⟨w1, w2⟩ := words h
  rw [← w1]
  exact read_inf a.toNat (by omega)
theorem read_nanZ {a : Int} (h : U64 a) (hm : 9218868437227405312 < mag a) : ∃ f, Ieee.double.read a.toNat = .nan (belowB a) f := by
  obtain ⟨w1, w2⟩ := words h
  rw [← w1]
  exact read_nan a.toNat (by omega)

theorem natAbs_scale (x : Int) (c : Nat) : (x * (c : Int)).natAbs = x.natAbs * c := by rw [Int.natAbs_mul, Int.natAbs_natCast]

theorem sum_numbers (s t : Bool) (m n : Nat) (i j : Int) (hi : 0 ≤ i + 1074) (hj : 0 ≤ j + 1074) :
    ∃ r : Nat, ((Ieee.Datum.number s m i).sum (.number t n j)).map Ieee.double.write = some r ∧ (r : Int) = nearZ (s && t) (sz s (m * 2 ^ (i + 1074).toNat) + sz t (n * 2 ^ (j + 1074).toNat)) := by
  simp only [Ieee.Datum.sum, Option.map_some, Ieee.Format.write]
  refine ⟨_, rfl, ?_⟩
  generalize hb : min i j = b
  have hb0 : 0 ≤ b + 1074 := by omega
  have hT : (Ieee.signed s m (i - b).toNat + Ieee.signed t n (j - b).toNat) * ((2 ^ (b + 1074).toNat : Nat) : Int) = sz s (m * 2 ^ (i + 1074).toNat) + sz t (n * 2 ^ (j + 1074).toNat) := by
    rw [Int.add_mul, signed_scale, signed_scale]
    rw [show (i - b).toNat + (b + 1074).toNat = (i + 1074).toNat by omega, show (j - b).toNat + (b + 1074).toNat = (j + 1074).toNat by omega]
  rw [← hT, nearest_rung _ _ _ 0 (by omega)]
  generalize Ieee.signed s m (i - b).toNat + Ieee.signed t n (j - b).toNat = x
  have hc : 0 < 2 ^ (b + 1074).toNat := Nat.two_pow_pos _
  rw [show (b + 1074 + ((0 : Nat) : Int)) = b + 1074 by omega]
  generalize 2 ^ (b + 1074).toNat = c at *
  unfold nearZ
  rw [natAbs_scale]
  by_cases h0 : x = 0
  · subst h0
    simp [rung_tiny]
  · have hx : ¬ x * (c : Int) = 0 := by
      intro k
      rcases Int.mul_eq_zero.1 k with k | k <;> omega
    have hs : (x * (c : Int) < 0) ↔ x < 0 := by
      constructor
      · intro k
        rcases Int.lt_or_le x 0 with q | q
        · exact q
        · have := Int.mul_nonneg q (show (0 : Int) ≤ (c : Int) by omega); omega
      · intro k; exact Int.mul_neg_of_neg_of_pos k (by omega)
    rw [if_neg hx, if_neg h0]
    simp only [hs]

theorem kindsZ (a : Int) : mag a < 9218868437227405312 ∨ mag a = 9218868437227405312 ∨ 9218868437227405312 < mag a := by omega
theorem fin_nan {a : Int} (h : mag a < 9218868437227405312) : nanB a = false := decide_eq_false (by omega)
theorem fin_inf {a : Int} (h : mag a < 9218868437227405312) : infB a = false := decide_eq_false (by omega)
theorem inf_nan {a : Int} (h : mag a = 9218868437227405312) : nanB a = false := decide_eq_false (by omega)
theorem inf_inf {a : Int} (h : mag a = 9218868437227405312) : infB a = true := decide_eq_true h
theorem nan_nan {a : Int} (h : 9218868437227405312 < mag a) : nanB a = true := decide_eq_true h
theorem inf_word {a : Int} (h : U64 a) (hm : mag a = 9218868437227405312) : a = sgn (belowB a) + 9218868437227405312 := by
  obtain ⟨h0, h1⟩ := h
  unfold belowB sgn
  unfold mag at hm
  by_cases c : 9223372036854775808 ≤ a
  · rw [if_pos c] at hm; rw [decide_eq_true c, if_pos rfl]; omega
  · rw [if_neg c] at hm; rw [decide_eq_false c]; simp; omega
theorem write_inf (s : Bool) : ((Ieee.double.write (.infinity s) : Nat) : Int) = sgn s + 9218868437227405312 := by
  have e3 : Ieee.double.infRung = 9218868437227405312 := by decide
  show ((Ieee.double.word s Ieee.double.infRung : Nat) : Int) = _
  rw [e3, word_sgn]
  rfl

theorem add_some {a b : Int} (ha : U64 a) (hb : U64 b) (h : addBad a b = false) : floatBits .add .f64 a.toNat b.toNat = some (addZ a b).toNat := by
  show Ieee.double.add a.toNat b.toNat = _
  unfold addZ
  rw [h]
  simp only [Bool.false_eq_true, if_false]
  unfold Ieee.Format.add
  unfold addBad at h
  rcases kindsZ a with ka | ka | ka
  · obtain ⟨m, i, hi, em, ex⟩ := read_fin ha ka
    rcases kindsZ b with kb | kb | kb
    · obtain ⟨n, j, hj, en, ey⟩ := read_fin hb kb
      obtain ⟨r, h1, h2⟩ := sum_numbers (belowB a) (belowB b) m n i j hi hj
      rw [ex, ey, h1, fin_inf ka, fin_inf kb]
      simp only [Bool.false_eq_true, if_false]
      rw [em, en] at h2
      have : nearZ (belowB a && belowB b) (SV a + SV b) = (r : Int) := h2.symm
      rw [this, Int.toNat_natCast]
    · rw [ex, read_infZ hb kb, fin_inf ka, inf_inf kb]
      simp only [Bool.false_eq_true, if_false, if_true, Ieee.Datum.sum, Option.map_some, Option.some.injEq]
      have := write_inf (belowB b)
      rw [← inf_word hb kb] at this
      omega
    · rw [nan_nan kb] at h; simp at h
  · rw [read_infZ ha ka, inf_inf ka]
    simp only [if_true]
    have hw := write_inf (belowB a)
    rw [← inf_word ha ka] at hw
    rcases kindsZ b with kb | kb | kb
    · obtain ⟨n, j, hj, en, ey⟩ := read_fin hb kb
      rw [ey]
      simp only [Ieee.Datum.sum, Option.map_some, Option.some.injEq]
      omega
    · rw [inf_inf ka, inf_inf kb, inf_nan ka, inf_nan kb] at h
      simp only [Bool.false_or, Bool.true_and] at h
      have hs : belowB a = belowB b := by revert h; cases belowB a <;> cases belowB b <;> simp
      rw [read_infZ hb kb]
      simp only [Ieee.Datum.sum, hs, if_true, Option.map_some, Option.some.injEq]
      rw [← hs]
      omega
    · rw [nan_nan kb] at h; simp at h
  · rw [nan_nan ka] at h; simp at h

theorem add_none {a b : Int} (ha : U64 a) (hb : U64 b) (h : addBad a b = true) : floatBits .add .f64 a.toNat b.toNat = none := by
  show Ieee.double.add a.toNat b.toNat = _
  unfold Ieee.Format.add
  unfold addBad at h
  rcases kindsZ a with ka | ka | ka
  · obtain ⟨m, i, hi, em, ex⟩ := read_fin ha ka
    rcases kindsZ b with kb | kb | kb
    · rw [fin_nan ka, fin_nan kb, fin_inf ka] at h; simp at h
    · rw [fin_nan ka, inf_nan kb, fin_inf ka] at h; simp at h
    · obtain ⟨f, ey⟩ := read_nanZ hb kb
      rw [ex, ey]; rfl
  · rw [read_infZ ha ka]
    rcases kindsZ b with kb | kb | kb
    · rw [inf_nan ka, fin_nan kb, fin_inf kb] at h; simp at h
    · rw [inf_inf ka, inf_inf kb, inf_nan ka, inf_nan kb] at h
      simp only [Bool.false_or, Bool.true_and] at h
      have hs : belowB a ≠ belowB b := by revert h; cases belowB a <;> cases belowB b <;> simp
      rw [read_infZ hb kb]
      simp only [Ieee.Datum.sum, hs, if_false, Option.map_none]
    · obtain ⟨f, ey⟩ := read_nanZ hb kb
      rw [ey]; rfl
  · obtain ⟨f, ex⟩ := read_nanZ ha ka
    rw [ex]; rfl

theorem neg_parts {b : Int} (h : U64 b) (hn : nanB b = false) : mag (negZ b) = mag b ∧ belowB (negZ b) = !belowB b := by
  obtain ⟨h0, h1⟩ := h
  unfold nanB at hn
  unfold negZ nanB
  rw [hn]
  simp only [Bool.false_eq_true, if_false]
  by_cases c : 9223372036854775808 ≤ b
  · rw [if_pos c]
    unfold mag belowB
    rw [if_pos c, if_neg (by omega), decide_eq_true c, decide_eq_false (by omega)]
    exact ⟨rfl, rfl⟩
  · rw [if_neg c]
    unfold mag belowB
    rw [if_neg c, if_pos (by omega), decide_eq_false c, decide_eq_true (by omega)]
    exact ⟨by omega, rfl⟩

theorem mul_some {a b : Int} (ha : U64 a) (hb : U64 b) (h : mulBad a b = false) : floatBits .mul .f64 a.toNat b.toNat = some (mulZ a b).toNat := by
  show Ieee.double.mul a.toNat b.toNat = _
  unfold mulZ
  rw [h]
  simp only [Bool.false_eq_true, if_false]
  unfold Ieee.Format.mul
  unfold mulBad at h
  rcases kindsZ a with ka | ka | ka
  · obtain ⟨m, i, hi, em, ex⟩ := read_fin ha ka
    rcases kindsZ b with kb | kb | kb
    · obtain ⟨n, j, hj, en, ey⟩ := read_fin hb kb
      rw [ex, ey, fin_inf ka, fin_inf kb]
      simp only [Bool.or_false, Bool.false_eq_true, if_false, Ieee.Datum.product, Option.map_some, Option.some.injEq, Ieee.Format.write]
      have h1 := nearest_rung (belowB a ^^ belowB b) (m * n) (i + j) 1074 (by omega)
      have h2 : m * n * 2 ^ (i + j + 1074 + ((1074 : Nat) : Int)).toNat = MZ a * MZ b := by
        rw [← em, ← en, show (i + j + 1074 + ((1074 : Nat) : Int)).toNat = (i + 1074).toNat + (j + 1074).toNat by omega, Nat.pow_add]
        grind
      rw [h2] at h1
      rw [← h1, Int.toNat_natCast]
    · rw [fin_nan ka, inf_nan kb, fin_inf ka, inf_inf kb] at h
      have hz : mag a ≠ 0 := by simpa using h
      have hm : m ≠ 0 := by
        intro e
        rw [e, Nat.zero_mul] at em
        unfold MZ at em
        have := @M_inj 0 (mag a).toNat
        rw [M_zero] at this
        have := this.1 em
        have := mag_range ha
        omega
      rw [ex, read_infZ hb kb, inf_inf kb]
      simp only [Bool.or_true, if_true, Ieee.Datum.product, hm, if_false, Option.map_some, Option.some.injEq]
      have := write_inf (belowB b ^^ belowB a)
      rw [Bool.xor_comm (belowB a)]
      omega
    · rw [nan_nan kb] at h; simp at h
  · rw [read_infZ ha ka, inf_inf ka]
    simp only [Bool.true_or, if_true]
    have hw := write_inf (belowB a ^^ belowB b)
    rcases kindsZ b with kb | kb | kb
    · obtain ⟨n, j, hj, en, ey⟩ := read_fin hb kb
      rw [inf_nan ka, fin_nan kb, inf_inf ka, fin_inf kb] at h
      have hz : mag b ≠ 0 := by simpa using h
      have hn : n ≠ 0 := by
        intro e
        rw [e, Nat.zero_mul] at en
        unfold MZ at en
        have := @M_inj 0 (mag b).toNat
        rw [M_zero] at this
        have := this.1 en
        have := mag_range hb
        omega
      rw [ey]
      simp only [Ieee.Datum.product, hn, if_false, Option.map_some, Option.some.injEq]
      omega
    · rw [read_infZ hb kb]
      simp only [Ieee.Datum.product, Option.map_some, Option.some.injEq]
      omega
    · rw [nan_nan kb] at h; simp at h
  · rw [nan_nan ka] at h; simp at h

theorem mul_none {a b : Int} (ha : U64 a) (hb : U64 b) (h : mulBad a b = true) : floatBits .mul .f64 a.toNat b.toNat = none := by
  show Ieee.double.mul a.toNat b.toNat = _
  unfold Ieee.Format.mul
  unfold mulBad at h
  rcases kindsZ a with ka | ka | ka
  · obtain ⟨m, i, hi, em, ex⟩ := read_fin ha ka
    rcases kindsZ b with kb | kb | kb
    · rw [fin_nan ka, fin_nan kb, fin_inf ka, fin_inf kb] at h; simp at h
    · rw [fin_nan ka, inf_nan kb, fin_inf ka, inf_inf kb] at h
      have hz : mag a = 0 := by simpa using h
      have hm : m = 0 := by
        have e : MZ a = 0 := by unfold MZ; rw [hz]; exact M_zero
        rw [e] at em
        rcases Nat.mul_eq_zero.1 em with k | k
        · exact k
        · have := Nat.two_pow_pos (i + 1074).toNat; omega
      rw [ex, read_infZ hb kb]
      simp only [Ieee.Datum.product, hm, if_true, Option.map_none]
    · obtain ⟨f, ey⟩ := read_nanZ hb kb
      rw [ex, ey]; rfl
  · rw [read_infZ ha ka]
    rcases kindsZ b with kb | kb | kb
    · obtain ⟨n, j, hj, en, ey⟩ := read_fin hb kb
      rw [inf_nan ka, fin_nan kb, inf_inf ka, fin_inf kb] at h
      have hz : mag b = 0 := by simpa using h
      have hn : n = 0 := by
        have e : MZ b = 0 := by unfold MZ; rw [hz]; exact M_zero
        rw [e] at en
        rcases Nat.mul_eq_zero.1 en with k | k
        · exact k
        · have := Nat.two_pow_pos (j + 1074).toNat; omega
      rw [ey]
      simp only [Ieee.Datum.product, hn, if_true, Option.map_none]
    · rw [inf_inf ka, inf_inf kb, inf_nan ka, inf_nan kb, ka, kb] at h; simp at h
    · obtain ⟨f, ey⟩ := read_nanZ hb kb
      rw [ey]; rfl
  · obtain ⟨f, ex⟩ := read_nanZ ha ka
    rw [ex]; rfl

/-- A difference is the sum with the other one's negative. -/
theorem sub_add {a b : Int} (hb : U64 b) (hn : nanB b = false) : floatBits .sub .f64 a.toNat b.toNat = floatBits .add .f64 a.toNat (negZ b).toNat := by
  show Ieee.double.sub a.toNat b.toNat = Ieee.double.add a.toNat (negZ b).toNat
  unfold Ieee.Format.sub Ieee.Format.add
  have e : Ieee.double.read (negZ b).toNat = (Ieee.double.read b.toNat).opposite := by
    have hb' := negZ_u64 hb
    obtain ⟨p1, p2⟩ := neg_parts hb hn
    obtain ⟨w1, w2⟩ := words hb
    obtain ⟨v1, v2⟩ := words hb'
    unfold Ieee.Format.read
    have e1 : Ieee.double.signWeight = 9223372036854775808 := by decide
    rw [e1, w1, w2, v1, v2, p1, p2]
    dsimp only
    split
    · rfl
    · split
      · rfl
      · split <;> rfl
  rw [e]
theorem sub_nan {a b : Int} (hb : U64 b) (hn : nanB b = true) : floatBits .sub .f64 a.toNat b.toNat = none := by
  show Ieee.double.sub a.toNat b.toNat = none
  unfold Ieee.Format.sub
  have : 9218868437227405312 < mag b := by unfold nanB at hn; exact of_decide_eq_true hn
  obtain ⟨f, ey⟩ := read_nanZ hb this
  rw [ey]
  cases Ieee.double.read a.toNat <;> rfl

end Go.Proofs.Yteihehpgegkcpaa.Flo
