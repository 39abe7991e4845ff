/-
  DigMake, SumMath, SumRep, QuoMath, SumFast, SumWalk
-/
import Derived.Laws.FloatArith
import Derived.Test.YtfhoimfjfbbhaaaDoorZ06

/-
  The reference's Round and Make, by the rung of what they are given.
-/
namespace Go.Proofs.YtfhoimfjfbbhaaaDoor
set_option maxRecDepth 100000
open Go.RowKit Dg Flo

theorem blen_ge {N : Nat} (h : N ≠ 0) : 2 ^ blen N ≤ 2 * N := by
  unfold blen
  rw [if_neg h, Nat.pow_succ']
  have := Nat.log2_self_le h
  omega
theorem blen_up {N : Nat} : 2 * N < 2 ^ (blen N + 1) := by
  have := blen_lt N
  rw [Nat.pow_succ']
  omega
theorem blen_le {N k : Nat} (h : N < 2 ^ k) : blen N ≤ k := by
  unfold blen
  split
  · omega
  · rename_i hn
    have := (Nat.log2_lt hn).2 h
    omega

/-- What the reference makes is what the program makes. -/
theorem make_same (exp : Int) (N : Nat) (hN : N < 36893488147419103232) :
    rung (G + 3700) (2 * N * 2 ^ (min (max exp (-5000)) 5000 - 1 + 1073 + (G + 3700 : Nat)).toNat) = rung G (N * 2 ^ (min (max exp (-1200)) 1100 + 1073 + G).toNat) := by
  have hg := G_eq
  have e0 : 2 * N * 2 ^ (min (max exp (-5000)) 5000 - 1 + 1073 + (G + 3700 : Nat)).toNat = N * 2 ^ (min (max exp (-5000)) 5000 + 1073 + (G + 3700 : Nat)).toNat := by
    rw [show (min (max exp (-5000)) 5000 + 1073 + ((G + 3700 : Nat) : Int)).toNat = (min (max exp (-5000)) 5000 - 1 + 1073 + ((G + 3700 : Nat) : Int)).toNat + 1 by omega, Nat.pow_succ]
    grind
  rw [e0]
  by_cases c1 : exp < -1200
  · rw [rung_tiny, rung_tiny]
    · obtain ⟨k, hk⟩ : ∃ k, (min (max exp (-1200)) 1100 + 1073 + (G : Int)).toNat = k := ⟨_, rfl⟩
      rw [hk]
      have h1 := scaled_lt (n := N) (L := 65) (E := k) (by omega)
      have h2 : 2 * 2 ^ (65 + k) ≤ 2 ^ G := by rw [← Nat.pow_succ']; exact Nat.pow_le_pow_right (by decide) (by omega)
      omega
    · obtain ⟨k, hk⟩ : ∃ k, (min (max exp (-5000)) 5000 + 1073 + ((G + 3700 : Nat) : Int)).toNat = k := ⟨_, rfl⟩
      rw [hk]
      have h1 := scaled_lt (n := N) (L := 65) (E := k) (by omega)
      have h2 : 2 * 2 ^ (65 + k) ≤ 2 ^ (G + 3700) := by rw [← Nat.pow_succ']; exact Nat.pow_le_pow_right (by decide) (by omega)
      omega
  · by_cases c2 : exp ≤ 1100
    · have e1 : (min (max exp (-5000)) 5000 + 1073 + ((G + 3700 : Nat) : Int)).toNat = (min (max exp (-1200)) 1100 + 1073 + (G : Int)).toNat + 3700 := by omega
      rw [e1, Nat.pow_add, ← Nat.mul_assoc, rung_scale]
    · by_cases h0 : N = 0
      · subst h0
        rw [Nat.zero_mul, Nat.zero_mul, rung_tiny (by simp), rung_tiny (by simp)]
      · rw [rung_huge, rung_huge]
        · exact Nat.le_trans (Nat.pow_le_pow_right (by decide) (by omega)) (Nat.le_mul_of_pos_left _ (by omega))
        · exact Nat.le_trans (Nat.pow_le_pow_right (by decide) (by omega)) (Nat.le_mul_of_pos_left _ (by omega))

end Go.Proofs.YtfhoimfjfbbhaaaDoor

/-
  Plain mathematics: the nearest word of IEEE 754 is the nearest rung; sums and products of words.
-/
namespace Go.Proofs.YtfhoimfjfbbhaaaDoor.Flo
set_option maxRecDepth 100000
open Go.Proofs.YtfhoimfjfbbhaaaDoor

theorem even_cut (neg : Bool) (n d : Nat) : Ieee.Toward.even.cut neg n d = rne n d := by
  unfold Ieee.Toward.cut
  simp only [Nat.one_shiftLeft]
  have key : ∀ G : Nat, (decide (G < 2 * (n % G)) || (G == 2 * (n % G) && n / G % 2 == 1)).toNat = if G < 2 * (n % G) ∨ (G = 2 * (n % G) ∧ n / G % 2 = 1) then 1 else 0 := by
    intro G
    by_cases c1 : G < 2 * (n % G)
    · simp [c1]
    · by_cases c2 : G = 2 * (n % G)
      · by_cases c3 : n / G % 2 = 1
        · rw [if_pos (Or.inr ⟨c2, c3⟩)]
          have : (G == 2 * (n % G)) = true := beq_iff_eq.2 c2
          rw [this]
          simp [c3]
        · rw [if_neg (by omega)]
          have : (n / G % 2 == 1) = false := beq_eq_false_iff_ne.2 c3
          rw [this]
          simp only [Bool.and_false, Bool.or_false]
          simp [c1]
      · rw [if_neg (by omega)]
        have : (G == 2 * (n % G)) = false := beq_eq_false_iff_ne.2 c2
        rw [this]
        simp [c1]
  rcases Nat.lt_or_ge (n.log2 + 2) d with h | h
  · rw [Nat.min_eq_right (by omega), key]
    have hn : n < 2 ^ (n.log2 + 1) := Nat.lt_log2_self
    have e : 2 ^ (n.log2 + 2) = 2 * 2 ^ (n.log2 + 1) := Nat.pow_succ'
    have e2 : 2 ^ (n.log2 + 2) < 2 ^ d := Nat.pow_lt_pow_right (by decide) h
    rw [rne_small (by omega), Nat.div_eq_of_lt (by omega), Nat.mod_eq_of_lt (by omega), if_neg (by omega)]
  · rw [Nat.min_eq_left h, key]
    rfl

theorem rne_zero (v : Nat) : rne v 0 = v := by
  have := rne_exact v 0
  simpa using this

theorem word_sgn (neg : Bool) (r : Nat) : ((Ieee.double.word neg r : Nat) : Int) = sgn neg + (r : Int) := by
  have e1 : Ieee.double.signWeight = 9223372036854775808 := by decide
  unfold Ieee.Format.word sgn
  rw [e1]
  cases neg <;> simp

theorem nearest_rung (neg : Bool) (m : Nat) (p : Int) (g : Nat) (hg : 0 ≤ p + 1074 + g) :
    ((Ieee.double.nearest neg m p : Nat) : Int) = sgn neg + (rung g (m * 2 ^ (p + 1074 + g).toNat) : Nat) := by
  have e2 : Ieee.double.binade = 4503599627370496 := by decide
  have e3 : Ieee.double.infRung = 9218868437227405312 := by decide
  have e4 : Ieee.double.leastPlace = -1074 := by decide
  have e5 : Ieee.double.fractionBits = 52 := by decide
  unfold Ieee.Format.nearest
  by_cases h0 : m = 0
  · subst h0
    rw [if_pos rfl, word_sgn, Nat.zero_mul, rung_tiny (by simp)]
  · rw [if_neg h0]
    simp only [e2, e3, e4, e5]
    rw [word_sgn, even_cut, Nat.shiftLeft_eq]
    have b1 : 2 ^ m.log2 ≤ m := Nat.log2_self_le h0
    have b2 : m < 2 ^ (m.log2 + 1) := Nat.lt_log2_self
    generalize m.log2 = L at *
    obtain ⟨E, hE⟩ := Int.eq_ofNat_of_zero_le hg
    rw [hE, Int.toNat_natCast]
    refine congrArg (fun r : Nat => sgn neg + (r : Int)) ?_
    rcases Int.lt_or_le (p + L - 52) (-1074) with c | c
    · rw [show max (p + (L : Int) - ((52 : Nat) : Int)) (-1074) = -1074 by omega]
      rcases Nat.lt_or_ge E g with c2 | c2
      · rw [rung_b1 b2 (by omega) (by omega), show (p - -1074).toNat = 0 by omega, show (-1074 - p).toNat = g - E by omega]
        simp
      · rw [rung_b0 b2 (by omega) (by omega), show (p - -1074).toNat = E - g by omega, show (-1074 - p).toNat = 0 by omega, rne_zero]
        simp
    · rw [show max (p + (L : Int) - ((52 : Nat) : Int)) (-1074) = p + L - 52 by omega]
      rw [show (p + (L : Int) - 52 - -1074).toNat = L + 1 + E - 53 - g by omega]
      rcases Nat.lt_or_ge L 53 with c2 | c2
      · rw [rung_a0 b1 b2 (by omega) (by omega), show (p - (p + (L : Int) - 52)).toNat = 53 - (L + 1) by omega, show (p + (L : Int) - 52 - p).toNat = 0 by omega, rne_zero]
      · rw [rung_a1 b1 b2 (by omega) (by omega), show (p - (p + (L : Int) - 52)).toNat = 0 by omega, show (p + (L : Int) - 52 - p).toNat = L + 1 - 53 by omega]
        simp

/-- What a word stands for, in units of the least number. -/
def MZ (a : Int) : Nat := M (mag a).toNat
def SV (a : Int) : Int := sz (belowB a) (MZ a)
def infB (a : Int) : Bool := decide (mag a = 9218868437227405312)
/-- The number nearest to T units; a nought of the sign z. -/
def nearZ (z : Bool) (T : Int) : Int := if T = 0 then sgn z else sgn (decide (T < 0)) + (rung 0 T.natAbs : Nat)
def addBad (a b : Int) : Bool := nanB a || (nanB b || (infB a && (infB b && (belowB a ^^ belowB b))))
def addZ (a b : Int) : Int := if addBad a b then 9221120237041090560 else if infB a then a else if infB b then b else nearZ (belowB a && belowB b) (SV a + SV b)
def mulBad (a b : Int) : Bool := nanB a || (nanB b || ((infB a && decide (mag b = 0)) || (decide (mag a = 0) && infB b)))
def mulZ (a b : Int) : Int := if mulBad a b then 9221120237041090560 else if infB a || infB b then sgn (belowB a ^^ belowB b) + 9218868437227405312 else sgn (belowB a ^^ belowB b) + (rung 1074 (MZ a * MZ b) : Nat)

theorem words {a : Int} (h : U64 a) : (a.toNat / 9223372036854775808 % 2 == 1) = belowB a ∧ a.toNat % 9223372036854775808 = (mag a).toNat := by
  obtain ⟨h0, h1⟩ := h
  unfold belowB mag
  constructor
  · rw [Bool.eq_iff_iff, decide_eq_true_eq, beq_iff_eq]; omega
  · split <;> omega
theorem mag_range {a : Int} (h : U64 a) : 0 ≤ mag a ∧ mag a < 9223372036854775808 := by
  obtain ⟨h0, h1⟩ := h
  unfold mag
  split <;> omega
theorem read_fin {a : Int} (h : U64 a) (hm : mag a < 9218868437227405312) : ∃ m p, 0 ≤ p + 1074 ∧ m * 2 ^ (p + 1074).toNat = MZ a ∧ Ieee.double.read a.toNat = .number (belowB a) m p := by
  obtain ⟨w1, w2⟩ := words h
  have := mag_range h
  obtain ⟨m, p, h1, h2, h3⟩ := read_number a.toNat (by omega)
  rw [w1] at h3
  rw [w2] at h2
  exact ⟨m, p, h1, h2, h3⟩
theorem read_infZ {a : Int} (h : U64 a) (hm : mag a = 9218868437227405312) : Ieee.double.read a.toNat = .infinity (belowB a) := by
  obtain ⟨w1, w2⟩ := words h
  rw [← w1]
  exact read_inf a.toNat (by omega)
theorem read_nanZ {a : Int} (h : U64 a) (hm : 9218868437227405312 < mag a) : ∃ f, Ieee.double.read a.toNat = .nan (belowB a) f := by
  obtain ⟨w1, w2⟩ := words h
  rw [← w1]
  exact read_nan a.toNat (by omega)

theorem natAbs_scale (x : Int) (c : Nat) : (x * (c : Int)).natAbs = x.natAbs * c := by rw [Int.natAbs_mul, Int.natAbs_natCast]

theorem sum_numbers (s t : Bool) (m n : Nat) (i j : Int) (hi : 0 ≤ i + 1074) (hj : 0 ≤ j + 1074) :
    ∃ r : Nat, ((Ieee.Datum.number s m i).sum (.number t n j)).map Ieee.double.write = some r ∧ (r : Int) = nearZ (s && t) (sz s (m * 2 ^ (i + 1074).toNat) + sz t (n * 2 ^ (j + 1074).toNat)) := by
  simp only [Ieee.Datum.sum, Option.map_some, Ieee.Format.write]
  refine ⟨_, rfl, ?_⟩
  generalize hb : min i j = b
  have hb0 : 0 ≤ b + 1074 := by omega
  have hT : (Ieee.signed s m (i - b).toNat + Ieee.signed t n (j - b).toNat) * ((2 ^ (b + 1074).toNat : Nat) : Int) = sz s (m * 2 ^ (i + 1074).toNat) + sz t (n * 2 ^ (j + 1074).toNat) := by
    rw [Int.add_mul, signed_scale, signed_scale]
    rw [show (i - b).toNat + (b + 1074).toNat = (i + 1074).toNat by omega, show (j - b).toNat + (b + 1074).toNat = (j + 1074).toNat by omega]
  rw [← hT, nearest_rung _ _ _ 0 (by omega)]
  generalize Ieee.signed s m (i - b).toNat + Ieee.signed t n (j - b).toNat = x
  have hc : 0 < 2 ^ (b + 1074).toNat := Nat.two_pow_pos _
  rw [show (b + 1074 + ((0 : Nat) : Int)) = b + 1074 by omega]
  generalize 2 ^ (b + 1074).toNat = c at *
  unfold nearZ
  rw [natAbs_scale]
  by_cases h0 : x = 0
  · subst h0
    simp [rung_tiny]
  · have hx : ¬ x * (c : Int) = 0 := by
      intro k
      rcases Int.mul_eq_zero.1 k with k | k <;> omega
    have hs : (x * (c : Int) < 0) ↔ x < 0 := by
      constructor
      · intro k
        rcases Int.lt_or_le x 0 with q | q
        · exact q
        · have := Int.mul_nonneg q (show (0 : Int) ≤ (c : Int) by omega); omega
      · intro k; exact Int.mul_neg_of_neg_of_pos k (by omega)
    rw [if_neg hx, if_neg h0]
    simp only [hs]

theorem kindsZ (a : Int) : mag a < 9218868437227405312 ∨ mag a = 9218868437227405312 ∨ 9218868437227405312 < mag a := by omega
theorem fin_nan {a : Int} (h : mag a < 9218868437227405312) : nanB a = false := decide_eq_false (by omega)
theorem fin_inf {a : Int} (h : mag a < 9218868437227405312) : infB a = false := decide_eq_false (by omega)
theorem inf_nan {a : Int} (h : mag a = 9218868437227405312) : nanB a = false := decide_eq_false (by omega)
theorem inf_inf {a : Int} (h : mag a = 9218868437227405312) : infB a = true := decide_eq_true h
theorem nan_nan {a : Int} (h : 9218868437227405312 < mag a) : nanB a = true := decide_eq_true h
theorem inf_word {a : Int} (h : U64 a) (hm : mag a = 9218868437227405312) : a = sgn (belowB a) + 9218868437227405312 := by
  obtain ⟨h0, h1⟩ := h
  unfold belowB sgn
  unfold mag at hm
  by_cases c : 9223372036854775808 ≤ a
  · rw [if_pos c] at hm; rw [decide_eq_true c, if_pos rfl]; omega
  · rw [if_neg c] at hm; rw [decide_eq_false c]; simp; omega
theorem write_inf (s : Bool) : ((Ieee.double.write (.infinity s) : Nat) : Int) = sgn s + 9218868437227405312 := by
  have e3 : Ieee.double.infRung = 9218868437227405312 := by decide
  show ((Ieee.double.word s Ieee.double.infRung : Nat) : Int) = _
  rw [e3, word_sgn]
  rfl

theorem add_some {a b : Int} (ha : U64 a) (hb : U64 b) (h : addBad a b = false) : floatBits .add .f64 a.toNat b.toNat = some (addZ a b).toNat := by
  show Ieee.double.add a.toNat b.toNat = _
  unfold addZ
  rw [h]
  simp only [Bool.false_eq_true, if_false]
  unfold Ieee.Format.add
  unfold addBad at h
  rcases kindsZ a with ka | ka | ka
  · obtain ⟨m, i, hi, em, ex⟩ := read_fin ha ka
    rcases kindsZ b with kb | kb | kb
    · obtain ⟨n, j, hj, en, ey⟩ := read_fin hb kb
      obtain ⟨r, h1, h2⟩ := sum_numbers (belowB a) (belowB b) m n i j hi hj
      rw [ex, ey, h1, fin_inf ka, fin_inf kb]
      simp only [Bool.false_eq_true, if_false]
      rw [em, en] at h2
      have : nearZ (belowB a && belowB b) (SV a + SV b) = (r : Int) := h2.symm
      rw [this, Int.toNat_natCast]
    · rw [ex, read_infZ hb kb, fin_inf ka, inf_inf kb]
      simp only [Bool.false_eq_true, if_false, if_true, Ieee.Datum.sum, Option.map_some, Option.some.injEq]
      have := write_inf (belowB b)
      rw [← inf_word hb kb] at this
      omega
    · rw [nan_nan kb] at h; simp at h
  · rw [read_infZ ha ka, inf_inf ka]
    simp only [if_true]
    have hw := write_inf (belowB a)
    rw [← inf_word ha ka] at hw
    rcases kindsZ b with kb | kb | kb
    · obtain ⟨n, j, hj, en, ey⟩ := read_fin hb kb
      rw [ey]
      simp only [Ieee.Datum.sum, Option.map_some, Option.some.injEq]
      omega
    · rw [inf_inf ka, inf_inf kb, inf_nan ka, inf_nan kb] at h
      simp only [Bool.false_or, Bool.true_and] at h
      have hs : belowB a = belowB b := by revert h; cases belowB a <;> cases belowB b <;> simp
      rw [read_infZ hb kb]
      simp only [Ieee.Datum.sum, hs, if_true, Option.map_some, Option.some.injEq]
      rw [← hs]
      omega
    · rw [nan_nan kb] at h; simp at h
  · rw [nan_nan ka] at h; simp at h

theorem add_none {a b : Int} (ha : U64 a) (hb : U64 b) (h : addBad a b = true) : floatBits .add .f64 a.toNat b.toNat = none := by
  show Ieee.double.add a.toNat b.toNat = _
  unfold Ieee.Format.add
  unfold addBad at h
  rcases kindsZ a with ka | ka | ka
  · obtain ⟨m, i, hi, em, ex⟩ := read_fin ha ka
    rcases kindsZ b with kb | kb | kb
    · rw [fin_nan ka, fin_nan kb, fin_inf ka] at h; simp at h
    · rw [fin_nan ka, inf_nan kb, fin_inf ka] at h; simp at h
    · obtain ⟨f, ey⟩ := read_nanZ hb kb
      rw [ex, ey]; rfl
  · rw [read_infZ ha ka]
    rcases kindsZ b with kb | kb | kb
    · rw [inf_nan ka, fin_nan kb, fin_inf kb] at h; simp at h
    · rw [inf_inf ka, inf_inf kb, inf_nan ka, inf_nan kb] at h
      simp only [Bool.false_or, Bool.true_and] at h
      have hs : belowB a ≠ belowB b := by revert h; cases belowB a <;> cases belowB b <;> simp
      rw [read_infZ hb kb]
      simp only [Ieee.Datum.sum, hs, if_false, Option.map_none]
    · obtain ⟨f, ey⟩ := read_nanZ hb kb
      rw [ey]; rfl
  · obtain ⟨f, ex⟩ := read_nanZ ha ka
    rw [ex]; rfl

theorem neg_parts {b : Int} (h : U64 b) (hn : nanB b = false) : mag (negZ b) = mag b ∧ belowB (negZ b) = !belowB b := by
  obtain ⟨h0, h1⟩ := h
  unfold nanB at hn
  unfold negZ nanB
  rw [hn]
  simp only [Bool.false_eq_true, if_false]
  by_cases c : 9223372036854775808 ≤ b
  · rw [if_pos c]
    unfold mag belowB
    rw [if_pos c, if_neg (by omega), decide_eq_true c, decide_eq_false (by omega)]
    exact ⟨rfl, rfl⟩
  · rw [if_neg c]
    unfold mag belowB
    rw [if_neg c, if_pos (by omega), decide_eq_false c, decide_eq_true (by omega)]
    exact ⟨by omega, rfl⟩

theorem mul_some {a b : Int} (ha : U64 a) (hb : U64 b) (h : mulBad a b = false) : floatBits .mul .f64 a.toNat b.toNat = some (mulZ a b).toNat := by
  show Ieee.double.mul a.toNat b.toNat = _
  unfold mulZ
  rw [h]
  simp only [Bool.false_eq_true, if_false]
  unfold Ieee.Format.mul
  unfold mulBad at h
  rcases kindsZ a with ka | ka | ka
  · obtain ⟨m, i, hi, em, ex⟩ := read_fin ha ka
    rcases kindsZ b with kb | kb | kb
    · obtain ⟨n, j, hj, en, ey⟩ := read_fin hb kb
      rw [ex, ey, fin_inf ka, fin_inf kb]
      simp only [Bool.or_false, Bool.false_eq_true, if_false, Ieee.Datum.product, Option.map_some, Option.some.injEq, Ieee.Format.write]
      have h1 := nearest_rung (belowB a ^^ belowB b) (m * n) (i + j) 1074 (by omega)
      have h2 : m * n * 2 ^ (i + j + 1074 + ((1074 : Nat) : Int)).toNat = MZ a * MZ b := by
        rw [← em, ← en, show (i + j + 1074 + ((1074 : Nat) : Int)).toNat = (i + 1074).toNat + (j + 1074).toNat by omega, Nat.pow_add]
        grind
      rw [h2] at h1
      rw [← h1, Int.toNat_natCast]
    · rw [fin_nan ka, inf_nan kb, fin_inf ka, inf_inf kb] at h
      have hz : mag a ≠ 0 := by simpa using h
      have hm : m ≠ 0 := by
        intro e
        rw [e, Nat.zero_mul] at em
        unfold MZ at em
        have := @M_inj 0 (mag a).toNat
        rw [M_zero] at this
        have := this.1 em
        have := mag_range ha
        omega
      rw [ex, read_infZ hb kb, inf_inf kb]
      simp only [Bool.or_true, if_true, Ieee.Datum.product, hm, if_false, Option.map_some, Option.some.injEq]
      have := write_inf (belowB b ^^ belowB a)
      rw [Bool.xor_comm (belowB a)]
      omega
    · rw [nan_nan kb] at h; simp at h
  · rw [read_infZ ha ka, inf_inf ka]
    simp only [Bool.true_or, if_true]
    have hw := write_inf (belowB a ^^ belowB b)
    rcases kindsZ b with kb | kb | kb
    · obtain ⟨n, j, hj, en, ey⟩ := read_fin hb kb
      rw [inf_nan ka, fin_nan kb, inf_inf ka, fin_inf kb] at h
      have hz : mag b ≠ 0 := by simpa using h
      have hn : n ≠ 0 := by
        intro e
        rw [e, Nat.zero_mul] at en
        unfold MZ at en
        have := @M_inj 0 (mag b).toNat
        rw [M_zero] at this
        have := this.1 en
        have := mag_range hb
        omega
      rw [ey]
      simp only [Ieee.Datum.product, hn, if_false, Option.map_some, Option.some.injEq]
      omega
    · rw [read_infZ hb kb]
      simp only [Ieee.Datum.product, Option.map_some, Option.some.injEq]
      omega
    · rw [nan_nan kb] at h; simp at h
  · rw [nan_nan ka] at h; simp at h

theorem mul_none {a b : Int} (ha : U64 a) (hb : U64 b) (h : mulBad a b = true) : floatBits .mul .f64 a.toNat b.toNat = none := by
  show Ieee.double.mul a.toNat b.toNat = _
  unfold Ieee.Format.mul
  unfold mulBad at h
  rcases kindsZ a with ka | ka | ka
  · obtain ⟨m, i, hi, em, ex⟩ := read_fin ha ka
    rcases kindsZ b with kb | kb | kb
    · rw [fin_nan ka, fin_nan kb, fin_inf ka, fin_inf kb] at h; simp at h
    · rw [fin_nan ka, inf_nan kb, fin_inf ka, inf_inf kb] at h
      have hz : mag a = 0 := by simpa using h
      have hm : m = 0 := by
        have e : MZ a = 0 := by unfold MZ; rw [hz]; exact M_zero
        rw [e] at em
        rcases Nat.mul_eq_zero.1 em with k | k
        · exact k
        · have := Nat.two_pow_pos (i + 1074).toNat; omega
      rw [ex, read_infZ hb kb]
      simp only [Ieee.Datum.product, hm, if_true, Option.map_none]
    · obtain ⟨f, ey⟩ := read_nanZ hb kb
      rw [ex, ey]; rfl
  · rw [read_infZ ha ka]
    rcases kindsZ b with kb | kb | kb
    · obtain ⟨n, j, hj, en, ey⟩ := read_fin hb kb
      rw [inf_nan ka, fin_nan kb, inf_inf ka, fin_inf kb] at h
      have hz : mag b = 0 := by simpa using h
      have hn : n = 0 := by
        have e : MZ b = 0 := by unfold MZ; rw [hz]; exact M_zero
        rw [e] at en
        rcases Nat.mul_eq_zero.1 en with k | k
        · exact k
        · have := Nat.two_pow_pos (j + 1074).toNat; omega
      rw [ey]
      simp only [Ieee.Datum.product, hn, if_true, Option.map_none]
    · rw [inf_inf ka, inf_inf kb, inf_nan ka, inf_nan kb, ka, kb] at h; simp at h
    · obtain ⟨f, ey⟩ := read_nanZ hb kb
      rw [ey]; rfl
  · obtain ⟨f, ex⟩ := read_nanZ ha ka
    rw [ex]; rfl

/-- A difference is the sum with the other one's negative. -/
theorem sub_add {a b : Int} (hb : U64 b) (hn : nanB b = false) : floatBits .sub .f64 a.toNat b.toNat = floatBits .add .f64 a.toNat (negZ b).toNat := by
  show Ieee.double.sub a.toNat b.toNat = Ieee.double.add a.toNat (negZ b).toNat
  unfold Ieee.Format.sub Ieee.Format.add
  have e : Ieee.double.read (negZ b).toNat = (Ieee.double.read b.toNat).opposite := by
    have hb' := negZ_u64 hb
    obtain ⟨p1, p2⟩ := neg_parts hb hn
    obtain ⟨w1, w2⟩ := words hb
    obtain ⟨v1, v2⟩ := words hb'
    unfold Ieee.Format.read
    have e1 : Ieee.double.signWeight = 9223372036854775808 := by decide
    rw [e1, w1, w2, v1, v2, p1, p2]
    dsimp only
    split
    · rfl
    · split
      · rfl
      · split <;> rfl
  rw [e]
theorem sub_nan {a b : Int} (hb : U64 b) (hn : nanB b = true) : floatBits .sub .f64 a.toNat b.toNat = none := by
  show Ieee.double.sub a.toNat b.toNat = none
  unfold Ieee.Format.sub
  have : 9218868437227405312 < mag b := by unfold nanB at hn; exact of_decide_eq_true hn
  obtain ⟨f, ey⟩ := read_nanZ hb this
  rw [ey]
  cases Ieee.double.read a.toNat <;> rfl

end Go.Proofs.YtfhoimfjfbbhaaaDoor.Flo

/-
  Plain mathematics: which whole numbers of units are numbers, and what rounding gives of them.
-/
namespace Go.Proofs.YtfhoimfjfbbhaaaDoor.Flo
set_option maxRecDepth 100000
open Go.Proofs.YtfhoimfjfbbhaaaDoor

/-- Where the greatest numbers end, as a power of two of units. -/
def TP : Nat := 2098
theorem TP_eq : TP = 2098 := rfl
def pl (r : Nat) : Nat := r / 4503599627370496 - 1
def pq (r : Nat) : Nat := if r < 4503599627370496 then r else 4503599627370496 + r % 4503599627370496

theorem M_parts (r : Nat) : M r = pq r * 2 ^ pl r ∧ pq r < 9007199254740992 ∧ (1 ≤ pl r → 4503599627370496 ≤ pq r) := by
  unfold M pq pl
  by_cases h : r < 4503599627370496
  · rw [if_pos h, if_pos h, Nat.div_eq_of_lt h]
    refine ⟨by simp, by omega, by omega⟩
  · rw [if_neg h, if_neg h]
    exact ⟨rfl, by omega, by omega⟩
theorem pl_mono {r s : Nat} (h : r ≤ s) : pl r ≤ pl s := by
  have := Nat.div_le_div_right (c := 4503599627370496) h
  unfold pl
  omega
theorem M_at {q l : Nat} (h : q < 9007199254740992) (h0 : l = 0 ∨ 4503599627370496 ≤ q) : M (l * 4503599627370496 + q) = q * 2 ^ l := by
  unfold M
  by_cases c : q < 4503599627370496
  · have : l = 0 := by omega
    subst this
    rw [if_pos (by omega)]; simp
  · rw [if_neg (by omega)]
    have e1 : (l * 4503599627370496 + q) % 4503599627370496 = q - 4503599627370496 := by omega
    have e2 : (l * 4503599627370496 + q) / 4503599627370496 = l + 1 := by omega
    rw [e1, e2, show l + 1 - 1 = l by omega, show 4503599627370496 + (q - 4503599627370496) = q by omega]
theorem M_lt {r : Nat} (h : r < 9218868437227405312) : M r < 2 ^ TP := by
  have ht := TP_eq
  obtain ⟨e, h1, _⟩ := M_parts r
  rw [e]
  have hl : pl r ≤ 2045 := by unfold pl; omega
  exact Nat.lt_of_lt_of_le (scaled_lt (L := 53) (by omega)) (Nat.pow_le_pow_right (by decide) (by omega))
theorem rung_M {r : Nat} (h : r ≤ 9218868437227405312) : rung 0 (M r) = r := by
  obtain ⟨e, h1, h2⟩ := M_parts r
  rw [e]
  by_cases c : r < 4503599627370496
  · have e1 : pl r = 0 := by unfold pl; rw [Nat.div_eq_of_lt c]
    have e2 : pq r = r := by unfold pq; rw [if_pos c]
    rw [e1, e2, rung_b0 (L := 52) (by omega) (by omega) (by omega)]
    simp
    omega
  · have e2 : pq r = 4503599627370496 + r % 4503599627370496 := by unfold pq; rw [if_neg c]
    rw [rung_a0 (L := 52) (by omega) (by omega) (by omega) (by omega), e2]
    unfold pl
    simp only [Nat.sub_self, Nat.pow_zero, Nat.mul_one]
    omega

/-- A whole number of units that is a number. -/
def Rep (v : Nat) : Prop := ∃ r, r < 9218868437227405312 ∧ M r = v
theorem Rep.rung {v : Nat} (h : Rep v) : rung 0 v < 9218868437227405312 ∧ M (rung 0 v) = v := by
  obtain ⟨r, h1, rfl⟩ := h
  rw [rung_M (by omega)]
  exact ⟨h1, rfl⟩
theorem rep_zero : Rep 0 := ⟨0, by decide, M_zero⟩
theorem rep_lt {n k : Nat} (h : n < 9007199254740992) (hv : n * 2 ^ k < 2 ^ TP) : Rep (n * 2 ^ k) := by
  have ht := TP_eq
  by_cases h0 : n = 0
  · subst h0; rw [Nat.zero_mul]; exact rep_zero
  · have b1 := Nat.log2_self_le h0
    have b2 : n < 2 ^ (n.log2 + 1) := Nat.lt_log2_self
    have b3 : n.log2 < 53 := (Nat.log2_lt h0).2 (by omega)
    generalize n.log2 = L at *
    by_cases c : L + k < 52
    · have b4 : n * 2 ^ k < 2 ^ (L + 1 + k) := scaled_lt b2
      have b5 : 2 ^ (L + 1 + k) ≤ 2 ^ 52 := Nat.pow_le_pow_right (by decide) (by omega)
      refine ⟨n * 2 ^ k, by omega, ?_⟩
      unfold M
      rw [if_pos (by omega)]
    · obtain ⟨s, hs⟩ : ∃ s, s = L + k - 52 := ⟨_, rfl⟩
      have e : n * 2 ^ k = n * 2 ^ (52 - L) * 2 ^ s := by rw [Nat.mul_assoc, ← Nat.pow_add, show 52 - L + s = k by omega]
      have q1 : n * 2 ^ (52 - L) < 2 ^ (L + 1 + (52 - L)) := scaled_lt b2
      have q2 : 2 ^ (L + (52 - L)) ≤ n * 2 ^ (52 - L) := scaled_ge b1
      rw [show L + 1 + (52 - L) = 53 by omega] at q1
      rw [show L + (52 - L) = 52 by omega] at q2
      rw [e] at hv ⊢
      generalize n * 2 ^ (52 - L) = q at *
      have s1 : s ≤ 2045 := by
        rcases Nat.lt_or_ge s 2046 with k1 | k1
        · omega
        · exfalso
          have h1 : 2 ^ (52 + s) ≤ q * 2 ^ s := scaled_ge q2
          have h2 : 2 ^ TP ≤ 2 ^ (52 + s) := Nat.pow_le_pow_right (by decide) (by omega)
          omega
      exact ⟨s * 4503599627370496 + q, by omega, M_at (by omega) (Or.inr (by omega))⟩
theorem rep_of {n k : Nat} (h : n ≤ 9007199254740992) (hv : n * 2 ^ k < 2 ^ TP) : Rep (n * 2 ^ k) := by
  rcases Nat.lt_or_ge n 9007199254740992 with c | c
  · exact rep_lt c hv
  · have e : n = 9007199254740992 := by omega
    subst e
    have e2 : 9007199254740992 * 2 ^ k = 4503599627370496 * 2 ^ (k + 1) := by rw [Nat.pow_succ]; omega
    rw [e2] at hv ⊢
    exact rep_lt (by omega) hv

/-- What a number that is rounded stands for. -/
theorem M_rung {v : Nat} (h : rung 0 v < 9218868437227405312) : M (rung 0 v) = rne v (lowest 0 v) * 2 ^ lowest 0 v := by
  obtain ⟨a1, a2, a3⟩ := lowest_spec 0 v
  have e : rung 0 v = lowest 0 v * 4503599627370496 + rne v (lowest 0 v) := by
    unfold rung at h ⊢
    rw [Nat.sub_zero] at h ⊢
    omega
  rw [e]
  have r1 := rne_le a2
  generalize lowest 0 v = d at *
  by_cases c : rne v d = 9007199254740992
  · rw [c, show d * 4503599627370496 + 9007199254740992 = (d + 1) * 4503599627370496 + 4503599627370496 by omega, M_at (by omega) (Or.inr (by omega)), Nat.pow_succ]
    omega
  · refine M_at (by omega) ?_
    rcases Nat.eq_zero_or_pos d with k | k
    · exact Or.inl k
    · exact Or.inr (rne_ge (a3 k))

theorem rne_near (v d : Nat) : ∃ e : Int, (v : Int) = (rne v d : Int) * ((2 ^ d : Nat) : Int) + e ∧ 2 * e ≤ ((2 ^ d : Nat) : Int) ∧ -((2 ^ d : Nat) : Int) ≤ 2 * e := by
  have hp : 0 < 2 ^ d := Nat.two_pow_pos d
  have hv := Nat.div_add_mod v (2 ^ d)
  have hm := Nat.mod_lt v hp
  unfold rne
  generalize 2 ^ d = P at *
  generalize v / P = q at *
  generalize v % P = r at *
  have hq : (v : Int) = (q : Int) * (P : Int) + (r : Int) := by
    rw [← hv]; push_cast; rw [Int.mul_comm]
  split
  · refine ⟨(r : Int) - (P : Int), ?_, by omega, by omega⟩
    rw [hq]
    push_cast
    rw [Int.add_mul]
    omega
  · refine ⟨(r : Int), ?_, by omega, by omega⟩
    rw [hq]
    push_cast
    rw [Int.add_mul]
    omega
/-- Of the multiples of 2 to the d none is nearer. -/
theorem near_least {v e q c P : Int} (hP : 0 < P) (hv : v = q * P + e) (h1 : 2 * e ≤ P) (h2 : -P ≤ 2 * e) : e.natAbs ≤ (v - c * P).natAbs := by
  rcases Int.lt_trichotomy q c with h | h | h
  · obtain ⟨t, ht⟩ : ∃ t : Nat, c = q + 1 + (t : Int) := ⟨(c - q - 1).toNat, by omega⟩
    have hx : 0 ≤ (t : Int) * P := Int.mul_nonneg (by omega) (by omega)
    have e1 : v - c * P = e - P - (t : Int) * P := by rw [hv, ht, Int.add_mul, Int.add_mul]; omega
    rw [e1]
    omega
  · have e1 : v - c * P = e := by rw [hv, h]; omega
    rw [e1]; exact Nat.le_refl _
  · obtain ⟨t, ht⟩ : ∃ t : Nat, q = c + 1 + (t : Int) := ⟨(q - c - 1).toNat, by omega⟩
    have hx : 0 ≤ (t : Int) * P := Int.mul_nonneg (by omega) (by omega)
    have e1 : v - c * P = e + P + (t : Int) * P := by rw [hv, ht, Int.add_mul, Int.add_mul]; omega
    rw [e1]
    omega

end Go.Proofs.YtfhoimfjfbbhaaaDoor.Flo

/-
  Plain mathematics: what is cut off, but noted, does not change what is rounded.
-/
namespace Go.Proofs.YtfhoimfjfbbhaaaDoor.Flo
set_option maxRecDepth 100000
open Go.Proofs.YtfhoimfjfbbhaaaDoor

/-- Within a cell, its lower end apart, all is rounded alike. -/
theorem rne_cell {d p c a : Nat} (hp : p < d) (a0 : 0 < a) (a1 : a < 2 ^ p) :
    rne (c * 2 ^ p + a) d = c / 2 ^ (d - p) + (if 2 ^ (d - p - 1) ≤ c % 2 ^ (d - p) then 1 else 0) := by
  have hP := Nat.two_pow_pos p
  have eD : 2 ^ d = 2 ^ p * 2 ^ (d - p) := by rw [← Nat.pow_add]; congr 1; omega
  have eW : 2 ^ (d - p) = 2 * 2 ^ (d - p - 1) := by rw [← Nat.pow_succ']; congr 1; omega
  have e1 : (c * 2 ^ p + a) / 2 ^ p = c := by
    rw [Nat.mul_comm, Nat.mul_add_div hP, Nat.div_eq_of_lt a1, Nat.add_zero]
  have e2 : (c * 2 ^ p + a) / 2 ^ d = c / 2 ^ (d - p) := by rw [eD, ← Nat.div_div_eq_div_mul, e1]
  have e3 : (c * 2 ^ p + a) % 2 ^ d = c % 2 ^ (d - p) * 2 ^ p + a := by
    rw [eD, Nat.mod_mul, e1, Nat.mul_comm c, Nat.mul_add_mod, Nat.mod_eq_of_lt a1, Nat.mul_comm]
    omega
  unfold rne
  rw [e2, e3, eD, eW]
  generalize 2 ^ (d - p - 1) = W
  generalize c % (2 * W) = z
  generalize c / (2 * W) = y
  generalize 2 ^ p = P at *
  congr 1
  have x1 : P * (2 * W) = 2 * (P * W) := by grind
  rw [x1]
  by_cases h : W ≤ z
  · have h1 : P * W ≤ z * P := by rw [Nat.mul_comm z]; exact Nat.mul_le_mul_left P h
    rw [if_pos h, if_pos (Or.inl (by omega))]
  · have h1 : (z + 1) * P ≤ P * W := by rw [Nat.mul_comm]; exact Nat.mul_le_mul_left P (by omega)
    rw [Nat.add_mul, Nat.one_mul] at h1
    rw [if_neg h, if_neg (by omega)]

theorem rung_cell {g p c a b : Nat} (hc : 9007199254740992 ≤ c) (a0 : 0 < a) (a1 : a < 2 ^ p) (b0 : 0 < b) (b1 : b < 2 ^ p) : rung g (c * 2 ^ p + a) = rung g (c * 2 ^ p + b) := by
  obtain ⟨s1, s2, s3⟩ := lowest_spec g (c * 2 ^ p + a)
  have hP := Nat.two_pow_pos p
  have h53 : 2 ^ (53 + p) ≤ c * 2 ^ p := scaled_ge (by omega)
  have hp : p < lowest g (c * 2 ^ p + a) := by
    rcases Nat.lt_or_ge p (lowest g (c * 2 ^ p + a)) with k | k
    · exact k
    · exfalso
      have : 2 ^ (lowest g (c * 2 ^ p + a) + 53) ≤ 2 ^ (53 + p) := Nat.pow_le_pow_right (by decide) (by generalize lowest g (c * 2 ^ p + a) = d at *; omega)
      exact absurd (Nat.lt_of_lt_of_le s2 (Nat.le_trans this h53)) (by omega)
  have hl : lowest g (c * 2 ^ p + b) = lowest g (c * 2 ^ p + a) := by
    generalize lowest g (c * 2 ^ p + a) = d at *
    have u1 : c * 2 ^ p + b < 2 ^ (d + 53) := by
      have e : 2 ^ (d + 53) = 2 ^ (d + 53 - p) * 2 ^ p := by rw [← Nat.pow_add]; congr 1; omega
      rw [e] at s2 ⊢
      have : c < 2 ^ (d + 53 - p) := Nat.lt_of_mul_lt_mul_right (a := 2 ^ p) (by omega)
      have := Nat.mul_le_mul_right (2 ^ p) this
      rw [Nat.succ_mul] at this
      omega
    rcases Nat.lt_or_ge g d with k | k
    · refine lowest_high k ?_ u1
      have h := s3 k
      have e : 2 ^ (d + 52) = 2 ^ (d + 52 - p) * 2 ^ p := by rw [← Nat.pow_add]; congr 1; omega
      rw [e] at h ⊢
      have : 2 ^ (d + 52 - p) < c + 1 := by
        refine Nat.lt_of_mul_lt_mul_right (a := 2 ^ p) ?_
        rw [Nat.add_mul, Nat.one_mul]; omega
      have := Nat.mul_le_mul_right (2 ^ p) (show 2 ^ (d + 52 - p) ≤ c by omega)
      omega
    · have : d = g := by omega
      subst this
      exact lowest_low u1
  unfold rung
  rw [hl, rne_cell hp a0 a1, rne_cell hp b0 b1]

/-- Two that were cut off in one cell, and note whether anything fell. -/
theorem rung_sticky {g p c v u : Nat} (hc : 9007199254740992 ≤ c) (v1 : c * 2 ^ p ≤ v) (v2 : v < (c + 1) * 2 ^ p) (u1 : c * 2 ^ p ≤ u) (u2 : u < (c + 1) * 2 ^ p) (h : v = c * 2 ^ p ↔ u = c * 2 ^ p) : rung g v = rung g u := by
  rw [Nat.add_mul, Nat.one_mul] at v2 u2
  by_cases k : v = c * 2 ^ p
  · rw [k, h.1 k]
  · have k2 : u ≠ c * 2 ^ p := fun q => k (h.2 q)
    have e1 : v = c * 2 ^ p + (v - c * 2 ^ p) := by omega
    have e2 : u = c * 2 ^ p + (u - c * 2 ^ p) := by omega
    rw [e1, e2]
    exact rung_cell hc (by omega) (by omega) (by omega) (by omega)

theorem sticky_pair {Q Q2 x t g : Nat} {z1 z2 : Prop} [Decidable z1] [Decidable z2] (hq : 9007199254740992 ≤ Q) (l1 : Q * 2 ^ t ≤ Q2) (l2 : Q2 < (Q + 1) * 2 ^ t) (l3 : z1 ↔ (z2 ∧ Q2 = Q * 2 ^ t)) :
    rung g ((2 * Q + (if z1 then 0 else 1)) * 2 ^ (x + t)) = rung g ((2 * Q2 + (if z2 then 0 else 1)) * 2 ^ x) := by
  have ht := Nat.two_pow_pos t
  have hx := Nat.two_pow_pos x
  have ex : 2 ^ (x + t) = 2 ^ t * 2 ^ x := by rw [← Nat.pow_add, Nat.add_comm]
  have ep : 2 ^ (x + t + 1) = 2 * 2 ^ t * 2 ^ x := by rw [Nat.pow_succ', ex, Nat.mul_assoc]
  generalize 2 ^ t = T at *
  generalize 2 ^ x = X at *
  have hX : ∀ y z : Nat, y ≤ z → y * X ≤ z * X := fun y z h => Nat.mul_le_mul_right X h
  have hXl : ∀ y z : Nat, y < z → y * X < z * X := fun y z h => Nat.mul_lt_mul_of_pos_right h hx
  refine rung_sticky (p := x + t + 1) (c := Q) hq ?_ ?_ ?_ ?_ ?_
  · rw [ep, ex, show Q * (2 * T * X) = (2 * Q * T) * X by grind, show (2 * Q + (if z1 then 0 else 1)) * (T * X) = ((2 * Q + (if z1 then 0 else 1)) * T) * X by grind]
    exact hX _ _ (Nat.mul_le_mul_right T (by omega))
  · rw [ep, ex, show (Q + 1) * (2 * T * X) = ((2 * Q + 2) * T) * X by grind, show (2 * Q + (if z1 then 0 else 1)) * (T * X) = ((2 * Q + (if z1 then 0 else 1)) * T) * X by grind]
    exact hXl _ _ (Nat.mul_lt_mul_of_pos_right (by split <;> omega) ht)
  · rw [ep, show Q * (2 * T * X) = (2 * (Q * T)) * X by grind]
    exact hX _ _ (by omega)
  · rw [ep, show (Q + 1) * (2 * T * X) = (2 * ((Q + 1) * T)) * X by grind]
    exact hXl _ _ (by split <;> omega)
  · rw [ep, ex, show Q * (2 * T * X) = (2 * (Q * T)) * X by grind, show (2 * Q + (if z1 then 0 else 1)) * (T * X) = ((2 * Q + (if z1 then 0 else 1)) * T) * X by grind]
    constructor
    · intro h
      have h1 := Nat.eq_of_mul_eq_mul_right hx h
      have h2 : (2 * Q + (if z1 then 0 else 1)) * T = (2 * Q) * T := by rw [h1]; grind
      have h3 := Nat.eq_of_mul_eq_mul_right ht h2
      have h4 : z1 := by
        by_cases q : z1
        · exact q
        · rw [if_neg q] at h3; omega
      obtain ⟨h5, h6⟩ := l3.1 h4
      rw [if_pos h5, h6]
      rfl
    · intro h
      have h1 := Nat.eq_of_mul_eq_mul_right hx h
      have h2 : z2 := by
        by_cases q : z2
        · exact q
        · rw [if_neg q] at h1; omega
      rw [if_pos h2] at h1
      have h3 := l3.2 ⟨h2, by omega⟩
      rw [if_pos h3]
      grind

/-! Quotients. -/
/-- A quotient with k bits more, twice, and one more where anything is left. -/
def stick (A B k : Nat) : Nat := 2 * (A * 2 ^ k / B) + (if A * 2 ^ k % B = 0 then 0 else 1)

theorem stick_more {A B k t g x : Nat} (hB : 0 < B) (hq : 9007199254740992 ≤ A * 2 ^ k / B) : rung g (stick A B k * 2 ^ (x + t)) = rung g (stick A B (k + t) * 2 ^ x) := by
  unfold stick
  have eA : A * 2 ^ (k + t) = A * 2 ^ k * 2 ^ t := by rw [Nat.pow_add, Nat.mul_assoc]
  rw [eA]
  have hN := Nat.div_add_mod (A * 2 ^ k) B
  have hr := Nat.mod_lt (A * 2 ^ k) hB
  have hN2 := Nat.div_add_mod (A * 2 ^ k * 2 ^ t) B
  have hr2 := Nat.mod_lt (A * 2 ^ k * 2 ^ t) hB
  have ht := Nat.two_pow_pos t
  generalize A * 2 ^ k = N at *
  generalize N / B = Q at *
  generalize N % B = r at *
  generalize N * 2 ^ t % B = r2 at *
  -- how the finer quotient lies to the coarser one
  have l1 : Q * 2 ^ t ≤ N * 2 ^ t / B := by
    rw [Nat.le_div_iff_mul_le hB, ← hN]
    have : Q * 2 ^ t * B = B * Q * 2 ^ t := by grind
    rw [this]
    exact Nat.mul_le_mul_right _ (by omega)
  have l2 : N * 2 ^ t / B < (Q + 1) * 2 ^ t := by
    rw [Nat.div_lt_iff_lt_mul hB]
    have : (Q + 1) * 2 ^ t * B = (B * Q + B) * 2 ^ t := by grind
    rw [this, ← hN]
    exact Nat.mul_lt_mul_of_pos_right (by omega) ht
  have l3 : (r = 0) ↔ (r2 = 0 ∧ N * 2 ^ t / B = Q * 2 ^ t) := by
    constructor
    · intro h
      have e : N * 2 ^ t = B * (Q * 2 ^ t) := by rw [← hN, h]; grind
      have e2 : N * 2 ^ t / B = Q * 2 ^ t := by rw [e]; exact Nat.mul_div_cancel_left _ hB
      rw [e2, e] at hN2
      exact ⟨by omega, e2⟩
    · rintro ⟨h1, h2⟩
      rw [h1, h2, Nat.add_zero, ← hN] at hN2
      have : (B * Q) * 2 ^ t = (B * Q + r) * 2 ^ t := by rw [← hN2]; grind
      have := Nat.eq_of_mul_eq_mul_right ht this
      omega
  exact sticky_pair hq l1 l2 l3
theorem stick_scale (A B k c : Nat) : stick (A * 2 ^ c) (B * 2 ^ c) k = stick A B k := by
  have hc := Nat.two_pow_pos c
  unfold stick
  have e : A * 2 ^ c * 2 ^ k = A * 2 ^ k * 2 ^ c := by grind
  rw [e, Nat.mul_div_mul_right _ _ hc, Nat.mul_mod_mul_right]
  have i : A * 2 ^ k % B * 2 ^ c = 0 ↔ A * 2 ^ k % B = 0 := by
    rw [Nat.mul_eq_zero]; omega
  simp only [i]
theorem stick_up (A B k c : Nat) : stick (A * 2 ^ c) B k = stick A B (k + c) := by
  unfold stick
  have e : A * 2 ^ c * 2 ^ k = A * 2 ^ (k + c) := by rw [Nat.add_comm, Nat.pow_add, Nat.mul_assoc]
  rw [e]

end Go.Proofs.YtfhoimfjfbbhaaaDoor.Flo

/-
  Plain mathematics: what a sum lacks is a number, and so is what the sum is more than the greater one.
-/
namespace Go.Proofs.YtfhoimfjfbbhaaaDoor.Flo
set_option maxRecDepth 100000
open Go.Proofs.YtfhoimfjfbbhaaaDoor

def RepI (z : Int) : Prop := Rep z.natAbs
theorem RepI.neg {z : Int} (h : RepI z) : RepI (-z) := by unfold RepI; rw [Int.natAbs_neg]; exact h
theorem repI_mul {c : Int} {d : Nat} (h : c.natAbs ≤ 9007199254740992) (hv : (c * ((2 ^ d : Nat) : Int)).natAbs < 2 ^ TP) : RepI (c * ((2 ^ d : Nat) : Int)) := by
  unfold RepI
  rw [natAbs_scale] at hv ⊢
  exact rep_of h hv
theorem repI_M {r : Nat} (h : r < 9218868437227405312) : RepI (M r) := ⟨r, h, by simp⟩
theorem repI_sz {s : Bool} {r : Nat} (h : r < 9218868437227405312) : RepI (sz s (M r)) := by
  unfold sz; cases s
  · exact repI_M h
  · exact (repI_M h).neg

theorem pow_split {a b : Nat} (h : a ≤ b) : 2 ^ b = 2 ^ (b - a) * 2 ^ a := by rw [← Nat.pow_add]; congr 1; omega

/-- A multiple of P that is not greater than 2^53 times it. -/
theorem small_mul {c P : Int} (hP : 0 < P) (h : (c * P).natAbs ≤ 9007199254740992 * P.natAbs) : c.natAbs ≤ 9007199254740992 := by
  rw [Int.natAbs_mul] at h
  exact Nat.le_of_mul_le_mul_right h (by omega)

theorem fast2sum (r u : Nat) (hr : r < 9218868437227405312) (hu : u ≤ r) (neg : Bool) (V : Nat) (hV : (V : Int) = (M r : Int) + sz neg (M u)) (hfin : rung 0 V < 9218868437227405312) :
    RepI ((M (rung 0 V) : Int) - (M r : Int)) ∧ RepI (sz neg (M u) - ((M (rung 0 V) : Int) - (M r : Int))) := by
  have hS := M_rung hfin
  have hSt := M_lt hfin
  have hxt := M_lt hr
  obtain ⟨x1, x2, x3⟩ := M_parts r
  obtain ⟨y1, y2, y3⟩ := M_parts u
  have hjk := pl_mono hu
  obtain ⟨a1, a2, a3⟩ := lowest_spec 0 V
  obtain ⟨e, g1, g2, g3⟩ := rne_near V (lowest 0 V)
  have hBr : RepI (sz neg (M u)) := repI_sz (Nat.lt_of_le_of_lt hu hr)
  have hyx : M u ≤ M r := by
    rcases Nat.lt_or_ge (M r) (M u) with k | k
    · have := M_lt_iff.1 k; omega
    · exact k
  have hBx : (sz neg (M u)).natAbs = M u := by unfold sz; cases neg <;> simp
  obtain ⟨bq, hbq⟩ : ∃ c : Int, sz neg (M u) = c * ((2 ^ pl u : Nat) : Int) ∧ c.natAbs = pq u := by
    refine ⟨sz neg (pq u), ?_, by unfold sz; cases neg <;> simp⟩
    rw [y1]; unfold sz
    cases neg
    · simp
    · simp only [if_true]; push_cast; rw [Int.neg_mul]
  rw [hS] at hSt ⊢
  clear hS hfin
  generalize lowest 0 V = d at *
  generalize rne V d = q at *
  have hxI : (M r : Int) = (pq r : Int) * ((2 ^ pl r : Nat) : Int) := by rw [x1]; push_cast; rfl
  have hyI : M u < 9007199254740992 * 2 ^ pl u := by rw [y1]; exact Nat.mul_lt_mul_of_pos_right y2 (Nat.two_pow_pos _)
  have hxI2 : M r ≤ 9007199254740991 * 2 ^ pl r := by rw [x1]; exact Nat.mul_le_mul_right _ (by omega)
  generalize hB : sz neg (M u) = B at *
  generalize M r = x at *
  generalize M u = y at *
  generalize pq r = n at *
  generalize pl r = k at *
  generalize pl u = j at *
  have hSI : ((q * 2 ^ d : Nat) : Int) = (q : Int) * ((2 ^ d : Nat) : Int) := by push_cast; rfl
  rw [hSI]
  have hSt2 : ((q : Int) * ((2 ^ d : Nat) : Int)) < ((2 ^ TP : Nat) : Int) := by rw [← hSI]; omega
  have hSn : 0 ≤ ((q : Int) * ((2 ^ d : Nat) : Int)) := by rw [← hSI]; omega
  have pd := Nat.two_pow_pos d
  have pj := Nat.two_pow_pos j
  have pk := Nat.two_pow_pos k
  clear hSI hSt a1 x1 y1 hB
  rcases Nat.lt_or_ge j d with c1 | c1
  · -- something may fall out
    have hV52 := a3 (by omega)
    rcases Nat.lt_or_ge k d with c2 | c2
    · have hd : d = k + 1 := by
        rcases Nat.lt_or_ge (k + 1) d with c3 | c3
        · exfalso
          have h1 : 2 ^ (k + 54) ≤ 2 ^ (d + 52) := Nat.pow_le_pow_right (by decide) (by omega)
          have h2 : 2 ^ (k + 54) = 18014398509481984 * 2 ^ k := by rw [Nat.add_comm, Nat.pow_add]
          omega
        · omega
      subst hd
      have h2 : 2 ^ (k + 1 + 52) = 9007199254740992 * 2 ^ k := by rw [show k + 1 + 52 = 53 + k by omega, Nat.pow_add]
      have h3 : 2 ^ (k + 1) = 2 * 2 ^ k := Nat.pow_succ'
      have q1 : (q : Int) * ((2 ^ (k + 1) : Nat) : Int) = (2 * (q : Int)) * ((2 ^ k : Nat) : Int) := by rw [h3]; push_cast; grind
      have hjk2 : 2 ^ k = 2 ^ (k - j) * 2 ^ j := pow_split hjk
      have f1 : (q : Int) * ((2 ^ (k + 1) : Nat) : Int) - (x : Int) = (2 * (q : Int) - (n : Int)) * ((2 ^ k : Nat) : Int) := by rw [q1, hxI, Int.sub_mul]
      have f2 : B - ((q : Int) * ((2 ^ (k + 1) : Nat) : Int) - (x : Int)) = (bq - (2 * (q : Int) - (n : Int)) * ((2 ^ (k - j) : Nat) : Int)) * ((2 ^ j : Nat) : Int) := by
        rw [f1, hbq.1, hjk2, Int.sub_mul]; push_cast; grind
      constructor
      · have bd : ((q : Int) * ((2 ^ (k + 1) : Nat) : Int) - (x : Int)).natAbs ≤ 9007199254740992 * ((2 ^ k : Nat) : Int).natAbs := by
          simp only [Int.natAbs_natCast]
          omega
        have bt : ((q : Int) * ((2 ^ (k + 1) : Nat) : Int) - (x : Int)).natAbs < 2 ^ TP := by omega
        rw [f1] at bd bt ⊢
        exact repI_mul (small_mul (by omega) bd) bt
      · have bd : (B - ((q : Int) * ((2 ^ (k + 1) : Nat) : Int) - (x : Int))).natAbs ≤ y := by omega
        have bd2 : (B - ((q : Int) * ((2 ^ (k + 1) : Nat) : Int) - (x : Int))).natAbs ≤ 9007199254740992 * ((2 ^ j : Nat) : Int).natAbs := by
          simp only [Int.natAbs_natCast]
          omega
        have bt : (B - ((q : Int) * ((2 ^ (k + 1) : Nat) : Int) - (x : Int))).natAbs < 2 ^ TP := by omega
        rw [f2] at bd2 bt ⊢
        exact repI_mul (small_mul (by omega) bd2) bt
    · have hkd : 2 ^ k = 2 ^ (k - d) * 2 ^ d := pow_split c2
      have hdj : 2 ^ d = 2 ^ (d - j) * 2 ^ j := pow_split (by omega)
      have hx2 : (x : Int) = ((n : Int) * ((2 ^ (k - d) : Nat) : Int)) * ((2 ^ d : Nat) : Int) := by rw [hxI, hkd]; push_cast; grind
      have f1 : (q : Int) * ((2 ^ d : Nat) : Int) - (x : Int) = ((q : Int) - (n : Int) * ((2 ^ (k - d) : Nat) : Int)) * ((2 ^ d : Nat) : Int) := by rw [Int.sub_mul, ← hx2]
      have f2 : B - ((q : Int) * ((2 ^ d : Nat) : Int) - (x : Int)) = (bq - ((q : Int) - (n : Int) * ((2 ^ (k - d) : Nat) : Int)) * ((2 ^ (d - j) : Nat) : Int)) * ((2 ^ j : Nat) : Int) := by
        rw [f1, hbq.1]; rw [Int.sub_mul bq]
        congr 1
        rw [hdj]; push_cast; grind
      have nl := near_least (c := (n : Int) * ((2 ^ (k - d) : Nat) : Int)) (by omega) g1 g2 g3
      rw [← hx2] at nl
      have hd2 : 2 * 2 ^ j ≤ 2 ^ d := by rw [← Nat.pow_succ']; exact Nat.pow_le_pow_right (by decide) c1
      constructor
      · have bd : ((q : Int) * ((2 ^ d : Nat) : Int) - (x : Int)).natAbs ≤ 9007199254740992 * ((2 ^ d : Nat) : Int).natAbs := by
          simp only [Int.natAbs_natCast]
          omega
        have bt : ((q : Int) * ((2 ^ d : Nat) : Int) - (x : Int)).natAbs < 2 ^ TP := by omega
        rw [f1] at bd bt ⊢
        exact repI_mul (small_mul (by omega) bd) bt
      · have bd : (B - ((q : Int) * ((2 ^ d : Nat) : Int) - (x : Int))).natAbs ≤ y := by omega
        have bd2 : (B - ((q : Int) * ((2 ^ d : Nat) : Int) - (x : Int))).natAbs ≤ 9007199254740992 * ((2 ^ j : Nat) : Int).natAbs := by
          simp only [Int.natAbs_natCast]
          omega
        have bt : (B - ((q : Int) * ((2 ^ d : Nat) : Int) - (x : Int))).natAbs < 2 ^ TP := by omega
        rw [f2] at bd2 bt ⊢
        exact repI_mul (small_mul (by omega) bd2) bt
  · -- nothing falls out
    have hkd : 2 ^ k = 2 ^ (k - d) * 2 ^ d := pow_split (by omega)
    have hjd : 2 ^ j = 2 ^ (j - d) * 2 ^ d := pow_split c1
    have hx2 : (x : Int) = ((n : Int) * ((2 ^ (k - d) : Nat) : Int)) * ((2 ^ d : Nat) : Int) := by rw [hxI, hkd]; push_cast; grind
    have hB2 : B = (bq * ((2 ^ (j - d) : Nat) : Int)) * ((2 ^ d : Nat) : Int) := by rw [hbq.1, hjd]; push_cast; grind
    have nl := near_least (c := (n : Int) * ((2 ^ (k - d) : Nat) : Int) + bq * ((2 ^ (j - d) : Nat) : Int)) (by omega) g1 g2 g3
    rw [Int.add_mul, ← hx2, ← hB2] at nl
    have he : e = 0 := by omega
    have hSx : (q : Int) * ((2 ^ d : Nat) : Int) - (x : Int) = B := by omega
    rw [hSx]
    refine ⟨hBr, ?_⟩
    rw [Int.sub_self]
    exact rep_zero

theorem SV_word {s : Bool} {r : Nat} (h : r ≤ 9218868437227405312) : SV (sgn s + (r : Int)) = sz s (M r) ∧ mag (sgn s + (r : Int)) = (r : Int) ∧ belowB (sgn s + (r : Int)) = s := by
  have h1 : mag (sgn s + (r : Int)) = (r : Int) := by
    unfold mag sgn; cases s
    · simp only [Bool.false_eq_true, if_false]; rw [if_neg (by omega)]; omega
    · simp only [if_true]; rw [if_pos (by omega)]; omega
  have h2 : belowB (sgn s + (r : Int)) = s := by
    unfold belowB sgn; cases s
    · simp only [Bool.false_eq_true, if_false]; exact decide_eq_false (by omega)
    · simp only [if_true]; exact decide_eq_true (by omega)
  refine ⟨?_, h1, h2⟩
  unfold SV MZ
  rw [h1, h2, Int.toNat_natCast]
theorem sz_self (T : Int) : sz (decide (T < 0)) T.natAbs = T := by
  unfold sz
  by_cases h : T < 0
  · rw [decide_eq_true h, if_pos rfl]; omega
  · rw [decide_eq_false h]; simp; omega
theorem sz_nought (s : Bool) : sz s 0 = 0 := by unfold sz; cases s <;> simp
/-- What is made of a sum that is a number. -/
theorem SV_near (z : Bool) {T : Int} (h : RepI T) : SV (nearZ z T) = T ∧ mag (nearZ z T) < 9218868437227405312 := by
  obtain ⟨h1, h2⟩ := Rep.rung h
  unfold nearZ
  by_cases c : T = 0
  · rw [if_pos c]
    obtain ⟨w1, w2, w3⟩ := SV_word (s := z) (r := 0) (by omega)
    rw [show sgn z + ((0 : Nat) : Int) = sgn z by omega, M_zero] at w1
    rw [show sgn z + ((0 : Nat) : Int) = sgn z by omega] at w2
    rw [w1, w2, sz_nought, c]
    exact ⟨rfl, by decide⟩
  · rw [if_neg c]
    obtain ⟨w1, w2, w3⟩ := SV_word (s := decide (T < 0)) (r := rung 0 T.natAbs) (by omega)
    rw [w1, w2, h2, sz_self]
    exact ⟨rfl, by omega⟩
/-- What is made of any sum. -/
theorem SV_near2 (z : Bool) (T : Int) : SV (nearZ z T) = sz (decide (T < 0)) (M (rung 0 T.natAbs)) ∧ mag (nearZ z T) = (rung 0 T.natAbs : Nat) := by
  unfold nearZ
  by_cases c : T = 0
  · subst c
    rw [if_pos rfl]
    obtain ⟨w1, w2, w3⟩ := SV_word (s := z) (r := 0) (by omega)
    rw [show sgn z + ((0 : Nat) : Int) = sgn z by omega, M_zero] at w1
    rw [show sgn z + ((0 : Nat) : Int) = sgn z by omega] at w2
    rw [w1, w2, sz_nought, Int.natAbs_zero, rung_tiny (by simp), M_zero, sz_nought]
    exact ⟨rfl, rfl⟩
  · rw [if_neg c]
    obtain ⟨w1, w2, w3⟩ := SV_word (s := decide (T < 0)) (r := rung 0 T.natAbs) (rung_le _ _)
    exact ⟨w1, w2⟩

end Go.Proofs.YtfhoimfjfbbhaaaDoor.Flo

/-
  The walks of layer 2: what Add, Sub, Mul answer.
-/
namespace Go.Proofs.YtfhoimfjfbbhaaaDoor
set_option maxRecDepth 100000
open Go.RowKit Flo

theorem nearZ_u64 (z : Bool) (T : Int) : U64 (nearZ z T) := by
  have h := rung_le 0 T.natAbs
  unfold nearZ sgn U64
  split
  · cases z <;> simp
  · cases decide (T < 0) <;> simp <;> omega
theorem addZ_u64 {a b : Int} (ha : U64 a) (hb : U64 b) : U64 (addZ a b) := by
  unfold addZ
  split
  · exact ⟨by decide, by decide⟩
  · split
    · exact ha
    · split
      · exact hb
      · exact nearZ_u64 _ _
theorem mulZ_u64 (a b : Int) : U64 (mulZ a b) := by
  have h := rung_le 1074 (MZ a * MZ b)
  generalize hr : rung 1074 (MZ a * MZ b) = r at h
  unfold mulZ U64 sgn
  rw [hr]
  split
  · decide
  · split
    · cases belowB a ^^ belowB b <;> decide
    · cases belowB a ^^ belowB b <;> simp <;> omega

theorem nearZ_nan (z : Bool) (T : Int) : nanB (nearZ z T) = false := by
  have h := rung_le 0 T.natAbs
  unfold nearZ sgn nanB mag
  generalize rung 0 T.natAbs = r at *
  split
  · cases z <;> decide
  · cases decide (T < 0)
    · simp; split <;> omega
    · simp; split <;> omega
theorem addZ_canon {a b : Int} (_ha : U64 a) (_hb : U64 b) : canonZ (addZ a b) = addZ a b := by
  unfold canonZ
  by_cases h : addBad a b = true
  · have : addZ a b = 9221120237041090560 := by unfold addZ; rw [if_pos h]
    rw [this]; simp
  · have h' : addBad a b = false := by simpa using h
    have : nanB (addZ a b) = false := by
      unfold addZ
      rw [h']
      simp only [Bool.false_eq_true, if_false]
      unfold addBad at h'
      simp only [Bool.or_eq_false_iff] at h'
      split
      · exact h'.1
      · split
        · exact h'.2.1
        · exact nearZ_nan _ _
    rw [this]; simp
theorem mulZ_canon (a b : Int) : canonZ (mulZ a b) = mulZ a b := by
  unfold canonZ
  by_cases h : mulBad a b = true
  · have : mulZ a b = 9221120237041090560 := by unfold mulZ; rw [if_pos h]
    rw [this]; simp
  · have h' : mulBad a b = false := by simpa using h
    have : nanB (mulZ a b) = false := by
      have hr := rung_le 1074 (MZ a * MZ b)
      unfold mulZ
      rw [h']
      generalize rung 1074 (MZ a * MZ b) = r at *
      simp only [Bool.false_eq_true, if_false]
      unfold sgn nanB mag
      split
      · cases belowB a ^^ belowB b <;> decide
      · cases belowB a ^^ belowB b
        · simp; split <;> omega
        · simp; split <;> omega
    rw [this]; simp

/-- An operation without an answer gives some NaN. -/
theorem float_none (op : BinOp) (x y : Nat) (w : World) (ho : op = .add ∨ op = .sub ∨ op = .mul ∨ op = .quo) (h : floatBits op .f64 x y = none) :
    ∃ n : Nat, n < 18446744073709551616 ∧ canonZ n = 9221120237041090560 ∧ ∀ t, (binOp op t (.float .f64 x) (.float .f64 y)).run Tryd.prog w = .ok (.float .f64 n) w.drew := by
  refine ⟨(Question.nanBits .f64 x y).cut (w.tape w.drawn (.nanBits .f64 x y)), ?_, ?_, ?_⟩
  · simp only [Question.cut]; omega
  · have : nanB (((Question.nanBits .f64 x y).cut (w.tape w.drawn (.nanBits .f64 x y)) : Nat) : Int) = true := by
      simp only [Question.cut]
      generalize w.tape w.drawn (.nanBits .f64 x y) = t
      unfold nanB mag
      rw [decide_eq_true_eq]
      split <;> omega
    unfold canonZ
    rw [this]; rfl
  · intro t
    have hq : (Question.nanBits .f64 x y).forced = false := rfl
    unfold floatBits at h
    rcases ho with rfl | rfl | rfl | rfl <;> simp only at h <;> simp [binOp, Op.floatArith, h, hq]

theorem float_op (op : BinOp) (x y : Nat) (r : Int) (w : World) (ho : op = .add ∨ op = .sub ∨ op = .mul ∨ op = .quo) (hr : U64 r) (hc : canonZ r = r)
    (h : floatBits op .f64 x y = some r.toNat ∨ (floatBits op .f64 x y = none ∧ r = 9221120237041090560)) :
    ∃ (n : Nat) (w' : World), n < 18446744073709551616 ∧ canonZ n = r ∧ Below w.heap.size w w' ∧ ∀ t, (binOp op t (.float .f64 x) (.float .f64 y)).run Tryd.prog w = .ok (.float .f64 n) w' := by
  rcases h with h | ⟨h, rfl⟩
  · refine ⟨r.toNat, w, u64_toNat hr, ?_, Below.refl _ _, fun t => run_float_arith w op t .f64 x y _ h⟩
    rw [show ((r.toNat : Nat) : Int) = r by have := hr.1; omega]
    exact hc
  · obtain ⟨n, h1, h2, h3⟩ := float_none op x y w ho h
    exact ⟨n, w.drew, h1, h2, (Below.refl _ _).drew, h3⟩

def subZ (a b : Int) : Int := addZ a (negZ b)
theorem lives_add : addZ 4591870180066957722 4596373779694328218 = 4599075939470750516 := by decide +kernel
theorem lives_mul : mulZ 0 13830554455654793216 = 9223372036854775808 := by decide +kernel

end Go.Proofs.YtfhoimfjfbbhaaaDoor
