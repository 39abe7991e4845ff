/-
  DigMake, SumMath, SumWalk, FloLives, FloRef, FloRef2
-/
import Derived.Laws.FloatArith
import Derived.Deep.Light
import Derived.Test.YthmocdabakkfhaaGreatDoorZ05

/-
  The reference's Round and Make, by the rung of what they are given.
-/
namespace Go.Proofs.YthmocdabakkfhaaGreatDoor
set_option maxRecDepth 100000
open Go.RowKit Dg Flo

theorem blen_ge {N : Nat} (h : N ≠ 0) : 2 ^ blen N ≤ 2 * N := by
  unfold blen
  rw [if_neg h, Nat.pow_succ']
  have := Nat.log2_self_le h
  omega
theorem blen_up {N : Nat} : 2 * N < 2 ^ (blen N + 1) := by
  have := blen_lt N
  rw [Nat.pow_succ']
  omega
theorem blen_le {N k : Nat} (h : N < 2 ^ k) : blen N ≤ k := by
  unfold blen
  split
  · omega
  · rename_i hn
    have := (Nat.log2_lt hn).2 h
    omega

/-- Round, at any number of digits. -/
theorem round_any (v : Value) (N l g : Nat) (exp : Int) (more neg : Bool) (w : World) (hD : D w v N l) (hl : l ≤ 1048576) (e1 : -16777216 ≤ exp) (e2 : exp ≤ 16777216) (hg : 0 ≤ exp + 1073 + g) (hm : more = true → 9007199254740992 ≤ N) :
    Calls Tryz.prog 70 #[.bool neg, .int .i64 exp, v, .bool more] w fun e w' => e = .returned (.int .u64 (sgn neg + (rung g ((2 * N + more.toNat) * 2 ^ (exp + 1073 + g).toNat) : Nat))) ∧ Below w.heap.size w w' := by
  have hmn : more.toNat ≤ 1 := by cases more <;> simp
  have hn2 : blen N ≤ 16777216 := by
    have := hD.lt
    rw [pow16] at this
    have := blen_le this
    omega
  by_cases h0 : N = 0
  · have hf : more = false := by
      cases more
      · rfl
      · have := hm rfl; omega
    subst h0
    subst hf
    refine (round_low v 0 l 0 exp false neg w hD hl rfl (by omega) e1 e2 (Or.inl ⟨rfl, rfl⟩)).mono ?_
    rintro e w' ⟨rfl, rfl⟩
    refine ⟨ret_u64 ?_, Below.refl _ _⟩
    rw [rung_tiny (by simp)]
    simp
  · have b1 := blen_ge h0
    have b2 := blen_up (N := N)
    have hn0 : blen N ≠ 0 := by unfold blen; rw [if_neg h0]; omega
    obtain ⟨E, hE⟩ := Int.eq_ofNat_of_zero_le hg
    have hm54 : more = true → 54 ≤ blen N := by
      intro h
      have h1 := hm h
      rcases Nat.lt_or_ge (blen N) 54 with k | k
      · have h2 := blen_lt N
        have h3 : 2 ^ blen N ≤ 2 ^ 53 := Nat.pow_le_pow_right (by decide) (by omega)
        omega
      · exact k
    by_cases c1 : (blen N : Int) + exp < -1100
    · refine (round_low v N l (blen N) exp more neg w hD hl rfl hn2 e1 e2 (Or.inr c1)).mono ?_
      rintro e w' ⟨rfl, rfl⟩
      refine ⟨ret_u64 ?_, Below.refl _ _⟩
      rw [rung_tiny]
      · simp
      · rw [hE, Int.toNat_natCast]
        have h2 : 2 * N + more.toNat < 2 ^ (blen N + 1) := by
          have : 2 ^ (blen N + 1) = 2 * 2 ^ blen N := Nat.pow_succ'
          omega
        have h3 := scaled_lt (E := E) h2
        have h4 : 2 * 2 ^ (blen N + 1 + E) ≤ 2 ^ g := by
          rw [← Nat.pow_succ']; exact Nat.pow_le_pow_right (by decide) (by omega)
        omega
    · by_cases c2 : 1100 < (blen N : Int) + exp
      · refine (round_high v N l (blen N) exp more neg w hD hl rfl hn2 e1 e2 hn0 c2).mono ?_
        rintro e w' ⟨rfl, rfl⟩
        refine ⟨ret_u64 ?_, Below.refl _ _⟩
        rw [rung_huge]
        · rfl
        · rw [hE, Int.toNat_natCast]
          have h2 : 2 ^ blen N ≤ 2 * N + more.toNat := by omega
          exact Nat.le_trans (Nat.pow_le_pow_right (by decide) (by omega)) (scaled_ge (E := E) h2)
      · obtain ⟨r1, r2, r3, r4⟩ := round_rung N (blen N) g exp (max ((blen N : Int) - 53) (-1074 - exp)) more b1 b2 rfl hg hm54
        refine round_main v N l (blen N) _ _ _ _ _ exp _ more neg _ (decide (N % 2 ^ (max ((blen N : Int) - 53) (-1074 - exp) - 2).toNat ≠ 0)) w hD hl rfl hn2 e1 e2 hn0 (by omega) (by omega) rfl (fun _ => rfl) ?_ rfl r4 rfl rfl rfl r2 r3 r1
        unfold rLost
        rfl

/-- What the reference makes is what the program makes. -/
theorem make_same (exp : Int) (N : Nat) (hN : N < 36893488147419103232) :
    rung (G + 3700) (2 * N * 2 ^ (min (max exp (-5000)) 5000 - 1 + 1073 + (G + 3700 : Nat)).toNat) = rung G (N * 2 ^ (min (max exp (-1200)) 1100 + 1073 + G).toNat) := by
  have hg := G_eq
  have e0 : 2 * N * 2 ^ (min (max exp (-5000)) 5000 - 1 + 1073 + (G + 3700 : Nat)).toNat = N * 2 ^ (min (max exp (-5000)) 5000 + 1073 + (G + 3700 : Nat)).toNat := by
    rw [show (min (max exp (-5000)) 5000 + 1073 + ((G + 3700 : Nat) : Int)).toNat = (min (max exp (-5000)) 5000 - 1 + 1073 + ((G + 3700 : Nat) : Int)).toNat + 1 by omega, Nat.pow_succ]
    grind
  rw [e0]
  by_cases c1 : exp < -1200
  · rw [rung_tiny, rung_tiny]
    · obtain ⟨k, hk⟩ : ∃ k, (min (max exp (-1200)) 1100 + 1073 + (G : Int)).toNat = k := ⟨_, rfl⟩
      rw [hk]
      have h1 := scaled_lt (n := N) (L := 65) (E := k) (by omega)
      have h2 : 2 * 2 ^ (65 + k) ≤ 2 ^ G := by rw [← Nat.pow_succ']; exact Nat.pow_le_pow_right (by decide) (by omega)
      omega
    · obtain ⟨k, hk⟩ : ∃ k, (min (max exp (-5000)) 5000 + 1073 + ((G + 3700 : Nat) : Int)).toNat = k := ⟨_, rfl⟩
      rw [hk]
      have h1 := scaled_lt (n := N) (L := 65) (E := k) (by omega)
      have h2 : 2 * 2 ^ (65 + k) ≤ 2 ^ (G + 3700) := by rw [← Nat.pow_succ']; exact Nat.pow_le_pow_right (by decide) (by omega)
      omega
  · by_cases c2 : exp ≤ 1100
    · have e1 : (min (max exp (-5000)) 5000 + 1073 + ((G + 3700 : Nat) : Int)).toNat = (min (max exp (-1200)) 1100 + 1073 + (G : Int)).toNat + 3700 := by omega
      rw [e1, Nat.pow_add, ← Nat.mul_assoc, rung_scale]
    · by_cases h0 : N = 0
      · subst h0
        rw [Nat.zero_mul, Nat.zero_mul, rung_tiny (by simp), rung_tiny (by simp)]
      · rw [rung_huge, rung_huge]
        · exact Nat.le_trans (Nat.pow_le_pow_right (by decide) (by omega)) (Nat.le_mul_of_pos_left _ (by omega))
        · exact Nat.le_trans (Nat.pow_le_pow_right (by decide) (by omega)) (Nat.le_mul_of_pos_left _ (by omega))

end Go.Proofs.YthmocdabakkfhaaGreatDoor

/-
  Plain mathematics: the nearest word of IEEE 754 is the nearest rung; sums and products of words.
-/
namespace Go.Proofs.YthmocdabakkfhaaGreatDoor.Flo
set_option maxRecDepth 100000
open Go.Proofs.YthmocdabakkfhaaGreatDoor

theorem even_cut (neg : Bool) (n d : Nat) : Ieee.Toward.even.cut neg n d = rne n d := by
  unfold Ieee.Toward.cut
  simp only [Nat.one_shiftLeft]
  have key : ∀ G : Nat, (decide (G < 2 * (n % G)) || (G == 2 * (n % G) && n / G % 2 == 1)).toNat = if G < 2 * (n % G) ∨ (G = 2 * (n % G) ∧ n / G % 2 = 1) then 1 else 0 := by
    intro G
    by_cases c1 : G < 2 * (n % G)
    · simp [c1]
    · by_cases c2 : G = 2 * (n % G)
      · by_cases c3 : n / G % 2 = 1
        · rw [if_pos (Or.inr ⟨c2, c3⟩)]
          have : (G == 2 * (n % G)) = true := beq_iff_eq.2 c2
          rw [this]
          simp [c3]
        · rw [if_neg (by omega)]
          have : (n / G % 2 == 1) = false := beq_eq_false_iff_ne.2 c3
          rw [this]
          simp only [Bool.and_false, Bool.or_false]
          simp [c1]
      · rw [if_neg (by omega)]
        have : (G == 2 * (n % G)) = false := beq_eq_false_iff_ne.2 c2
        rw [this]
        simp [c1]
  rcases Nat.lt_or_ge (n.log2 + 2) d with h | h
  · rw [Nat.min_eq_right (by omega), key]
    have hn : n < 2 ^ (n.log2 + 1) := Nat.lt_log2_self
    have e : 2 ^ (n.log2 + 2) = 2 * 2 ^ (n.log2 + 1) := Nat.pow_succ'
    have e2 : 2 ^ (n.log2 + 2) < 2 ^ d := Nat.pow_lt_pow_right (by decide) h
    rw [rne_small (by omega), Nat.div_eq_of_lt (by omega), Nat.mod_eq_of_lt (by omega), if_neg (by omega)]
  · rw [Nat.min_eq_left h, key]
    rfl

theorem rne_zero (v : Nat) : rne v 0 = v := by
  have := rne_exact v 0
  simpa using this

theorem word_sgn (neg : Bool) (r : Nat) : ((Ieee.double.word neg r : Nat) : Int) = sgn neg + (r : Int) := by
  have e1 : Ieee.double.signWeight = 9223372036854775808 := by decide
  unfold Ieee.Format.word sgn
  rw [e1]
  cases neg <;> simp

theorem nearest_rung (neg : Bool) (m : Nat) (p : Int) (g : Nat) (hg : 0 ≤ p + 1074 + g) :
    ((Ieee.double.nearest neg m p : Nat) : Int) = sgn neg + (rung g (m * 2 ^ (p + 1074 + g).toNat) : Nat) := by
  have e2 : Ieee.double.binade = 4503599627370496 := by decide
  have e3 : Ieee.double.infRung = 9218868437227405312 := by decide
  have e4 : Ieee.double.leastPlace = -1074 := by decide
  have e5 : Ieee.double.fractionBits = 52 := by decide
  unfold Ieee.Format.nearest
  by_cases h0 : m = 0
  · subst h0
    rw [if_pos rfl, word_sgn, Nat.zero_mul, rung_tiny (by simp)]
  · rw [if_neg h0]
    simp only [e2, e3, e4, e5]
    rw [word_sgn, even_cut, Nat.shiftLeft_eq]
    have b1 : 2 ^ m.log2 ≤ m := Nat.log2_self_le h0
    have b2 : m < 2 ^ (m.log2 + 1) := Nat.lt_log2_self
    generalize m.log2 = L at *
    obtain ⟨E, hE⟩ := Int.eq_ofNat_of_zero_le hg
    rw [hE, Int.toNat_natCast]
    refine congrArg (fun r : Nat => sgn neg + (r : Int)) ?_
    rcases Int.lt_or_le (p + L - 52) (-1074) with c | c
    · rw [show max (p + (L : Int) - ((52 : Nat) : Int)) (-1074) = -1074 by omega]
      rcases Nat.lt_or_ge E g with c2 | c2
      · rw [rung_b1 b2 (by omega) (by omega), show (p - -1074).toNat = 0 by omega, show (-1074 - p).toNat = g - E by omega]
        simp
      · rw [rung_b0 b2 (by omega) (by omega), show (p - -1074).toNat = E - g by omega, show (-1074 - p).toNat = 0 by omega, rne_zero]
        simp
    · rw [show max (p + (L : Int) - ((52 : Nat) : Int)) (-1074) = p + L - 52 by omega]
      rw [show (p + (L : Int) - 52 - -1074).toNat = L + 1 + E - 53 - g by omega]
      rcases Nat.lt_or_ge L 53 with c2 | c2
      · rw [rung_a0 b1 b2 (by omega) (by omega), show (p - (p + (L : Int) - 52)).toNat = 53 - (L + 1) by omega, show (p + (L : Int) - 52 - p).toNat = 0 by omega, rne_zero]
      · rw [rung_a1 b1 b2 (by omega) (by omega), show (p - (p + (L : Int) - 52)).toNat = 0 by omega, show (p + (L : Int) - 52 - p).toNat = L + 1 - 53 by omega]
        simp

/-- What a word stands for, in units of the least number. -/
def MZ (a : Int) : Nat := M (mag a).toNat
def SV (a : Int) : Int := sz (belowB a) (MZ a)
def infB (a : Int) : Bool := decide (mag a = 9218868437227405312)
/-- The number nearest to T units; a nought of the sign z. -/
def nearZ (z : Bool) (T : Int) : Int := if T = 0 then sgn z else sgn (decide (T < 0)) + (rung 0 T.natAbs : Nat)
def addBad (a b : Int) : Bool := nanB a || (nanB b || (infB a && (infB b && (belowB a ^^ belowB b))))
def addZ (a b : Int) : Int := if addBad a b then 9221120237041090560 else if infB a then a else if infB b then b else nearZ (belowB a && belowB b) (SV a + SV b)
def mulBad (a b : Int) : Bool := nanB a || (nanB b || ((infB a && decide (mag b = 0)) || (decide (mag a = 0) && infB b)))
def mulZ (a b : Int) : Int := if mulBad a b then 9221120237041090560 else if infB a || infB b then sgn (belowB a ^^ belowB b) + 9218868437227405312 else sgn (belowB a ^^ belowB b) + (rung 1074 (MZ a * MZ b) : Nat)

theorem words {a : Int} (h : U64 a) : (a.toNat / 9223372036854775808 % 2 == 1) = belowB a ∧ a.toNat % 9223372036854775808 = (mag a).toNat := by
  obtain ⟨h0, h1⟩ := h
  unfold belowB mag
  constructor
  · rw [Bool.eq_iff_iff, decide_eq_true_eq, beq_iff_eq]; omega
  · split <;> omega
theorem mag_range {a : Int} (h : U64 a) : 0 ≤ mag a ∧ mag a < 9223372036854775808 := by
  obtain ⟨h0, h1⟩ := h
  unfold mag
  split <;> omega
theorem read_fin {a : Int} (h : U64 a) (hm : mag a < 9218868437227405312) : ∃ m p, 0 ≤ p + 1074 ∧ m * 2 ^ (p + 1074).toNat = MZ a ∧ Ieee.double.read a.toNat = .number (belowB a) m p := by
  obtain ⟨w1, w2⟩ := words h
  have := mag_range h
  obtain ⟨m, p, h1, h2, h3⟩ := read_number a.toNat (by omega)
  rw [w1] at h3
  rw [w2] at h2
  exact ⟨m, p, h1, h2, h3⟩
theorem read_infZ {a : Int} (h : U64 a) (hm : mag a = 9218868437227405312) : Ieee.double.read a.toNat = .infinity (belowB a) := by
  obtain ⟨w1, w2⟩ := words h
  rw [← w1]
  exact read_inf a.toNat (by omega)
theorem read_nanZ {a : Int} (h : U64 a) (hm : 9218868437227405312 < mag a) : ∃ f, Ieee.double.read a.toNat = .nan (belowB a) f := by
  obtain ⟨w1, w2⟩ := words h
  rw [← w1]
  exact read_nan a.toNat (by omega)

theorem natAbs_scale (x : Int) (c : Nat) : (x * (c : Int)).natAbs = x.natAbs * c := by rw [Int.natAbs_mul, Int.natAbs_natCast]

theorem sum_numbers (s t : Bool) (m n : Nat) (i j : Int) (hi : 0 ≤ i + 1074) (hj : 0 ≤ j + 1074) :
    ∃ r : Nat, ((Ieee.Datum.number s m i).sum (.number t n j)).map Ieee.double.write = some r ∧ (r : Int) = nearZ (s && t) (sz s (m * 2 ^ (i + 1074).toNat) + sz t (n * 2 ^ (j + 1074).toNat)) := by
  simp only [Ieee.Datum.sum, Option.map_some, Ieee.Format.write]
  refine ⟨_, rfl, ?_⟩
  generalize hb : min i j = b
  have hb0 : 0 ≤ b + 1074 := by omega
  have hT : (Ieee.signed s m (i - b).toNat + Ieee.signed t n (j - b).toNat) * ((2 ^ (b + 1074).toNat : Nat) : Int) = sz s (m * 2 ^ (i + 1074).toNat) + sz t (n * 2 ^ (j + 1074).toNat) := by
    rw [Int.add_mul, signed_scale, signed_scale]
    rw [show (i - b).toNat + (b + 1074).toNat = (i + 1074).toNat by omega, show (j - b).toNat + (b + 1074).toNat = (j + 1074).toNat by omega]
  rw [← hT, nearest_rung _ _ _ 0 (by omega)]
  generalize Ieee.signed s m (i - b).toNat + Ieee.signed t n (j - b).toNat = x
  have hc : 0 < 2 ^ (b + 1074).toNat := Nat.two_pow_pos _
  rw [show (b + 1074 + ((0 : Nat) : Int)) = b + 1074 by omega]
  generalize 2 ^ (b + 1074).toNat = c at *
  unfold nearZ
  rw [natAbs_scale]
  by_cases h0 : x = 0
  · subst h0
    simp [rung_tiny]
  · have hx : ¬ x * (c : Int) = 0 := by
      intro k
      rcases Int.mul_eq_zero.1 k with k | k <;> omega
    have hs : (x * (c : Int) < 0) ↔ x < 0 := by
      constructor
      · intro k
        rcases Int.lt_or_le x 0 with q | q
        · exact q
        · have := Int.mul_nonneg q (show (0 : Int) ≤ (c : Int) by omega); omega
      · intro k; exact Int.mul_neg_of_neg_of_pos k (by omega)
    rw [if_neg hx, if_neg h0]
    simp only [hs]

theorem kindsZ (a : Int) : mag a < 9218868437227405312 ∨ mag a = 9218868437227405312 ∨ 9218868437227405312 < mag a := by omega
theorem fin_nan {a : Int} (h : mag a < 9218868437227405312) : nanB a = false := decide_eq_false (by omega)
theorem fin_inf {a : Int} (h : mag a < 9218868437227405312) : infB a = false := decide_eq_false (by omega)
theorem inf_nan {a : Int} (h : mag a = 9218868437227405312) : nanB a = false := decide_eq_false (by omega)
theorem inf_inf {a : Int} (h : mag a = 9218868437227405312) : infB a = true := decide_eq_true h
theorem nan_nan {a : Int} (h : 9218868437227405312 < mag a) : nanB a = true := decide_eq_true h
theorem inf_word {a : Int} (h : U64 a) (hm : mag a = 9218868437227405312) : a = sgn (belowB a) + 9218868437227405312 := by
  obtain ⟨h0, h1⟩ := h
  unfold belowB sgn
  unfold mag at hm
  by_cases c : 9223372036854775808 ≤ a
  · rw [if_pos c] at hm; rw [decide_eq_true c, if_pos rfl]; omega
  · rw [if_neg c] at hm; rw [decide_eq_false c]; simp; omega
theorem write_inf (s : Bool) : ((Ieee.double.write (.infinity s) : Nat) : Int) = sgn s + 9218868437227405312 := by
  have e3 : Ieee.double.infRung = 9218868437227405312 := by decide
  show ((Ieee.double.word s Ieee.double.infRung : Nat) : Int) = _
  rw [e3, word_sgn]
  rfl

theorem add_some {a b : Int} (ha : U64 a) (hb : U64 b) (h : addBad a b = false) : floatBits .add .f64 a.toNat b.toNat = some (addZ a b).toNat := by
  show Ieee.double.add a.toNat b.toNat = _
  unfold addZ
  rw [h]
  simp only [Bool.false_eq_true, if_false]
  unfold Ieee.Format.add
  unfold addBad at h
  rcases kindsZ a with ka | ka | ka
  · obtain ⟨m, i, hi, em, ex⟩ := read_fin ha ka
    rcases kindsZ b with kb | kb | kb
    · obtain ⟨n, j, hj, en, ey⟩ := read_fin hb kb
      obtain ⟨r, h1, h2⟩ := sum_numbers (belowB a) (belowB b) m n i j hi hj
      rw [ex, ey, h1, fin_inf ka, fin_inf kb]
      simp only [Bool.false_eq_true, if_false]
      rw [em, en] at h2
      have : nearZ (belowB a && belowB b) (SV a + SV b) = (r : Int) := h2.symm
      rw [this, Int.toNat_natCast]
    · rw [ex, read_infZ hb kb, fin_inf ka, inf_inf kb]
      simp only [Bool.false_eq_true, if_false, if_true, Ieee.Datum.sum, Option.map_some, Option.some.injEq]
      have := write_inf (belowB b)
      rw [← inf_word hb kb] at this
      omega
    · rw [nan_nan kb] at h; simp at h
  · rw [read_infZ ha ka, inf_inf ka]
    simp only [if_true]
    have hw := write_inf (belowB a)
    rw [← inf_word ha ka] at hw
    rcases kindsZ b with kb | kb | kb
    · obtain ⟨n, j, hj, en, ey⟩ := read_fin hb kb
      rw [ey]
      simp only [Ieee.Datum.sum, Option.map_some, Option.some.injEq]
      omega
    · rw [inf_inf ka, inf_inf kb, inf_nan ka, inf_nan kb] at h
      simp only [Bool.false_or, Bool.true_and] at h
      have hs : belowB a = belowB b := by revert h; cases belowB a <;> cases belowB b <;> simp
      rw [read_infZ hb kb]
      simp only [Ieee.Datum.sum, hs, if_true, Option.map_some, Option.some.injEq]
      rw [← hs]
      omega
    · rw [nan_nan kb] at h; simp at h
  · rw [nan_nan ka] at h; simp at h

theorem add_none {a b : Int} (ha : U64 a) (hb : U64 b) (h : addBad a b = true) : floatBits .add .f64 a.toNat b.toNat = none := by
  show Ieee.double.add a.toNat b.toNat = _
  unfold Ieee.Format.add
  unfold addBad at h
  rcases kindsZ a with ka | ka | ka
  · obtain ⟨m, i, hi, em, ex⟩ := read_fin ha ka
    rcases kindsZ b with kb | kb | kb
    · rw [fin_nan ka, fin_nan kb, fin_inf ka] at h; simp at h
    · rw [fin_nan ka, inf_nan kb, fin_inf ka] at h; simp at h
    · obtain ⟨f, ey⟩ := read_nanZ hb kb
      rw [ex, ey]; rfl
  · rw [read_infZ ha ka]
    rcases kindsZ b with kb | kb | kb
    · rw [inf_nan ka, fin_nan kb, fin_inf kb] at h; simp at h
    · rw [inf_inf ka, inf_inf kb, inf_nan ka, inf_nan kb] at h
      simp only [Bool.false_or, Bool.true_and] at h
      have hs : belowB a ≠ belowB b := by revert h; cases belowB a <;> cases belowB b <;> simp
      rw [read_infZ hb kb]
      simp only [Ieee.Datum.sum, hs, if_false, Option.map_none]
    · obtain ⟨f, ey⟩ := read_nanZ hb kb
      rw [ey]; rfl
  · obtain ⟨f, ex⟩ := read_nanZ ha ka
    rw [ex]; rfl

theorem neg_parts {b : Int} (h : U64 b) (hn : nanB b = false) : mag (negZ b) = mag b ∧ belowB (negZ b) = !belowB b := by
  obtain ⟨h0, h1⟩ := h
  unfold nanB at hn
  unfold negZ nanB
  rw [hn]
  simp only [Bool.false_eq_true, if_false]
  by_cases c : 9223372036854775808 ≤ b
  · rw [if_pos c]
    unfold mag belowB
    rw [if_pos c, if_neg (by omega), decide_eq_true c, decide_eq_false (by omega)]
    exact ⟨rfl, rfl⟩
  · rw [if_neg c]
    unfold mag belowB
    rw [if_neg c, if_pos (by omega), decide_eq_false c, decide_eq_true (by omega)]
    exact ⟨by omega, rfl⟩

theorem mul_some {a b : Int} (ha : U64 a) (hb : U64 b) (h : mulBad a b = false) : floatBits .mul .f64 a.toNat b.toNat = some (mulZ a b).toNat := by
  show Ieee.double.mul a.toNat b.toNat = _
  unfold mulZ
  rw [h]
  simp only [Bool.false_eq_true, if_false]
  unfold Ieee.Format.mul
  unfold mulBad at h
  rcases kindsZ a with ka | ka | ka
  · obtain ⟨m, i, hi, em, ex⟩ := read_fin ha ka
    rcases kindsZ b with kb | kb | kb
    · obtain ⟨n, j, hj, en, ey⟩ := read_fin hb kb
      rw [ex, ey, fin_inf ka, fin_inf kb]
      simp only [Bool.or_false, Bool.false_eq_true, if_false, Ieee.Datum.product, Option.map_some, Option.some.injEq, Ieee.Format.write]
      have h1 := nearest_rung (belowB a ^^ belowB b) (m * n) (i + j) 1074 (by omega)
      have h2 : m * n * 2 ^ (i + j + 1074 + ((1074 : Nat) : Int)).toNat = MZ a * MZ b := by
        rw [← em, ← en, show (i + j + 1074 + ((1074 : Nat) : Int)).toNat = (i + 1074).toNat + (j + 1074).toNat by omega, Nat.pow_add]
        grind
      rw [h2] at h1
      rw [← h1, Int.toNat_natCast]
    · rw [fin_nan ka, inf_nan kb, fin_inf ka, inf_inf kb] at h
      have hz : mag a ≠ 0 := by simpa using h
      have hm : m ≠ 0 := by
        intro e
        rw [e, Nat.zero_mul] at em
        unfold MZ at em
        have := @M_inj 0 (mag a).toNat
        rw [M_zero] at this
        have := this.1 em
        have := mag_range ha
        omega
      rw [ex, read_infZ hb kb, inf_inf kb]
      simp only [Bool.or_true, if_true, Ieee.Datum.product, hm, if_false, Option.map_some, Option.some.injEq]
      have := write_inf (belowB b ^^ belowB a)
      rw [Bool.xor_comm (belowB a)]
      omega
    · rw [nan_nan kb] at h; simp at h
  · rw [read_infZ ha ka, inf_inf ka]
    simp only [Bool.true_or, if_true]
    have hw := write_inf (belowB a ^^ belowB b)
    rcases kindsZ b with kb | kb | kb
    · obtain ⟨n, j, hj, en, ey⟩ := read_fin hb kb
      rw [inf_nan ka, fin_nan kb, inf_inf ka, fin_inf kb] at h
      have hz : mag b ≠ 0 := by simpa using h
      have hn : n ≠ 0 := by
        intro e
        rw [e, Nat.zero_mul] at en
        unfold MZ at en
        have := @M_inj 0 (mag b).toNat
        rw [M_zero] at this
        have := this.1 en
        have := mag_range hb
        omega
      rw [ey]
      simp only [Ieee.Datum.product, hn, if_false, Option.map_some, Option.some.injEq]
      omega
    · rw [read_infZ hb kb]
      simp only [Ieee.Datum.product, Option.map_some, Option.some.injEq]
      omega
    · rw [nan_nan kb] at h; simp at h
  · rw [nan_nan ka] at h; simp at h

theorem mul_none {a b : Int} (ha : U64 a) (hb : U64 b) (h : mulBad a b = true) : floatBits .mul .f64 a.toNat b.toNat = none := by
  show Ieee.double.mul a.toNat b.toNat = _
  unfold Ieee.Format.mul
  unfold mulBad at h
  rcases kindsZ a with ka | ka | ka
  · obtain ⟨m, i, hi, em, ex⟩ := read_fin ha ka
    rcases kindsZ b with kb | kb | kb
    · rw [fin_nan ka, fin_nan kb, fin_inf ka, fin_inf kb] at h; simp at h
    · rw [fin_nan ka, inf_nan kb, fin_inf ka, inf_inf kb] at h
      have hz : mag a = 0 := by simpa using h
      have hm : m = 0 := by
        have e : MZ a = 0 := by unfold MZ; rw [hz]; exact M_zero
        rw [e] at em
        rcases Nat.mul_eq_zero.1 em with k | k
        · exact k
        · have := Nat.two_pow_pos (i + 1074).toNat; omega
      rw [ex, read_infZ hb kb]
      simp only [Ieee.Datum.product, hm, if_true, Option.map_none]
    · obtain ⟨f, ey⟩ := read_nanZ hb kb
      rw [ex, ey]; rfl
  · rw [read_infZ ha ka]
    rcases kindsZ b with kb | kb | kb
    · obtain ⟨n, j, hj, en, ey⟩ := read_fin hb kb
      rw [inf_nan ka, fin_nan kb, inf_inf ka, fin_inf kb] at h
      have hz : mag b = 0 := by simpa using h
      have hn : n = 0 := by
        have e : MZ b = 0 := by unfold MZ; rw [hz]; exact M_zero
        rw [e] at en
        rcases Nat.mul_eq_zero.1 en with k | k
        · exact k
        · have := Nat.two_pow_pos (j + 1074).toNat; omega
      rw [ey]
      simp only [Ieee.Datum.product, hn, if_true, Option.map_none]
    · rw [inf_inf ka, inf_inf kb, inf_nan ka, inf_nan kb, ka, kb] at h; simp at h
    · obtain ⟨f, ey⟩ := read_nanZ hb kb
      rw [ey]; rfl
  · obtain ⟨f, ex⟩ := read_nanZ ha ka
    rw [ex]; rfl

/-- A difference is the sum with the other one's negative. -/
theorem sub_add {a b : Int} (hb : U64 b) (hn : nanB b = false) : floatBits .sub .f64 a.toNat b.toNat = floatBits .add .f64 a.toNat (negZ b).toNat := by
  show Ieee.double.sub a.toNat b.toNat = Ieee.double.add a.toNat (negZ b).toNat
  unfold Ieee.Format.sub Ieee.Format.add
  have e : Ieee.double.read (negZ b).toNat = (Ieee.double.read b.toNat).opposite := by
    have hb' := negZ_u64 hb
    obtain ⟨p1, p2⟩ := neg_parts hb hn
    obtain ⟨w1, w2⟩ := words hb
    obtain ⟨v1, v2⟩ := words hb'
    unfold Ieee.Format.read
    have e1 : Ieee.double.signWeight = 9223372036854775808 := by decide
    rw [e1, w1, w2, v1, v2, p1, p2]
    dsimp only
    split
    · rfl
    · split
      · rfl
      · split <;> rfl
  rw [e]
theorem sub_nan {a b : Int} (hb : U64 b) (hn : nanB b = true) : floatBits .sub .f64 a.toNat b.toNat = none := by
  show Ieee.double.sub a.toNat b.toNat = none
  unfold Ieee.Format.sub
  have : 9218868437227405312 < mag b := by unfold nanB at hn; exact of_decide_eq_true hn
  obtain ⟨f, ey⟩ := read_nanZ hb this
  rw [ey]
  cases Ieee.double.read a.toNat <;> rfl

end Go.Proofs.YthmocdabakkfhaaGreatDoor.Flo

/-
  The walks of layer 2: what Add, Sub, Mul answer.
-/
namespace Go.Proofs.YthmocdabakkfhaaGreatDoor
set_option maxRecDepth 100000
open Go.RowKit Flo

theorem nearZ_u64 (z : Bool) (T : Int) : U64 (nearZ z T) := by
  have h := rung_le 0 T.natAbs
  unfold nearZ sgn U64
  split
  · cases z <;> simp
  · cases decide (T < 0) <;> simp <;> omega
theorem addZ_u64 {a b : Int} (ha : U64 a) (hb : U64 b) : U64 (addZ a b) := by
  unfold addZ
  split
  · exact ⟨by decide, by decide⟩
  · split
    · exact ha
    · split
      · exact hb
      · exact nearZ_u64 _ _
theorem mulZ_u64 (a b : Int) : U64 (mulZ a b) := by
  have h := rung_le 1074 (MZ a * MZ b)
  generalize hr : rung 1074 (MZ a * MZ b) = r at h
  unfold mulZ U64 sgn
  rw [hr]
  split
  · decide
  · split
    · cases belowB a ^^ belowB b <;> decide
    · cases belowB a ^^ belowB b <;> simp <;> omega

theorem nearZ_nan (z : Bool) (T : Int) : nanB (nearZ z T) = false := by
  have h := rung_le 0 T.natAbs
  unfold nearZ sgn nanB mag
  generalize rung 0 T.natAbs = r at *
  split
  · cases z <;> decide
  · cases decide (T < 0)
    · simp; split <;> omega
    · simp; split <;> omega
theorem addZ_canon {a b : Int} (_ha : U64 a) (_hb : U64 b) : canonZ (addZ a b) = addZ a b := by
  unfold canonZ
  by_cases h : addBad a b = true
  · have : addZ a b = 9221120237041090560 := by unfold addZ; rw [if_pos h]
    rw [this]; simp
  · have h' : addBad a b = false := by simpa using h
    have : nanB (addZ a b) = false := by
      unfold addZ
      rw [h']
      simp only [Bool.false_eq_true, if_false]
      unfold addBad at h'
      simp only [Bool.or_eq_false_iff] at h'
      split
      · exact h'.1
      · split
        · exact h'.2.1
        · exact nearZ_nan _ _
    rw [this]; simp
theorem mulZ_canon (a b : Int) : canonZ (mulZ a b) = mulZ a b := by
  unfold canonZ
  by_cases h : mulBad a b = true
  · have : mulZ a b = 9221120237041090560 := by unfold mulZ; rw [if_pos h]
    rw [this]; simp
  · have h' : mulBad a b = false := by simpa using h
    have : nanB (mulZ a b) = false := by
      have hr := rung_le 1074 (MZ a * MZ b)
      unfold mulZ
      rw [h']
      generalize rung 1074 (MZ a * MZ b) = r at *
      simp only [Bool.false_eq_true, if_false]
      unfold sgn nanB mag
      split
      · cases belowB a ^^ belowB b <;> decide
      · cases belowB a ^^ belowB b
        · simp; split <;> omega
        · simp; split <;> omega
    rw [this]; simp

theorem bits_run (n : Nat) (w : World) : (callFunc 104 #[.float .f64 n]).run Tryz.prog w = .ok (.value (.int .u64 (n : Int))) w :=
  run_callFunc_extern (e := Extern.MathFloatBits.float64bits) Tryz.func104 (by kernel_rfl) (by kernel_rfl) (by kernel_rfl) (by kernel_rfl) _ w

/-- An operation without an answer gives some NaN. -/
theorem float_none (op : BinOp) (x y : Nat) (w : World) (ho : op = .add ∨ op = .sub ∨ op = .mul ∨ op = .quo) (h : floatBits op .f64 x y = none) :
    ∃ n : Nat, n < 18446744073709551616 ∧ canonZ n = 9221120237041090560 ∧ ∀ t, (binOp op t (.float .f64 x) (.float .f64 y)).run Tryz.prog w = .ok (.float .f64 n) w.drew := by
  refine ⟨(Question.nanBits .f64 x y).cut (w.tape w.drawn (.nanBits .f64 x y)), ?_, ?_, ?_⟩
  · simp only [Question.cut]; omega
  · have : nanB (((Question.nanBits .f64 x y).cut (w.tape w.drawn (.nanBits .f64 x y)) : Nat) : Int) = true := by
      simp only [Question.cut]
      generalize w.tape w.drawn (.nanBits .f64 x y) = t
      unfold nanB mag
      rw [decide_eq_true_eq]
      split <;> omega
    unfold canonZ
    rw [this]; rfl
  · intro t
    have hq : (Question.nanBits .f64 x y).forced = false := rfl
    unfold floatBits at h
    rcases ho with rfl | rfl | rfl | rfl <;> simp only at h <;> simp [binOp, Op.floatArith, h, hq]

theorem float_op (op : BinOp) (x y : Nat) (r : Int) (w : World) (ho : op = .add ∨ op = .sub ∨ op = .mul ∨ op = .quo) (hr : U64 r) (hc : canonZ r = r)
    (h : floatBits op .f64 x y = some r.toNat ∨ (floatBits op .f64 x y = none ∧ r = 9221120237041090560)) :
    ∃ (n : Nat) (w' : World), n < 18446744073709551616 ∧ canonZ n = r ∧ Below w.heap.size w w' ∧ ∀ t, (binOp op t (.float .f64 x) (.float .f64 y)).run Tryz.prog w = .ok (.float .f64 n) w' := by
  rcases h with h | ⟨h, rfl⟩
  · refine ⟨r.toNat, w, u64_toNat hr, ?_, Below.refl _ _, fun t => run_float_arith w op t .f64 x y _ h⟩
    rw [show ((r.toNat : Nat) : Int) = r by have := hr.1; omega]
    exact hc
  · obtain ⟨n, h1, h2, h3⟩ := float_none op x y w ho h
    exact ⟨n, w.drew, h1, h2, (Below.refl _ _).drew, h3⟩

def subZ (a b : Int) : Int := addZ a (negZ b)
theorem lives_add : addZ 4591870180066957722 4596373779694328218 = 4599075939470750516 := by decide +kernel
theorem lives_mul : mulZ 0 13830554455654793216 = 9223372036854775808 := by decide +kernel

end Go.Proofs.YthmocdabakkfhaaGreatDoor

/-
  The statements' own small living call.
-/
namespace Go.Proofs.YthmocdabakkfhaaGreatDoor
set_option maxRecDepth 100000
open Go.RowKit Flo

theorem lives_make : makeZ false (-52) 4503599627370496 false = 4607182418800017408 := by decide +kernel
theorem lives_kind : kindZ 1 = 1 := by decide
theorem lives_less : lessB 0 1 = true := by decide

end Go.Proofs.YthmocdabakkfhaaGreatDoor

/-
  The walks of the reference's small functions: Kind, Neg, Nan, Canon, Order, Less, Equal, Before.
-/
namespace Go.Proofs.YthmocdabakkfhaaGreatDoor
set_option maxRecDepth 100000
open Go.RowKit Flo

theorem ret_i64 {a b : Int} (h : a = b) : Ending.returned (.int .i64 a) = .returned (.int .i64 b) := by rw [h]
theorem ret_bool {a b : Bool} (h : a = b) : Ending.returned (.bool a) = .returned (.bool b) := by rw [h]

def expo (a : Int) : Int := a / 4503599627370496 % 2048
def frac (a : Int) : Int := a % 4503599627370496

theorem and_expo {a : Int} (h : U64 a) : bits .and .u64 (a / 4503599627370496) 2047 = expo a := by
  obtain ⟨h0, h1⟩ := h
  rw [u64_and _ _ (by omega) (by omega) (by decide) (by decide), show (2047 : Int).toNat = 2 ^ 11 - 1 from rfl, Nat.and_two_pow_sub_one_eq_mod]
  unfold expo
  omega
theorem and_frac {a : Int} (h : U64 a) : bits .and .u64 a 4503599627370495 = frac a := by
  obtain ⟨h0, h1⟩ := h
  rw [u64_and _ _ h0 h1 (by decide) (by decide), show (4503599627370495 : Int).toNat = 2 ^ 52 - 1 from by decide, Nat.and_two_pow_sub_one_eq_mod]
  unfold frac
  omega
theorem mag_parts {a : Int} (h : U64 a) : mag a = expo a * 4503599627370496 + frac a ∧ 0 ≤ expo a ∧ expo a ≤ 2047 ∧ 0 ≤ frac a ∧ frac a < 4503599627370496 := by
  obtain ⟨h0, h1⟩ := h
  unfold mag expo frac
  refine ⟨?_, by omega, by omega, by omega, by omega⟩
  split <;> omega

set_option maxHeartbeats 400000 in
theorem refKind_any (a : Int) (w : World) (h : U64 a) : Calls Tryz.prog 76 #[.int .u64 a] w fun e w' => e = .returned (.int .i64 (kindZ a)) ∧ w' = w := by
  have t1 := and_expo h
  have t2 := and_frac h
  obtain ⟨hm, e0, e1, f0, f1⟩ := mag_parts h
  unfold kindZ
  rw [hm]
  obtain ⟨h0, h1⟩ := h
  clear hm
  generalize expo a = E at *
  generalize frac a = F at *
  go_enter Tryz.func76, Tryz.ntmps76
  go_wp2
  all_goals
    go_ret
    refine ⟨ret_i64 ?_, rfl⟩
    go_light
    try simp only [beq_iff_eq, beq_eq_false_iff_ne, bne_iff_ne, bne_eq_false_iff_eq, ne_eq] at *
    all_goals ((repeat' split) <;> first | rfl | omega)

theorem kind_nan (a : Int) : (kindZ a == 4) = nanB a := by
  unfold kindZ nanB
  split
  · rw [decide_eq_true (by assumption)]; rfl
  · rw [decide_eq_false (by assumption)]
    (repeat' split) <;> rfl
theorem kind_zero (a : Int) : (kindZ a == 0) = decide (mag a = 0) := by
  unfold kindZ
  split
  · rw [decide_eq_false (by omega)]; rfl
  · split
    · rw [decide_eq_true (by assumption)]; rfl
    · rw [decide_eq_false (by assumption)]
      (repeat' split) <;> rfl
theorem kind_not_nan (a : Int) : (kindZ a != 4) = !nanB a := by rw [bne, kind_nan]

theorem refNan_any (w : World) : Calls Tryz.prog 80 #[] w fun e w' => e = .returned (.int .u64 9221120237041090560) ∧ w' = w := by
  go_enter Tryz.func80, Tryz.ntmps80
  go_wp2
  go_ret
  exact ⟨rfl, rfl⟩

theorem refCanon_any (a : Int) (w : World) (h : U64 a) : Calls Tryz.prog 69 #[.int .u64 a] w fun e w' => e = .returned (.int .u64 (canonZ a)) ∧ w' = w := by
  have t := kind_nan a
  unfold canonZ
  cases hn : nanB a
  all_goals
    rw [hn] at t
    go_enter Tryz.func69, Tryz.ntmps69
    go_wp2_with (first | (go_at_call 76; refine (refKind_any _ _ h).mono ?_; rintro e w' ⟨rfl, rfl⟩) | (go_at_call 80; refine (refNan_any _).mono ?_; rintro e w' ⟨rfl, rfl⟩))
    go_ret
    exact ⟨rfl, rfl⟩

/-- How two numbers stand to one another, as -1, 0, 1. -/
def orderZ (a b : Int) : Int := if sv a < sv b then -1 else if sv a = sv b then 0 else 1

theorem sv_below {a : Int} (h : belowB a = true) : sv a = -mag a := by
  have := of_decide_eq_true (show decide (9223372036854775808 ≤ a) = true from h)
  unfold sv mag; rw [if_pos this, if_pos this]; omega
theorem sv_above {a : Int} (h : belowB a = false) : sv a = mag a := by
  have := of_decide_eq_false (show decide (9223372036854775808 ≤ a) = false from h)
  unfold sv mag; rw [if_neg this, if_neg this]

theorem order_lt (a b : Int) : decide (orderZ a b < 0) = decide (sv a < sv b) := by
  unfold orderZ; rw [decide_eq_decide]; (repeat' split) <;> omega
theorem order_eq0 (a b : Int) : (orderZ a b == 0) = decide (sv a = sv b) := by
  unfold orderZ; rw [Bool.eq_iff_iff, beq_iff_eq, decide_eq_true_eq]; (repeat' split) <;> omega

end Go.Proofs.YthmocdabakkfhaaGreatDoor

/-
  The walks of the reference's Before and Parts, and of the program's Parts.
-/
namespace Go.Proofs.YthmocdabakkfhaaGreatDoor
set_option maxRecDepth 100000
open Go.RowKit Flo

theorem before_alt {a b : Int} (ha : U64 a) (hb : U64 b) (na : nanB a = false) (nb : nanB b = false) :
    beforeB a b = if mag a = 0 ∧ mag b = 0 then belowB a && !belowB b else decide (sv a < sv b) := by
  obtain ⟨a0, a1⟩ := ha
  obtain ⟨b0, b1⟩ := hb
  unfold beforeB
  rw [na, nb]
  simp only [Bool.false_eq_true, if_false]
  by_cases c : mag a = 0 ∧ mag b = 0
  · rw [if_pos c, if_pos]
    obtain ⟨c1, c2⟩ := c
    unfold sv
    unfold mag at c1 c2
    split <;> split <;> omega
  · rw [if_neg c]
    split
    · rename_i e
      have : belowB a = belowB b := by
        unfold belowB
        rw [decide_eq_decide]
        unfold sv at e
        unfold mag at c
        split at e <;> split at e <;> omega
      rw [this, decide_eq_false (by omega)]
      cases belowB b <;> rfl
    · rfl

/-- A number's power of two and whole number. -/
def pexp (a : Int) : Int := if kindZ a = 1 then -1074 else if kindZ a = 2 then expo a - 1075 else 0
def pfrac (a : Int) : Int := if kindZ a = 1 then frac a else if kindZ a = 2 then frac a + 4503599627370496 else 0

theorem kind_vals (a : Int) : kindZ a = 0 ∨ kindZ a = 1 ∨ kindZ a = 2 ∨ kindZ a = 3 ∨ kindZ a = 4 := by
  unfold kindZ; (repeat' split) <;> simp

theorem or_hidden {a : Int} (h0 : 0 ≤ frac a) (h1 : frac a < 4503599627370496) : bits .or .u64 (frac a) 4503599627370496 = frac a + 4503599627370496 := by
  rw [u64_or _ _ h0 (by omega) (by decide) (by decide), Nat.or_comm, show (4503599627370496 : Int).toNat = 4503599627370496 from rfl, nat_join 52 _ _ (by decide) (by omega)]
  omega

end Go.Proofs.YthmocdabakkfhaaGreatDoor
