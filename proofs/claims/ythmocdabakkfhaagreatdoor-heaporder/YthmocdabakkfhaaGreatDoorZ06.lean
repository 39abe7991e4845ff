/-
  DigMake, SumMath, SumWalk, FloLives, FloRef, FloRef2
-/
import Derived.Laws.FloatArith
import Derived.Deep.Light
import Derived.Test.YthmocdabakkfhaaGreatDoorZ05

/-
  The reference's Round and Make, by the rung of what they are given.
-/
namespace Go.Proofs.YthmocdabakkfhaaGreatDoor
set_option maxRecDepth 100000
open Go.RowKit Dg Flo

theorem blen_ge {N : Nat} (h : N ≠ 0) : 2 ^ blen N ≤ 2 * N := by
  unfold blen
  rw [if_neg h, Nat.pow_succ']
  have := Nat.log2_self_le h
  omega
theorem blen_up {N : Nat} : 2 * N < 2 ^ (blen N + 1) := by
  have := blen_lt N
  rw [Nat.pow_succ']
  omega
theorem blen_le {N k : Nat} (h : N < 2 ^ k) : blen N ≤ k := by
  unfold blen
  split
  · omega
  · rename_i hn
    have := (Nat.log2_lt hn).2 h
    omega

/-- Round, at any number of digits. -/
theorem round_any (v : Value) (N l g : Nat) (exp : Int) (more neg : Bool) (w : World) (hD : D w v N l) (hl : l ≤ 1048576) (e1 : -16777216 ≤ exp) (e2 : exp ≤ 16777216) (hg : 0 ≤ exp + 1073 + g) (hm : more = true → 9007199254740992 ≤ N) :
    Calls Tryz.prog 70 #[.bool neg, .int .i64 exp, v, .bool more] w fun e w' => e = .returned (.int .u64 (sgn neg + (rung g ((2 * N + more.toNat) * 2 ^ (exp + 1073 + g).toNat) : Nat))) ∧ Below w.heap.size w w' := by
  have hmn : more.toNat ≤ 1 := by cases more <;> simp
  have hn2 : blen N ≤ 16777216 := by
    have := hD.lt
    rw [pow16] at this
    have := blen_le this
    omega
  by_cases h0 : N = 0
  · have hf : more = false := by
      cases more
      · rfl
      · have := hm rfl; omega
    subst h0
    subst hf
    refine (round_low v 0 l 0 exp false neg w hD hl rfl (by omega) e1 e2 (Or.inl ⟨rfl, rfl⟩)).mono ?_
    rintro e w' ⟨rfl, rfl⟩
    refine ⟨ret_u64 ?_, Below.refl _ _⟩
    rw [rung_tiny (by simp)]
    simp
  · have b1 := blen_ge h0
    have b2 := blen_up (N := N)
    have hn0 : blen N ≠ 0 := by unfold blen; rw [if_neg h0]; omega
    obtain ⟨E, hE⟩ := Int.eq_ofNat_of_zero_le hg
    have hm54 : more = true → 54 ≤ blen N := by
      intro h
      have h1 := hm h
      rcases Nat.lt_or_ge (blen N) 54 with k | k
      · have h2 := blen_lt N
        have h3 : 2 ^ blen N ≤ 2 ^ 53 := Nat.pow_le_pow_right (by decide) (by omega)
        omega
      · exact k
    by_cases c1 : (blen N : Int) + exp < -1100
    · refine (round_low v N l (blen N) exp more neg w hD hl rfl hn2 e1 e2 (Or.inr c1)).mono ?_
      rintro e w' ⟨rfl, rfl⟩
      refine ⟨ret_u64 ?_, Below.refl _ _⟩
      rw [rung_tiny]
      · simp
      · rw [hE, Int.toNat_natCast]
        have h2 : 2 * N + more.toNat < 2 ^ (blen N + 1) := by
          have : 2 ^ (blen N + 1) = 2 * 2 ^ blen N := Nat.pow_succ'
          omega
        have h3 := scaled_lt (E := E) h2
        have h4 : 2 * 2 ^ (blen N + 1 + E) ≤ 2 ^ g := by
          rw [← Nat.pow_succ']; exact Nat.pow_le_pow_right (by decide) (by omega)
        omega
    · by_cases c2 : 1100 < (blen N : Int) + exp
      · refine (round_high v N l (blen N) exp more neg w hD hl rfl hn2 e1 e2 hn0 c2).mono ?_
        rintro e w' ⟨rfl, rfl⟩
        refine ⟨ret_u64 ?_, Below.refl _ _⟩
        rw [rung_huge]
        · rfl
        · rw [hE, Int.toNat_natCast]
          have h2 : 2 ^ blen N ≤ 2 * N + more.toNat := by omega
          exact Nat.le_trans (Nat.pow_le_pow_right (by decide) (by omega)) (scaled_ge (E := E) h2)
      · obtain ⟨r1, r2, r3, r4⟩ := round_rung N (blen N) g exp (max ((blen N : Int) - 53) (-1074 - exp)) more b1 b2 rfl hg hm54
        refine round_main v N l (blen N) _ _ _ _ _ exp _ more neg _ (decide (N % 2 ^ (max ((blen N : Int) - 53) (-1074 - exp) - 2).toNat ≠ 0)) w hD hl rfl hn2 e1 e2 hn0 (by omega) (by omega) rfl (fun _ => rfl) ?_ rfl r4 rfl rfl rfl r2 r3 r1
        unfold rLost
        rfl

end Go.Proofs.YthmocdabakkfhaaGreatDoor

/-
  Plain mathematics: the nearest word of IEEE 754 is the nearest rung; sums and products of words.
-/
namespace Go.Proofs.YthmocdabakkfhaaGreatDoor.Flo
set_option maxRecDepth 100000
open Go.Proofs.YthmocdabakkfhaaGreatDoor

theorem even_cut (neg : Bool) (n d : Nat) : Ieee.Toward.even.cut neg n d = rne n d := by
  unfold Ieee.Toward.cut
  simp only [Nat.one_shiftLeft]
  have key : ∀ G : Nat, (decide (G < 2 * (n % G)) || (G == 2 * (n % G) && n / G % 2 == 1)).toNat = if G < 2 * (n % G) ∨ (G = 2 * (n % G) ∧ n / G % 2 = 1) then 1 else 0 := by
    intro G
    by_cases c1 : G < 2 * (n % G)
    · simp [c1]
    · by_cases c2 : G = 2 * (n % G)
      · by_cases c3 : n / G % 2 = 1
        · rw [if_pos (Or.inr ⟨c2, c3⟩)]
          have : (G == 2 * (n % G)) = true := beq_iff_eq.2 c2
          rw [this]
          simp [c3]
        · rw [if_neg (by omega)]
          have : (n / G % 2 == 1) = false := beq_eq_false_iff_ne.2 c3
          rw [this]
          simp only [Bool.and_false, Bool.or_false]
          simp [c1]
      · rw [if_neg (by omega)]
        have : (G == 2 * (n % G)) = false := beq_eq_false_iff_ne.2 c2
        rw [this]
        simp [c1]
  rcases Nat.lt_or_ge (n.log2 + 2) d with h | h
  · rw [Nat.min_eq_right (by omega), key]
    have hn : n < 2 ^ (n.log2 + 1) := Nat.lt_log2_self
    have e : 2 ^ (n.log2 + 2) = 2 * 2 ^ (n.log2 + 1) := Nat.pow_succ'
    have e2 : 2 ^ (n.log2 + 2) < 2 ^ d := Nat.pow_lt_pow_right (by decide) h
    rw [rne_small (by omega), Nat.div_eq_of_lt (by omega), Nat.mod_eq_of_lt (by omega), if_neg (by omega)]
  · rw [Nat.min_eq_left h, key]
    rfl

theorem rne_zero (v : Nat) : rne v 0 = v := by
  have := rne_exact v 0
  simpa using this

theorem word_sgn (neg : Bool) (r : Nat) : ((Ieee.double.word neg r : Nat) : Int) = sgn neg + (r : Int) := by
  have e1 : Ieee.double.signWeight = 9223372036854775808 := by decide
  unfold Ieee.Format.word sgn
  rw [e1]
  cases neg <;> simp

theorem nearest_rung (neg : Bool) (m : Nat) (p : Int) (g : Nat) (hg : 0 ≤ p + 1074 + g) :
    ((Ieee.double.nearest neg m p : Nat) : Int) = sgn neg + (rung g (m * 2 ^ (p + 1074 + g).toNat) : Nat) := by
  have e2 : Ieee.double.binade = 4503599627370496 := by decide
  have e3 : Ieee.double.infRung = 9218868437227405312 := by decide
  have e4 : Ieee.double.leastPlace = -1074 := by decide
  have e5 : Ieee.double.fractionBits = 52 := by decide
  unfold Ieee.Format.nearest
  by_cases h0 : m = 0
  · subst h0
    rw [if_pos rfl, word_sgn, Nat.zero_mul, rung_tiny (by simp)]
  · rw [if_neg h0]
    simp only [e2, e3, e4, e5]
    rw [word_sgn, even_cut, Nat.shiftLeft_eq]
    have b1 : 2 ^ m.log2 ≤ m := Nat.log2_self_le h0
    have b2 : m < 2 ^ (m.log2 + 1) := Nat.lt_log2_self
    generalize m.log2 = L at *
    obtain ⟨E, hE⟩ := Int.eq_ofNat_of_zero_le hg
    rw [hE, Int.toNat_natCast]
    refine congrArg (fun r : Nat => sgn neg + (r : Int)) ?_
    rcases Int.lt_or_le (p + L - 52) (-1074) with c | c
    · rw [show max (p + (L : Int) - ((52 : Nat) : Int)) (-1074) = -1074 by omega]
      rcases Nat.lt_or_ge E g with c2 | c2
      · rw [rung_b1 b2 (by omega) (by omega), show (p - -1074).toNat = 0 by omega, show (-1074 - p).toNat = g - E by omega]
        simp
      · rw [rung_b0 b2 (by omega) (by omega), show (p - -1074).toNat = E - g by omega, show (-1074 - p).toNat = 0 by omega, rne_zero]
        simp
    · rw [show max (p + (L : Int) - ((52 : Nat) : Int)) (-1074) = p + L - 52 by omega]
      rw [show (p + (L : Int) - 52 - -1074).toNat = L + 1 + E - 53 - g by omega]
      rcases Nat.lt_or_ge L 53 with c2 | c2
      · rw [rung_a0 b1 b2 (by omega) (by omega), show (p - (p + (L : Int) - 52)).toNat = 53 - (L + 1) by omega, show (p + (L : Int) - 52 - p).toNat = 0 by omega, rne_zero]
      · rw [rung_a1 b1 b2 (by omega) (by omega), show (p - (p + (L : Int) - 52)).toNat = 0 by omega, show (p + (L : Int) - 52 - p).toNat = L + 1 - 53 by omega]
        simp

/-- What a word stands for, in units of the least number. -/
def MZ (a : Int) : Nat := M (mag a).toNat
def SV (a : Int) : Int := sz (belowB a) (MZ a)
def infB (a : Int) : Bool := decide (mag a = 9218868437227405312)
/-- The number nearest to T units; a nought of the sign z. -/
def nearZ (z : Bool) (T : Int) : Int := if T = 0 then sgn z else sgn (decide (T < 0)) + (rung 0 T.natAbs : Nat)
def addBad (a b : Int) : Bool := nanB a || (nanB b || (infB a && (infB b && (belowB a ^^ belowB b))))
def addZ (a b : Int) : Int := if addBad a b then 9221120237041090560 else if infB a then a else if infB b then b else nearZ (belowB a && belowB b) (SV a + SV b)
def mulBad (a b : Int) : Bool := nanB a || (nanB b || ((infB a && decide (mag b = 0)) || (decide (mag a = 0) && infB b)))
def mulZ (a b : Int) : Int := if mulBad a b then 9221120237041090560 else if infB a || infB b then sgn (belowB a ^^ belowB b) + 9218868437227405312 else sgn (belowB a ^^ belowB b) + (rung 1074 (MZ a * MZ b) : Nat)

theorem words {a : Int} (h : U64 a) : (a.toNat / 9223372036854775808 % 2 == 1) = belowB a ∧ a.toNat % 9223372036854775808 = (mag a).toNat := by
  obtain ⟨h0, h1⟩ := h
  unfold belowB mag
  constructor
  · rw [Bool.eq_iff_iff, decide_eq_true_eq, beq_iff_eq]; omega
  · split <;> omega
theorem mag_range {a : Int} (h : U64 a) : 0 ≤ mag a ∧ mag a < 9223372036854775808 := by
  obtain ⟨h0, h1⟩ := h
  unfold mag
  split <;> omega
theorem read_fin {a : Int} (h : U64 a) (hm : mag a < 9218868437227405312) : ∃ m p, 0 ≤ p + 1074 ∧ m * 2 ^ (p + 1074).toNat = MZ a ∧ Ieee.double.read a.toNat = .number (belowB a) m p := by
  obtain ⟨w1, w2⟩ := words h
  have := mag_range h
  obtain ⟨m, p, h1, h2, h3⟩ := read_number a.toNat (by omega)
  rw [w1] at h3
  rw [w2] at h2
  exact ⟨m, p, h1, h2, h3⟩
theorem read_infZ {a : Int} (h : U64 a) (hm : mag a = 9218868437227405312) : Ieee.double.read a.toNat = .infinity (belowB a) := by
  obtain ⟨w1, w2⟩ := words h
  rw [← w1]
  exact read_inf a.toNat (by omega)
theorem read_nanZ {a : Int} (h : U64 a) (hm : 9218868437227405312 < mag a) : ∃ f, Ieee.double.read a.toNat = .nan (belowB a) f := by
  obtain ⟨w1, w2⟩ := words h
  rw [← w1]
  exact read_nan a.toNat (by omega)

theorem kindsZ (a : Int) : mag a < 9218868437227405312 ∨ mag a = 9218868437227405312 ∨ 9218868437227405312 < mag a := by omega
theorem fin_nan {a : Int} (h : mag a < 9218868437227405312) : nanB a = false := decide_eq_false (by omega)
theorem fin_inf {a : Int} (h : mag a < 9218868437227405312) : infB a = false := decide_eq_false (by omega)
theorem inf_nan {a : Int} (h : mag a = 9218868437227405312) : nanB a = false := decide_eq_false (by omega)
theorem inf_inf {a : Int} (h : mag a = 9218868437227405312) : infB a = true := decide_eq_true h
theorem nan_nan {a : Int} (h : 9218868437227405312 < mag a) : nanB a = true := decide_eq_true h
theorem inf_word {a : Int} (h : U64 a) (hm : mag a = 9218868437227405312) : a = sgn (belowB a) + 9218868437227405312 := by
  obtain ⟨h0, h1⟩ := h
  unfold belowB sgn
  unfold mag at hm
  by_cases c : 9223372036854775808 ≤ a
  · rw [if_pos c] at hm; rw [decide_eq_true c, if_pos rfl]; omega
  · rw [if_neg c] at hm; rw [decide_eq_false c]; simp; omega
theorem write_inf (s : Bool) : ((Ieee.double.write (.infinity s) : Nat) : Int) = sgn s + 9218868437227405312 := by
  have e3 : Ieee.double.infRung = 9218868437227405312 := by decide
  show ((Ieee.double.word s Ieee.double.infRung : Nat) : Int) = _
  rw [e3, word_sgn]
  rfl

theorem neg_parts {b : Int} (h : U64 b) (hn : nanB b = false) : mag (negZ b) = mag b ∧ belowB (negZ b) = !belowB b := by
  obtain ⟨h0, h1⟩ := h
  unfold nanB at hn
  unfold negZ nanB
  rw [hn]
  simp only [Bool.false_eq_true, if_false]
  by_cases c : 9223372036854775808 ≤ b
  · rw [if_pos c]
    unfold mag belowB
    rw [if_pos c, if_neg (by omega), decide_eq_true c, decide_eq_false (by omega)]
    exact ⟨rfl, rfl⟩
  · rw [if_neg c]
    unfold mag belowB
    rw [if_neg c, if_pos (by omega), decide_eq_false c, decide_eq_true (by omega)]
    exact ⟨by omega, rfl⟩

end Go.Proofs.YthmocdabakkfhaaGreatDoor.Flo

/-
  The walks of layer 2: what Add, Sub, Mul answer.
-/
namespace Go.Proofs.YthmocdabakkfhaaGreatDoor
set_option maxRecDepth 100000
open Go.RowKit Flo

def subZ (a b : Int) : Int := addZ a (negZ b)
end Go.Proofs.YthmocdabakkfhaaGreatDoor

/-
  The statements' own small living call.
-/
namespace Go.Proofs.YthmocdabakkfhaaGreatDoor
set_option maxRecDepth 100000
open Go.RowKit Flo

end Go.Proofs.YthmocdabakkfhaaGreatDoor

/-
  The walks of the reference's small functions: Kind, Neg, Nan, Canon, Order, Less, Equal, Before.
-/
namespace Go.Proofs.YthmocdabakkfhaaGreatDoor
set_option maxRecDepth 100000
open Go.RowKit Flo

theorem ret_i64 {a b : Int} (h : a = b) : Ending.returned (.int .i64 a) = .returned (.int .i64 b) := by rw [h]
theorem ret_bool {a b : Bool} (h : a = b) : Ending.returned (.bool a) = .returned (.bool b) := by rw [h]

def expo (a : Int) : Int := a / 4503599627370496 % 2048
def frac (a : Int) : Int := a % 4503599627370496

theorem and_expo {a : Int} (h : U64 a) : bits .and .u64 (a / 4503599627370496) 2047 = expo a := by
  obtain ⟨h0, h1⟩ := h
  rw [u64_and _ _ (by omega) (by omega) (by decide) (by decide), show (2047 : Int).toNat = 2 ^ 11 - 1 from rfl, Nat.and_two_pow_sub_one_eq_mod]
  unfold expo
  omega
theorem and_frac {a : Int} (h : U64 a) : bits .and .u64 a 4503599627370495 = frac a := by
  obtain ⟨h0, h1⟩ := h
  rw [u64_and _ _ h0 h1 (by decide) (by decide), show (4503599627370495 : Int).toNat = 2 ^ 52 - 1 from by decide, Nat.and_two_pow_sub_one_eq_mod]
  unfold frac
  omega
theorem mag_parts {a : Int} (h : U64 a) : mag a = expo a * 4503599627370496 + frac a ∧ 0 ≤ expo a ∧ expo a ≤ 2047 ∧ 0 ≤ frac a ∧ frac a < 4503599627370496 := by
  obtain ⟨h0, h1⟩ := h
  unfold mag expo frac
  refine ⟨?_, by omega, by omega, by omega, by omega⟩
  split <;> omega

set_option maxHeartbeats 400000 in
theorem refKind_any (a : Int) (w : World) (h : U64 a) : Calls Tryz.prog 76 #[.int .u64 a] w fun e w' => e = .returned (.int .i64 (kindZ a)) ∧ w' = w := by
  have t1 := and_expo h
  have t2 := and_frac h
  obtain ⟨hm, e0, e1, f0, f1⟩ := mag_parts h
  unfold kindZ
  rw [hm]
  obtain ⟨h0, h1⟩ := h
  clear hm
  generalize expo a = E at *
  generalize frac a = F at *
  go_enter Tryz.func76, Tryz.ntmps76
  go_wp2
  all_goals
    go_ret
    refine ⟨ret_i64 ?_, rfl⟩
    go_light
    try simp only [beq_iff_eq, beq_eq_false_iff_ne, bne_iff_ne, bne_eq_false_iff_eq, ne_eq] at *
    all_goals ((repeat' split) <;> first | rfl | omega)

theorem kind_nan (a : Int) : (kindZ a == 4) = nanB a := by
  unfold kindZ nanB
  split
  · rw [decide_eq_true (by assumption)]; rfl
  · rw [decide_eq_false (by assumption)]
    (repeat' split) <;> rfl
theorem kind_zero (a : Int) : (kindZ a == 0) = decide (mag a = 0) := by
  unfold kindZ
  split
  · rw [decide_eq_false (by omega)]; rfl
  · split
    · rw [decide_eq_true (by assumption)]; rfl
    · rw [decide_eq_false (by assumption)]
      (repeat' split) <;> rfl
theorem refNan_any (w : World) : Calls Tryz.prog 80 #[] w fun e w' => e = .returned (.int .u64 9221120237041090560) ∧ w' = w := by
  go_enter Tryz.func80, Tryz.ntmps80
  go_wp2
  go_ret
  exact ⟨rfl, rfl⟩

theorem refCanon_any (a : Int) (w : World) (h : U64 a) : Calls Tryz.prog 69 #[.int .u64 a] w fun e w' => e = .returned (.int .u64 (canonZ a)) ∧ w' = w := by
  have t := kind_nan a
  unfold canonZ
  cases hn : nanB a
  all_goals
    rw [hn] at t
    go_enter Tryz.func69, Tryz.ntmps69
    go_wp2_with (first | (go_at_call 76; refine (refKind_any _ _ h).mono ?_; rintro e w' ⟨rfl, rfl⟩) | (go_at_call 80; refine (refNan_any _).mono ?_; rintro e w' ⟨rfl, rfl⟩))
    go_ret
    exact ⟨rfl, rfl⟩

/-- How two numbers stand to one another, as -1, 0, 1. -/
def orderZ (a b : Int) : Int := if sv a < sv b then -1 else if sv a = sv b then 0 else 1

end Go.Proofs.YthmocdabakkfhaaGreatDoor

/-
  The walks of the reference's Before and Parts, and of the program's Parts.
-/
namespace Go.Proofs.YthmocdabakkfhaaGreatDoor
set_option maxRecDepth 100000
open Go.RowKit Flo

/-- A number's power of two and whole number. -/
def pexp (a : Int) : Int := if kindZ a = 1 then -1074 else if kindZ a = 2 then expo a - 1075 else 0
def pfrac (a : Int) : Int := if kindZ a = 1 then frac a else if kindZ a = 2 then frac a + 4503599627370496 else 0

end Go.Proofs.YthmocdabakkfhaaGreatDoor
