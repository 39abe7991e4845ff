/-
  Layer 16: a number below 1: the mathematics of m by 2^53; both Units, walked; RandUnit.
-/
import Derived.Test.YteihehpgegkcpaaRdWalk
import Derived.Test.YteihehpgegkcpaaQuoDiv
import Derived.Test.YteihehpgegkcpaaSumWalk
import Derived.Test.YteihehpgegkcpaaFloRef
namespace Go.Proofs.Yteihehpgegkcpaa
open Go.RowKit Flo

def UP : Nat := 1074
theorem UP_eq : UP = 1074 := rfl
def UD : Nat := 1021
theorem UD_eq : UD = 1021 := rfl
/-- m by 2^53, as a word. -/
def uW (m : Nat) : Nat := rung 0 (m * 2 ^ UD)

theorem whole_rep {m : Nat} (h : m ≤ 9007199254740992) : Rep (m * 2 ^ UP) := by
  refine rep_of h ?_
  have h1 : m * 2 ^ UP ≤ 2 ^ 53 * 2 ^ UP := Nat.mul_le_mul_right _ h
  rw [← Nat.pow_add] at h1
  have h2 : 2 ^ (53 + UP) < 2 ^ TP := Nat.pow_lt_pow_right (by decide) (by rw [UP_eq, TP_eq]; decide)
  omega
theorem unit_rep {m : Nat} (h : m ≤ 9007199254740992) : Rep (m * 2 ^ UD) := by
  refine rep_of h ?_
  have h1 : m * 2 ^ UD ≤ 2 ^ 53 * 2 ^ UD := Nat.mul_le_mul_right _ h
  rw [← Nat.pow_add] at h1
  have h2 : 2 ^ (53 + UD) < 2 ^ TP := Nat.pow_lt_pow_right (by decide) (by rw [UD_eq, TP_eq]; decide)
  omega
theorem M_gen (U : Nat) : M ((U + 1) * 4503599627370496 + 4503599627370496) = 9007199254740992 * 2 ^ U := by
  rw [M_at (q := 4503599627370496) (l := U + 1) (by decide) (Or.inr (by decide)), Nat.pow_succ']
  omega
theorem M_ones : M 4607182418800017408 = 9007199254740992 * 2 ^ UD := by
  have h := M_gen UD
  have e : (UD + 1) * 4503599627370496 + 4503599627370496 = 4607182418800017408 := by rw [UD_eq]
  rw [e] at h
  exact h
theorem uW_lt {m : Nat} (h : m < 9007199254740992) : uW m < 4607182418800017408 := by
  have h1 := (unit_rep (Nat.le_of_lt h)).rung.2
  rw [← M_lt_iff]
  unfold uW
  rw [h1, M_ones]
  exact Nat.mul_lt_mul_of_pos_right h (Nat.pow_pos (by decide))

/-- float64(m). -/
theorem float_whole (m : Nat) : floatOfInt .f64 (m : Int) = rung 0 (m * 2 ^ UP) := by
  have h := nearest_rung false m 0 0 (by decide)
  have e : ((0 : Int) + 1074 + ((0 : Nat) : Int)).toNat = UP := rfl
  rw [e] at h
  have h2 : ((floatOfInt .f64 (m : Int) : Nat) : Int) = ((Ieee.double.nearest false m 0 : Nat) : Int) := by
    have e2 : floatOfInt .f64 (m : Int) = Ieee.double.nearest (decide ((m : Int) < 0)) (m : Int).natAbs 0 := rfl
    rw [e2, decide_eq_false (by omega), Int.natAbs_natCast]
  rw [← h2, show sgn false = 0 from rfl, Int.zero_add] at h
  exact Int.ofNat.inj h
theorem M_two53 : M 4845873199050653696 = 9007199254740992 * 2 ^ UP := by
  have h := M_gen UP
  have e : (UP + 1) * 4503599627370496 + 4503599627370496 = 4845873199050653696 := by rw [UP_eq]
  rw [e] at h
  exact h
theorem quo_unit (m : Nat) : quoR (m * 2 ^ UP) (9007199254740992 * 2 ^ UP) = uW m := by
  unfold quoR uW
  rw [stick_scale]
  obtain ⟨K, h1, h2⟩ : ∃ K, K + 53 = KQ ∧ UD + GQ = K + 1 := ⟨2147, rfl, rfl⟩
  have e1 : m * 2 ^ KQ = 9007199254740992 * (m * 2 ^ K) := by
    rw [← h1, Nat.pow_add, Nat.mul_comm (2 ^ K), Nat.mul_left_comm]
  have e2 : stick m 9007199254740992 KQ = m * 2 ^ UD * 2 ^ GQ := by
    unfold stick
    rw [e1, Nat.mul_div_cancel_left _ (by decide), Nat.mul_mod_right, if_pos rfl, Nat.add_zero, Nat.mul_assoc, ← Nat.pow_add, h2, Nat.pow_succ', Nat.mul_left_comm]
  rw [e2]
  have h3 := rung_scale 0 (m * 2 ^ UD) GQ
  rw [Nat.zero_add] at h3
  exact h3
theorem word_mag {r : Nat} (h : r < 9223372036854775808) : mag (r : Int) = r := by
  unfold mag; rw [if_neg (by omega)]
theorem word_below {r : Nat} (h : r < 9223372036854775808) : belowB (r : Int) = false := decide_eq_false (by omega)
theorem two53_nat : (4845873199050653696 : Int).toNat = 4845873199050653696 := rfl
theorem MZ_two53 : MZ 4845873199050653696 = 9007199254740992 * 2 ^ UP := by
  have mb : mag (4845873199050653696 : Int) = 4845873199050653696 := by decide
  unfold MZ
  rw [mb, two53_nat, M_two53]
theorem MZ_word {r : Nat} (h : r < 9223372036854775808) : MZ (r : Int) = M r := by
  unfold MZ
  rw [word_mag h, Int.toNat_natCast]
theorem div_ok {r : Nat} (h1 : r < 9218868437227405312) : divBad (r : Int) 4845873199050653696 = false := by
  have n1 : nanB (r : Int) = false := by unfold nanB; rw [word_mag (by omega)]; exact decide_eq_false (by omega)
  have i1 : infB (r : Int) = false := by unfold infB; rw [word_mag (by omega)]; exact decide_eq_false (by omega)
  have n2 : nanB 4845873199050653696 = false := by decide
  have i3 : decide (mag (4845873199050653696 : Int) = 0) = false := by decide
  unfold divBad
  rw [n1, n2, i1, i3]
  simp
theorem divZ_unit {r q : Nat} (h1 : r < 9218868437227405312) (hq : quoR (M r) (9007199254740992 * 2 ^ UP) = q) : divZ (r : Int) 4845873199050653696 = (q : Int) := by
  have i1 : infB (r : Int) = false := by unfold infB; rw [word_mag (by omega)]; exact decide_eq_false (by omega)
  have i2 : infB 4845873199050653696 = false := by decide
  have i3 : decide (mag (4845873199050653696 : Int) = 0) = false := by decide
  have b2 : belowB 4845873199050653696 = false := by decide
  unfold divZ
  rw [div_ok h1, i1, i2, i3, word_below (show r < 9223372036854775808 by omega), b2, MZ_word (by omega), MZ_two53, hq]
  exact Int.zero_add _
theorem div_unit {m : Nat} (h : m < 9007199254740992) : floatBits .quo .f64 (rung 0 (m * 2 ^ UP)) 4845873199050653696 = some (uW m) := by
  obtain ⟨h1, h2⟩ := (whole_rep (Nat.le_of_lt h)).rung
  have q := quo_unit m
  rw [← h2] at q
  generalize rung 0 (m * 2 ^ UP) = r at *
  generalize uW m = u at *
  have hd := div_some (a := (r : Int)) (b := 4845873199050653696) ⟨by omega, by omega⟩ ⟨by decide, by decide⟩ (div_ok h1)
  rw [divZ_unit h1 q, two53_nat, Int.toNat_natCast, Int.toNat_natCast] at hd
  exact hd
end Go.Proofs.Yteihehpgegkcpaa
