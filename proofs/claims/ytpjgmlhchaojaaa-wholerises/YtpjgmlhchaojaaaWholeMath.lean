/-
  Layer 4: the whole numbers about a number: plain mathematics.
-/
import Derived.Test.YtpjgmlhchaojaaaSumRef3
import Derived.Test.YtpjgmlhchaojaaaSumLaws
namespace Go.Proofs.Ytpjgmlhchaojaaa
open Go.RowKit Flo

/-- Units in 1. -/
def UN : Nat := 2 ^ OP
theorem UN_pos : 0 < UN := Nat.two_pow_pos _
theorem UN_eq : UN = 2 ^ OP := rfl

/-- Whether the whole number farther from 0 is taken; how: 0 toward 0, 1 down, 2 up, 3 the nearest. -/
def farB (u how : Nat) (neg : Bool) (V : Nat) : Bool := match how with
  | 1 => decide (V % u ≠ 0) && neg
  | 2 => decide (V % u ≠ 0) && !neg
  | 3 => decide (V % u ≠ 0) && (decide (0 < cmpZ (2 * (V % u)) u) || (cmpZ (2 * (V % u)) u == 0 && V / u % 2 == 1))
  | _ => false
def wcut (u how : Nat) (neg : Bool) (V : Nat) : Nat := V / u + (farB u how neg V).toNat

theorem far_exact {u how V : Nat} (neg : Bool) (h : V % u = 0) : farB u how neg V = false := by
  unfold farB; rw [h]; split <;> simp
theorem wcut_exact {u how V : Nat} (neg : Bool) (h : V % u = 0) : wcut u how neg V = V / u := by
  unfold wcut; rw [far_exact neg h]; rfl
theorem far_three {u V : Nat} (hu : 0 < u) (neg : Bool) : farB u 3 neg V = decide (u < 2 * (V % u) ∨ (u = 2 * (V % u) ∧ V / u % 2 = 1)) := by
  show (decide (V % u ≠ 0) && (decide (0 < cmpZ (2 * (V % u)) u) || (cmpZ (2 * (V % u)) u == 0 && V / u % 2 == 1))) = _
  generalize V % u = r
  generalize V / u % 2 = p
  unfold cmpZ
  by_cases c1 : 2 * r < u
  · rw [if_pos c1, decide_eq_false (p := u < 2 * r ∨ _) (by omega)]; simp
  · rw [if_neg c1]
    by_cases c2 : 2 * r = u
    · rw [if_pos c2]
      by_cases c3 : p = 1
      · rw [decide_eq_true (p := u < 2 * r ∨ _) (by omega), decide_eq_true (p := r ≠ 0) (by omega), c3]; decide
      · rw [decide_eq_false (p := u < 2 * r ∨ _) (by omega), beq_false_of_ne c3]; simp
    · rw [if_neg c2, decide_eq_true (p := u < 2 * r ∨ _) (by omega), decide_eq_true (p := r ≠ 0) (by omega)]; simp
theorem far_mono {u how V W : Nat} (neg : Bool) (hu : 0 < u) (hq : V / u = W / u) (hr : V % u ≤ W % u) (h : farB u how neg V = true) : farB u how neg W = true := by
  match how with
  | 0 => exact h
  | 1 =>
    have h' : (decide (V % u ≠ 0) && neg) = true := h
    show (decide (W % u ≠ 0) && neg) = true
    simp only [Bool.and_eq_true, decide_eq_true_eq] at h' ⊢
    exact ⟨by omega, h'.2⟩
  | 2 =>
    have h' : (decide (V % u ≠ 0) && !neg) = true := h
    show (decide (W % u ≠ 0) && !neg) = true
    simp only [Bool.and_eq_true, decide_eq_true_eq] at h' ⊢
    exact ⟨by omega, h'.2⟩
  | 3 =>
    rw [far_three hu] at h ⊢
    have h' := of_decide_eq_true h
    rw [← hq]
    apply decide_eq_true
    omega
  | _ + 4 => exact h
theorem wcut_mono {u how V W : Nat} (neg : Bool) (hu : 0 < u) (h : V ≤ W) : wcut u how neg V ≤ wcut u how neg W := by
  unfold wcut
  have hq : V / u ≤ W / u := Nat.div_le_div_right h
  have b1 : (farB u how neg V).toNat ≤ 1 := Bool.toNat_le _
  rcases Nat.lt_or_eq_of_le hq with c | c
  · omega
  · have hr : V % u ≤ W % u := by
      have e1 := Nat.div_add_mod V u
      have e2 := Nat.div_add_mod W u
      rw [c] at e1
      omega
    cases hf : farB u how neg V
    · rw [c]; simp
    · rw [far_mono neg hu c hr hf, c]; exact Nat.le_refl _
theorem wcut_le (u how : Nat) (neg : Bool) (V : Nat) : wcut u how neg V ≤ V / u + 1 := by
  unfold wcut
  have b1 : (farB u how neg V).toNat ≤ 1 := Bool.toNat_le _
  omega

theorem wcut_rep {r how : Nat} (neg : Bool) (h : r < 9218868437227405312) : Rep (wcut UN how neg (M r) * UN) := by
  by_cases c : M r % UN = 0
  · rw [wcut_exact neg c]
    have := Nat.div_add_mod (M r) UN
    rw [c, Nat.add_zero, Nat.mul_comm] at this
    rw [this]
    exact ⟨r, h, rfl⟩
  · obtain ⟨e, q, _⟩ := M_parts r
    have hl : pl r < OP := by
      apply Classical.byContradiction; intro k
      apply c
      rw [e, UN_eq, pow_split (show OP ≤ pl r by omega), ← Nat.mul_assoc]
      exact Nat.mul_mod_left _ _
    have hd : M r / UN < 4503599627370496 := by
      rw [e, UN_eq, pow_split (show pl r ≤ OP by omega), Nat.mul_div_mul_right _ _ (Nat.two_pow_pos _)]
      have h2 : 2 ^ 1 ≤ 2 ^ (OP - pl r) := Nat.pow_le_pow_right (by decide) (by omega)
      exact Nat.lt_of_le_of_lt (Nat.div_le_div_left h2 (by decide)) (by omega)
    have hw := wcut_le UN how neg (M r)
    have h3 : wcut UN how neg (M r) ≤ 2 ^ 53 := by omega
    have h4 : wcut UN how neg (M r) * 2 ^ OP < 2 ^ TP := by
      have h5 : (2 : Nat) ^ 53 * 2 ^ OP < 2 ^ TP := by
        rw [← Nat.pow_add]
        exact Nat.pow_lt_pow_right (by decide) (by rw [OP_eq, TP_eq]; decide)
      exact Nat.lt_of_le_of_lt (Nat.mul_le_mul_right _ h3) h5
    exact rep_of (by omega) h4

def wholeZ (how : Nat) (a : Int) : Int := if nanB a then 9221120237041090560 else if infB a then a else sgn (belowB a) + (rung 0 (wcut UN how (belowB a) (MZ a) * UN) : Nat)

theorem wholeZ_nan {how : Nat} {a : Int} (h : nanB a = true) : wholeZ how a = 9221120237041090560 := by unfold wholeZ; rw [if_pos h]
theorem wholeZ_inf {how : Nat} {a : Int} (h : infB a = true) : wholeZ how a = a := by
  have hn : nanB a = false := inf_nan (of_decide_eq_true h)
  unfold wholeZ; rw [hn, h]; simp only [Bool.false_eq_true, if_false, if_true]
theorem wholeZ_fin {how : Nat} {a : Int} (h : mag a < 9218868437227405312) : wholeZ how a = sgn (belowB a) + (rung 0 (wcut UN how (belowB a) (MZ a) * UN) : Nat) := by
  unfold wholeZ; rw [fin_nan h, fin_inf h]
  generalize rung 0 (wcut UN how (belowB a) (MZ a) * UN) = R
  simp only [Bool.false_eq_true, if_false]
theorem wholeZ_u64 {how : Nat} {a : Int} (ha : U64 a) : U64 (wholeZ how a) := by
  unfold wholeZ
  have hr := rung_le 0 (wcut UN how (belowB a) (MZ a) * UN)
  generalize rung 0 (wcut UN how (belowB a) (MZ a) * UN) = R at *
  split
  · exact ⟨by decide, by decide⟩
  · split
    · exact ha
    · unfold U64 sgn; cases belowB a <;> simp <;> omega

/-- A word with a sign and a rung that is a number. -/
theorem word_parts (s : Bool) {v : Nat} (h : Rep v) : mag (sgn s + (rung 0 v : Nat)) < 9218868437227405312 ∧ belowB (sgn s + (rung 0 v : Nat)) = s ∧ MZ (sgn s + (rung 0 v : Nat)) = v ∧ SV (sgn s + (rung 0 v : Nat)) = sz s v := by
  obtain ⟨h1, h2⟩ := h.rung
  obtain ⟨w1, w2, w3⟩ := SV_word (s := s) (r := rung 0 v) (by omega)
  refine ⟨by rw [w2]; omega, w3, ?_, by rw [w1, h2]⟩
  unfold MZ
  rw [w2, Int.toNat_natCast, h2]

theorem mag_nat {a : Int} (ha : U64 a) (h : mag a < 9218868437227405312) : (mag a).toNat < 9218868437227405312 := by have := (mag_range ha).1; omega
theorem wh_rep {how : Nat} {a : Int} (neg : Bool) (ha : U64 a) (h : mag a < 9218868437227405312) : Rep (wcut UN how neg (MZ a) * UN) := wcut_rep neg (mag_nat ha h)
theorem wh_parts {how : Nat} {a : Int} (ha : U64 a) (h : mag a < 9218868437227405312) : mag (wholeZ how a) < 9218868437227405312 ∧ belowB (wholeZ how a) = belowB a ∧ MZ (wholeZ how a) = wcut UN how (belowB a) (MZ a) * UN ∧ SV (wholeZ how a) = sz (belowB a) (wcut UN how (belowB a) (MZ a) * UN) := by
  rw [wholeZ_fin h]
  exact word_parts _ (wh_rep _ ha h)

/-- A whole number stays what it is. -/
theorem whole_stays {how : Nat} {a : Int} (ha : U64 a) (h : mag a < 9218868437227405312) (hw : MZ a % UN = 0) : wholeZ how a = a := by
  rw [wholeZ_fin h, wcut_exact _ hw]
  have e : MZ a / UN * UN = MZ a := by
    have := Nat.div_add_mod (MZ a) UN
    rw [hw, Nat.add_zero, Nat.mul_comm] at this
    exact this
  rw [e, rung_MZ ha (by omega)]
  exact (word_again ha).symm
theorem whole_twice {how how' : Nat} {a : Int} (ha : U64 a) : wholeZ how' (wholeZ how a) = wholeZ how a := by
  rcases kindsZ a with k | k | k
  · obtain ⟨p1, p2, p3, p4⟩ := wh_parts (how := how) ha k
    exact whole_stays (wholeZ_u64 ha) p1 (by rw [p3]; exact Nat.mul_mod_left _ _)
  · rw [wholeZ_inf (inf_inf k), wholeZ_inf (inf_inf k)]
  · rw [wholeZ_nan (nan_nan k)]
    exact wholeZ_nan (by decide)

/-- Whether a number is whole. -/
def isZ (a : Int) : Bool := decide (mag a < 9218868437227405312) && decide (MZ a % UN = 0)
theorem is_whole {how : Nat} {a : Int} (ha : U64 a) : isZ (wholeZ how a) = decide (mag (wholeZ how a) < 9218868437227405312) := by
  unfold isZ
  rcases kindsZ a with k | k | k
  · obtain ⟨p1, p2, p3, p4⟩ := wh_parts (how := how) ha k
    rw [p3, decide_eq_true p1, decide_eq_true (Nat.mul_mod_left _ _)]; rfl
  · rw [wholeZ_inf (inf_inf k), decide_eq_false (by omega)]; rfl
  · rw [wholeZ_nan (nan_nan k), decide_eq_false (by decide)]; rfl

end Go.Proofs.Ytpjgmlhchaojaaa
