/-
  SumPlain, SumLaws, DecMath, DecQuo, DecQuo2, TxtMath
-/
import Derived.Lib.Strings
import Derived.Test.YtfhoimfjfbbhaaaDoorZ07

/-
  Plain laws of sums and products: either order, signs.
-/
namespace Go.Proofs.YtfhoimfjfbbhaaaDoor
set_option maxRecDepth 100000
open Go.RowKit Flo

theorem addBad_comm (a b : Int) : addBad a b = addBad b a := by
  unfold addBad
  cases nanB a <;> cases nanB b <;> cases infB a <;> cases infB b <;> cases belowB a <;> cases belowB b <;> rfl
theorem addZ_comm {a b : Int} (ha : U64 a) (hb : U64 b) : addZ a b = addZ b a := by
  unfold addZ
  rw [addBad_comm b a]
  cases hbad : addBad a b
  · simp only [Bool.false_eq_true, if_false]
    cases h1 : infB a <;> cases h2 : infB b
    · simp only [Bool.false_eq_true, if_false]
      rw [Bool.and_comm, Int.add_comm]
    · simp only [Bool.false_eq_true, if_false, if_true]
    · simp only [Bool.false_eq_true, if_false, if_true]
    · simp only [if_true]
      unfold addBad at hbad
      rw [h1, h2] at hbad
      have hx : (belowB a ^^ belowB b) = false := by
        revert hbad; cases nanB a <;> cases nanB b <;> simp
      have e1 := inf_word ha (of_decide_eq_true h1)
      have e2 := inf_word hb (of_decide_eq_true h2)
      have : belowB a = belowB b := by revert hx; cases belowB a <;> cases belowB b <;> simp
      rw [this] at e1
      exact e1.trans e2.symm
  · simp only [if_true]
theorem nanZ_nan : nanB 9221120237041090560 = true := by decide
theorem neg_of_nan {b : Int} (h : nanB b = true) : negZ b = 9221120237041090560 := by unfold negZ; rw [h]; rfl
theorem neg_nan (b : Int) (hb : U64 b) : nanB (negZ b) = nanB b := by
  cases h : nanB b
  · have := (neg_parts hb h).1
    unfold nanB at h ⊢
    rw [this, h]
  · rw [neg_of_nan h, nanZ_nan]
theorem neg_neg {b : Int} (hb : U64 b) (h : nanB b = false) : negZ (negZ b) = b := by
  have h2 := neg_nan b hb
  rw [h] at h2
  obtain ⟨h0, h1⟩ := hb
  unfold negZ at h2 ⊢
  rw [h] at h2 ⊢
  simp only [Bool.false_eq_true, if_false] at h2 ⊢
  rw [h2]
  simp only [Bool.false_eq_true, if_false]
  by_cases c : 9223372036854775808 ≤ b
  · rw [if_pos c, if_neg (by omega)]; omega
  · rw [if_neg c, if_pos (by omega)]; omega
theorem addZ_nanl {a b : Int} (h : nanB a = true) : addZ a b = 9221120237041090560 := by unfold addZ addBad; rw [h]; simp
theorem addZ_nanr {a b : Int} (h : nanB b = true) : addZ a b = 9221120237041090560 := by unfold addZ addBad; rw [h]; simp
theorem sub_neg {a b : Int} (hb : U64 b) : subZ a (negZ b) = addZ a b := by
  unfold subZ
  cases h : nanB b
  · rw [neg_neg hb h]
  · rw [addZ_nanr h, addZ_nanr]
    rw [neg_nan _ (negZ_u64 hb), neg_nan _ hb, h]

theorem mulBad_comm (a b : Int) : mulBad a b = mulBad b a := by
  unfold mulBad
  cases nanB a <;> cases nanB b <;> cases infB a <;> cases infB b <;> cases decide (mag a = 0) <;> cases decide (mag b = 0) <;> rfl
theorem mulZ_comm (a b : Int) : mulZ a b = mulZ b a := by
  unfold mulZ
  rw [mulBad_comm b a, Bool.or_comm (infB b), Bool.xor_comm (belowB b), Nat.mul_comm (MZ b)]
theorem neg_sgn (s : Bool) {r : Nat} (h : r ≤ 9218868437227405312) : negZ (sgn s + (r : Int)) = sgn (!s) + (r : Int) := by
  unfold negZ nanB mag sgn
  cases s
  · simp only [Bool.false_eq_true, if_false, Bool.not_false, if_true]
    rw [if_neg (show ¬ (9223372036854775808 : Int) ≤ 0 + (r : Int) by omega), decide_eq_false (by omega)]
    simp only [Bool.false_eq_true, if_false]
    rw [if_neg (show ¬ (9223372036854775808 : Int) ≤ 0 + (r : Int) by omega)]
    omega
  · simp only [Bool.false_eq_true, if_false, Bool.not_true, if_true]
    rw [if_pos (show (9223372036854775808 : Int) ≤ 9223372036854775808 + (r : Int) by omega), decide_eq_false (by omega)]
    simp only [Bool.false_eq_true, if_false]
    rw [if_pos (show (9223372036854775808 : Int) ≤ 9223372036854775808 + (r : Int) by omega)]
    omega
theorem mulZ_neg {a b : Int} (ha : U64 a) : mulZ (negZ a) b = negZ (mulZ a b) := by
  cases h : nanB a
  · obtain ⟨e1, e2⟩ := neg_parts ha h
    have e3 := neg_nan a ha
    have e4 : infB (negZ a) = infB a := by unfold infB; rw [e1]
    have e5 : MZ (negZ a) = MZ a := by unfold MZ; rw [e1]
    have e6 : mulBad (negZ a) b = mulBad a b := by unfold mulBad; rw [e1, e3, e4]
    unfold mulZ
    rw [e6, e4, e5, e2]
    have hx : (!belowB a ^^ belowB b) = !(belowB a ^^ belowB b) := by cases belowB a <;> cases belowB b <;> rfl
    rw [hx]
    split
    · rw [neg_of_nan nanZ_nan]
    · split
      · exact (neg_sgn _ (Nat.le_refl _)).symm
      · exact (neg_sgn _ (rung_le _ _)).symm
  · have e1 : mulZ a b = 9221120237041090560 := by unfold mulZ mulBad; rw [h]; simp
    have e2 : mulZ (negZ a) b = 9221120237041090560 := by unfold mulZ mulBad; rw [neg_nan a ha, h]; simp
    rw [e1, e2, neg_of_nan nanZ_nan]

end Go.Proofs.YtfhoimfjfbbhaaaDoor

/-
  Plain mathematics of the statements of layer 2.
-/
namespace Go.Proofs.YtfhoimfjfbbhaaaDoor
set_option maxRecDepth 100000
open Go.RowKit Flo

/-- The place of one, in units. -/
def OP : Nat := 1074
theorem OP_eq : OP = 1074 := rfl

theorem word_again {a : Int} (h : U64 a) : a = sgn (belowB a) + mag a := by
  obtain ⟨h0, h1⟩ := h
  unfold belowB sgn mag
  by_cases c : 9223372036854775808 ≤ a
  · rw [decide_eq_true c, if_pos rfl, if_pos c]; omega
  · rw [decide_eq_false c, if_neg c]; simp
theorem M_pow (k : Nat) : M (k * 4503599627370496 + 4503599627370496) = 2 ^ (52 + k) := by
  rw [M_at (by omega) (Or.inr (by omega)), Nat.pow_add]
theorem rung_units (v : Nat) : rung 1074 (v * 2 ^ OP) = rung 0 v := by
  have h := rung_scale 0 v OP
  rw [Nat.zero_add] at h
  rw [← OP_eq]
  exact h
theorem rung_MZ {a : Int} (h : U64 a) (hm : mag a ≤ 9218868437227405312) : ((rung 0 (MZ a) : Nat) : Int) = mag a := by
  unfold MZ
  have := (mag_range h).1
  rw [rung_M (by omega)]
  omega
theorem SV_zero : SV 0 = 0 := by
  have : MZ 0 = 0 := by unfold MZ mag; rfl
  unfold SV
  rw [this, sz_nought]
theorem MZ_0 {a : Int} (h : U64 a) : MZ a = 0 ↔ mag a = 0 := by
  have h0 := (mag_range h).1
  unfold MZ
  have := @M_inj (mag a).toNat 0
  rw [M_zero] at this
  rw [this]
  omega
theorem SV_neg {a : Int} (h : U64 a) (hn : nanB a = false) : SV (negZ a) = -SV a := by
  obtain ⟨e1, e2⟩ := neg_parts h hn
  unfold SV MZ
  rw [e1, e2]
  unfold sz
  cases belowB a <;> simp
/-- A finite number made anew of what it stands for. -/
theorem near_self {a : Int} (h : U64 a) (hm : mag a < 9218868437227405312) (h0 : mag a ≠ 0) (z : Bool) : nearZ z (SV a) = a := by
  have hz : MZ a ≠ 0 := fun k => h0 ((MZ_0 h).1 k)
  have e := word_again h
  rw [← rung_MZ h (by omega)] at e
  unfold nearZ SV
  have e1 : sz (belowB a) (MZ a) ≠ 0 := by unfold sz; cases belowB a <;> simp <;> omega
  have e2 : decide (sz (belowB a) (MZ a) < 0) = belowB a := by unfold sz; cases belowB a <;> simp <;> omega
  have e3 : (sz (belowB a) (MZ a)).natAbs = MZ a := by unfold sz; cases belowB a <;> simp
  rw [if_neg e1, e2, e3]
  exact e.symm
theorem one_mag : mag 4607182418800017408 = 4607182418800017408 := by decide
theorem one_below : belowB 4607182418800017408 = false := by decide
theorem one_MZ : MZ 4607182418800017408 = 2 ^ OP := by
  unfold MZ
  rw [one_mag, show (4607182418800017408 : Int).toNat = 1022 * 4503599627370496 + 4503599627370496 by decide, M_pow]
  congr 1

/-! What nothing, and one, do. -/
theorem nothing_nan {a : Int} (h : nanB a = true) : addZ a 0 = 9221120237041090560 ∧ mulZ a 4607182418800017408 = 9221120237041090560 := by
  exact ⟨addZ_nanl h, by unfold mulZ mulBad; rw [h]; simp⟩
theorem nothing_mul {a : Int} (ha : U64 a) (h : nanB a = false) : mulZ a 4607182418800017408 = a := by
  have e0 : nanB 4607182418800017408 = false := by decide
  have e1 : infB 4607182418800017408 = false := by decide
  have e2 : decide (mag 4607182418800017408 = 0) = false := by decide
  unfold mulZ mulBad
  rw [h, e0, e1, e2, one_below, one_MZ, rung_units]
  cases hi : infB a
  · have hm : mag a < 9218868437227405312 := by
      unfold infB at hi; unfold nanB at h
      have := of_decide_eq_false hi
      have := of_decide_eq_false h
      omega
    simp only [Bool.and_false, Bool.or_false, Bool.false_eq_true, if_false, Bool.xor_false]
    rw [rung_MZ ha (by omega)]
    exact (word_again ha).symm
  · simp only [Bool.and_false, Bool.or_false, Bool.false_eq_true, if_false, Bool.xor_false, if_true]
    exact (inf_word ha (of_decide_eq_true hi)).symm
theorem zero_parts : nanB 0 = false ∧ infB 0 = false ∧ belowB 0 = false := by decide
theorem nothing_add {a : Int} (ha : U64 a) (h : nanB a = false) : equalB (addZ a 0) a = true := by
  obtain ⟨z1, z2, z3⟩ := zero_parts
  unfold addZ addBad
  rw [h, z1, z2, z3]
  cases hi : infB a
  · simp only [Bool.false_or, Bool.false_and, Bool.false_eq_true, if_false, Bool.and_false]
    have hm : mag a < 9218868437227405312 := by
      unfold infB at hi; unfold nanB at h
      have := of_decide_eq_false hi
      have := of_decide_eq_false h
      omega
    rw [SV_zero, Int.add_zero]
    by_cases c : mag a = 0
    · have e : SV a = 0 := by unfold SV; rw [(MZ_0 ha).2 c, sz_nought]
      rw [e]
      have e2 : nearZ false 0 = 0 := by unfold nearZ; rw [if_pos rfl]; rfl
      rw [e2]
      unfold equalB
      rw [h, z1]
      have : sv a = 0 := by unfold sv; unfold mag at c; split at c <;> omega
      rw [this]; decide
    · rw [near_self ha hm c, equalB_self, h]; rfl
  · simp only [Bool.false_or, Bool.false_and, Bool.and_false, Bool.false_eq_true, if_false, if_true]
    rw [equalB_self, h]; rfl
theorem nothing_sub_inf {a : Int} (ha : U64 a) (h : mag a = 9218868437227405312) : subZ a a = 9221120237041090560 := by
  obtain ⟨e1, e2⟩ := neg_parts ha (inf_nan h)
  have e3 : infB (negZ a) = true := by unfold infB; rw [e1]; exact decide_eq_true h
  unfold subZ addZ addBad
  rw [inf_inf h, e3, e2]
  cases belowB a <;> simp
theorem addZ_finite {a b : Int} (ha : mag a < 9218868437227405312) (hb : mag b < 9218868437227405312) : addZ a b = nearZ (belowB a && belowB b) (SV a + SV b) := by
  unfold addZ addBad
  rw [fin_nan ha, fin_nan hb, fin_inf ha, fin_inf hb]; simp
theorem mulZ_finite {a b : Int} (ha : mag a < 9218868437227405312) (hb : mag b < 9218868437227405312) : mulZ a b = sgn (belowB a ^^ belowB b) + (rung 1074 (MZ a * MZ b) : Nat) := by
  unfold mulZ mulBad; rw [fin_nan ha, fin_nan hb, fin_inf ha, fin_inf hb]; simp
theorem subZ_finite {a b : Int} (hu : U64 b) (ha : mag a < 9218868437227405312) (hb : mag b < 9218868437227405312) : subZ a b = nearZ (belowB a && !belowB b) (SV a - SV b) := by
  obtain ⟨e1, e2⟩ := neg_parts hu (fin_nan hb)
  unfold subZ
  rw [addZ_finite ha (by omega), SV_neg hu (fin_nan hb), e2, Int.sub_eq_add_neg]
theorem nothing_sub {a : Int} (ha : U64 a) (h : mag a < 9218868437227405312) : subZ a a = 0 := by
  rw [subZ_finite ha h h, Int.sub_self]
  unfold nearZ
  rw [if_pos rfl]
  cases belowB a <;> rfl

/-! Order. -/
theorem sv_sz {a : Int} (ha : U64 a) : sv a = sz (belowB a) (mag a).toNat := by
  obtain ⟨h0, h1⟩ := ha
  unfold sv belowB mag sz
  by_cases c : 9223372036854775808 ≤ a
  · rw [if_pos c, decide_eq_true c, if_pos rfl, if_pos c]; omega
  · rw [if_neg c, decide_eq_false c, if_neg c]; simp; omega
theorem SV_mono {a b : Int} (ha : U64 a) (hb : U64 b) (h : sv a ≤ sv b) : SV a ≤ SV b := by
  rw [sv_sz ha, sv_sz hb] at h
  have k := cmp_sz (belowB b) (belowB a) (mag b).toNat (mag a).toNat
  unfold SV MZ
  generalize sz (belowB a) (mag a).toNat = x at *
  generalize sz (belowB b) (mag b).toNat = y at *
  generalize sz (belowB a) (M (mag a).toNat) = X at *
  generalize sz (belowB b) (M (mag b).toNat) = Y at *
  rcases Int.lt_or_le Y X with q | q
  · exfalso
    have e1 : (compare Y X == .lt) = true := by rw [cmp_lt]; exact decide_eq_true q
    rw [k, cmp_lt] at e1
    have := of_decide_eq_true e1
    omega
  · exact q
theorem nearZ_sv (z : Bool) (T : Int) : sv (nearZ z T) = sz (decide (T < 0)) (rung 0 T.natAbs) := by
  have h := nearZ_u64 z T
  have hr := rung_le 0 T.natAbs
  by_cases c : T = 0
  · subst c
    unfold nearZ
    rw [if_pos rfl, Int.natAbs_zero, rung_tiny (by simp), sz_nought]
    cases z <;> decide
  · have e : nearZ z T = sgn (decide (T < 0)) + (rung 0 T.natAbs : Nat) := by unfold nearZ; rw [if_neg c]
    obtain ⟨w1, w2, w3⟩ := SV_word (s := decide (T < 0)) hr
    rw [sv_sz h, e, w2, w3, Int.toNat_natCast]
theorem near_mono {S T : Int} (h : S ≤ T) : sz (decide (S < 0)) (rung 0 S.natAbs) ≤ sz (decide (T < 0)) (rung 0 T.natAbs) := by
  by_cases c1 : S < 0
  · by_cases c2 : T < 0
    · have := rung_mono 0 (show T.natAbs ≤ S.natAbs by omega)
      rw [decide_eq_true c1, decide_eq_true c2]
      unfold sz
      simp only [if_true]
      omega
    · rw [decide_eq_true c1, decide_eq_false c2]
      unfold sz
      simp only [if_true, Bool.false_eq_true, if_false]
      omega
  · have c2 : ¬ T < 0 := by omega
    have := rung_mono 0 (show S.natAbs ≤ T.natAbs by omega)
    rw [decide_eq_false c1, decide_eq_false c2]
    unfold sz
    simp only [Bool.false_eq_true, if_false]
    omega
theorem rises_add {a b c : Int} (ha : U64 a) (hb : U64 b) (fa : mag a < 9218868437227405312) (fb : mag b < 9218868437227405312) (fc : mag c < 9218868437227405312) (h : sv a ≤ sv b) : lessB (addZ b c) (addZ a c) = false := by
  have h1 := SV_mono ha hb h
  rw [addZ_finite fb fc, addZ_finite fa fc]
  unfold lessB
  rw [nearZ_nan, nearZ_nan, nearZ_sv, nearZ_sv]
  have := near_mono (show SV a + SV c ≤ SV b + SV c by omega)
  simp only [Bool.not_false, Bool.true_and]
  exact decide_eq_false (by omega)
theorem word_sv {s : Bool} {r : Nat} (h : r ≤ 9218868437227405312) : sv (sgn s + (r : Int)) = sz s r ∧ nanB (sgn s + (r : Int)) = false := by
  obtain ⟨w1, w2, w3⟩ := SV_word (s := s) h
  have hu : U64 (sgn s + (r : Int)) := by unfold U64 sgn; cases s <;> simp <;> omega
  refine ⟨?_, ?_⟩
  · rw [sv_sz hu, w2, w3, Int.toNat_natCast]
  · unfold nanB; rw [w2]; exact decide_eq_false (by omega)
theorem rises_mul {a b d : Int} (ha : U64 a) (hb : U64 b) (fa : mag a < 9218868437227405312) (fb : mag b < 9218868437227405312) (fd : mag d < 9218868437227405312) (hd : belowB d = false) (h : sv a ≤ sv b) : lessB (mulZ b d) (mulZ a d) = false := by
  have h1 := SV_mono ha hb h
  rw [mulZ_finite fb fd, mulZ_finite fa fd, hd, Bool.xor_false, Bool.xor_false]
  obtain ⟨p1, p2⟩ := word_sv (s := belowB b) (rung_le 1074 (MZ b * MZ d))
  obtain ⟨q1, q2⟩ := word_sv (s := belowB a) (rung_le 1074 (MZ a * MZ d))
  unfold lessB
  rw [p1, p2, q1, q2]
  simp only [Bool.not_false, Bool.true_and]
  refine decide_eq_false ?_
  unfold SV at h1
  have z0 : rung 1074 (0 * MZ d) = 0 := by rw [Nat.zero_mul]; exact rung_tiny (Nat.zero_le _)
  cases sa : belowB a <;> cases sb : belowB b
  · rw [sa, sb] at h1
    unfold sz at h1 ⊢
    simp only [Bool.false_eq_true, if_false] at h1 ⊢
    have := rung_mono 1074 (Nat.mul_le_mul_right (MZ d) (show MZ a ≤ MZ b by omega))
    omega
  · rw [sa, sb] at h1
    unfold sz at h1 ⊢
    simp only [Bool.false_eq_true, if_false, if_true] at h1 ⊢
    have e1 : MZ a = 0 := by omega
    have e2 : MZ b = 0 := by omega
    rw [e1, e2, z0]
    decide
  · unfold sz
    simp only [Bool.false_eq_true, if_false, if_true]
    omega
  · rw [sa, sb] at h1
    unfold sz at h1 ⊢
    simp only [if_true] at h1 ⊢
    have := rung_mono 1074 (Nat.mul_le_mul_right (MZ d) (show MZ b ≤ MZ a by omega))
    omega

/-! Whole numbers. -/
def wholeN (n : Nat) : Nat := rung 0 (n * 2 ^ OP)
theorem whole_rep {n : Nat} (h : n < 9007199254740992) : Rep (n * 2 ^ OP) := by
  have h1 := OP_eq
  have h2 := TP_eq
  refine rep_lt h (Nat.lt_of_lt_of_le (scaled_lt (L := 53) (by omega)) (Nat.pow_le_pow_right (by decide) (by omega)))
theorem whole_parts {n : Nat} (h : n < 9007199254740992) : mag (wholeN n : Nat) < 9218868437227405312 ∧ SV (wholeN n : Nat) = ((n * 2 ^ OP : Nat) : Int) ∧ belowB (wholeN n : Nat) = false ∧ MZ (wholeN n : Nat) = n * 2 ^ OP ∧ U64 (wholeN n : Nat) := by
  obtain ⟨h1, h2⟩ := (whole_rep h).rung
  obtain ⟨w1, w2, w3⟩ := SV_word (s := false) (rung_le 0 (n * 2 ^ OP))
  have e : sgn false + ((rung 0 (n * 2 ^ OP) : Nat) : Int) = ((wholeN n : Nat) : Int) := by unfold sgn wholeN; simp
  rw [e] at w1 w2 w3
  have hz : MZ (wholeN n : Nat) = n * 2 ^ OP := by unfold MZ; rw [w2, Int.toNat_natCast, h2]
  refine ⟨by omega, ?_, w3, hz, ?_⟩
  · rw [w1, h2]; rfl
  · unfold U64 wholeN; omega
theorem near_whole (n : Nat) : nearZ false ((n * 2 ^ OP : Nat) : Int) = (wholeN n : Nat) := by
  unfold nearZ wholeN
  by_cases c : ((n * 2 ^ OP : Nat) : Int) = 0
  · rw [if_pos c]
    have e : n * 2 ^ OP = 0 := by omega
    rw [e, rung_tiny (by simp)]; rfl
  · rw [if_neg c, decide_eq_false (by omega), Int.natAbs_natCast]
    unfold sgn; simp
theorem exact_add {x y : Nat} (hx : x < 67108864) (hy : y < 67108864) : addZ (wholeN x : Nat) (wholeN y : Nat) = (wholeN (x + y) : Nat) := by
  obtain ⟨a1, a2, a3, a4, a5⟩ := whole_parts (show x < 9007199254740992 by omega)
  obtain ⟨b1, b2, b3, b4, b5⟩ := whole_parts (show y < 9007199254740992 by omega)
  rw [addZ_finite a1 b1, a2, b2, a3, b3, ← near_whole, Nat.add_mul, Int.natCast_add]
  rfl
theorem exact_sub {x y : Nat} (hx : x < 67108864) (hy : y < 67108864) : subZ (wholeN (x + y) : Nat) (wholeN y : Nat) = (wholeN x : Nat) := by
  obtain ⟨a1, a2, a3, a4, a5⟩ := whole_parts (show x + y < 9007199254740992 by omega)
  obtain ⟨b1, b2, b3, b4, b5⟩ := whole_parts (show y < 9007199254740992 by omega)
  rw [subZ_finite b5 a1 b1, a2, b2, a3, b3, ← near_whole, Nat.add_mul, Int.natCast_add, Int.add_sub_cancel]
  rfl
theorem exact_mul {x y : Nat} (hx : x < 67108864) (hy : y < 67108864) : mulZ (wholeN x : Nat) (wholeN y : Nat) = (wholeN (x * y) : Nat) := by
  obtain ⟨a1, a2, a3, a4, a5⟩ := whole_parts (show x < 9007199254740992 by omega)
  obtain ⟨b1, b2, b3, b4, b5⟩ := whole_parts (show y < 9007199254740992 by omega)
  have e : x * 2 ^ OP * (y * 2 ^ OP) = x * y * 2 ^ OP * 2 ^ OP := by grind
  rw [mulZ_finite a1 b1, a3, b3, a4, b4, e, rung_units]
  unfold sgn wholeN
  simp

/-! Powers of two. -/
theorem two_parts (k : Nat) (hk : k < 100) : mag ((1023 + (k : Int)) * 4503599627370496) < 9218868437227405312 ∧ belowB ((1023 + (k : Int)) * 4503599627370496) = false ∧ MZ ((1023 + (k : Int)) * 4503599627370496) = 2 ^ k * 2 ^ OP := by
  have e : mag ((1023 + (k : Int)) * 4503599627370496) = (1023 + (k : Int)) * 4503599627370496 := by unfold mag; rw [if_neg (by omega)]
  refine ⟨by rw [e]; omega, decide_eq_false (by omega), ?_⟩
  unfold MZ
  rw [e, show ((1023 + (k : Int)) * 4503599627370496).toNat = (1022 + k) * 4503599627370496 + 4503599627370496 by omega, M_pow, ← Nat.pow_add]
  congr 1
  have := OP_eq
  omega
theorem scales_mul {a : Int} (ha : mag a < 9218868437227405312) (k : Nat) (hk : k < 100) : mulZ a ((1023 + (k : Int)) * 4503599627370496) = sgn (belowB a) + (rung 0 (MZ a * 2 ^ k) : Nat) := by
  obtain ⟨t1, t2, t3⟩ := two_parts k hk
  rw [mulZ_finite ha t1, t2, t3, Bool.xor_false, ← Nat.mul_assoc, rung_units]
theorem scales_add {a : Int} (hu : U64 a) (ha : mag a < 9218868437227405312) (h0 : mag a ≠ 0) : addZ a a = sgn (belowB a) + (rung 0 (2 * MZ a) : Nat) := by
  have hz : MZ a ≠ 0 := fun k => h0 ((MZ_0 hu).1 k)
  rw [addZ_finite ha ha]
  unfold nearZ SV sz
  cases belowB a
  · simp only [Bool.false_eq_true, if_false]
    rw [if_neg (by omega), decide_eq_false (by omega), show ((MZ a : Int) + (MZ a : Int)).natAbs = 2 * MZ a by omega]
  · simp only [if_true]
    rw [if_neg (by omega), decide_eq_true (by omega), show (-(MZ a : Int) + -(MZ a : Int)).natAbs = 2 * MZ a by omega]

/-! What a sum lacks. -/
theorem loses {a b : Int} (ha : U64 a) (hb : U64 b) (fa : mag a < 9218868437227405312) (fb : mag b < 9218868437227405312) (hle : mag b ≤ mag a) (hs : mag (addZ a b) < 9218868437227405312) :
    mag (subZ b (subZ (addZ a b) a)) < 9218868437227405312 ∧ SV (addZ a b) + SV (subZ b (subZ (addZ a b) a)) = SV a + SV b := by
  have hsu := addZ_u64 ha hb
  have es := addZ_finite fa fb
  have ma := mag_range ha
  have mb := mag_range hb
  obtain ⟨n1, n2⟩ := SV_near2 (belowB a && belowB b) (SV a + SV b)
  rw [← es] at n1 n2
  -- the sum seen with the first one's sign
  have key : RepI (SV (addZ a b) - SV a) ∧ RepI (SV b - (SV (addZ a b) - SV a)) := by
    obtain ⟨V, hV⟩ : ∃ V : Nat, V = (SV a + SV b).natAbs := ⟨_, rfl⟩
    have hM : M (mag b).toNat ≤ M (mag a).toNat := by
      rcases Nat.lt_or_ge (M (mag a).toNat) (M (mag b).toNat) with k | k
      · have := M_lt_iff.1 k; omega
      · exact k
    have f := fast2sum (mag a).toNat (mag b).toNat (by omega) (by omega) (belowB a ^^ belowB b) V
    have hfin : rung 0 V < 9218868437227405312 := by rw [hV]; omega
    rw [← hV] at n1
    have hz : V = 0 → M (rung 0 V) = 0 := by intro k; rw [k, rung_tiny (by simp), M_zero]
    unfold SV at hV n1 ⊢
    unfold MZ at hV n1 ⊢
    have n1' : sz (belowB (addZ a b)) (M (mag (addZ a b)).toNat) = sz (decide (sz (belowB a) (M (mag a).toNat) + sz (belowB b) (M (mag b).toNat) < 0)) (M (rung 0 V)) := n1
    rw [n1']
    generalize M (mag a).toNat = x at *
    generalize M (mag b).toNat = y at *
    generalize M (rung 0 V) = S at *
    clear n1 n1' n2 es hs hsu
    generalize belowB a = sa at *
    generalize belowB b = sb at *
    cases sa <;> cases sb
    · have g := f (by unfold sz at hV ⊢; simp at hV ⊢; omega) hfin
      unfold sz at g hV ⊢
      simp only [Bool.false_eq_true, if_false, Bool.xor_false] at g hV ⊢
      rw [decide_eq_false (show ¬ (x : Int) + (y : Int) < 0 by omega)]
      exact g
    · have g := f (by unfold sz at hV ⊢; simp at hV ⊢; omega) hfin
      unfold sz at g hV ⊢
      simp only [Bool.false_eq_true, if_false, if_true, Bool.false_xor] at g hV ⊢
      rw [decide_eq_false (show ¬ (x : Int) + -(y : Int) < 0 by omega)]
      exact g
    · have g := f (by unfold sz at hV ⊢; simp at hV ⊢; omega) hfin
      unfold sz at g hV ⊢
      simp only [Bool.false_eq_true, if_false, if_true, Bool.xor_false] at g hV ⊢
      obtain ⟨g1, g2⟩ := g
      by_cases c : -(x : Int) + (y : Int) < 0
      · rw [decide_eq_true c]
        simp only [if_true]
        refine ⟨?_, ?_⟩
        · have := g1.neg; rw [show -((S : Int) - (x : Int)) = -(S : Int) - -(x : Int) by omega] at this; exact this
        · have := g2.neg; rw [show -(-(y : Int) - ((S : Int) - (x : Int))) = (y : Int) - (-(S : Int) - -(x : Int)) by omega] at this; exact this
      · have hS0 : S = 0 := hz (by omega)
        rw [decide_eq_false c]
        simp only [Bool.false_eq_true, if_false]
        refine ⟨?_, ?_⟩
        · have := g1.neg; rw [show -((S : Int) - (x : Int)) = (S : Int) - -(x : Int) by omega] at this; exact this
        · have := g2.neg; rw [show -(-(y : Int) - ((S : Int) - (x : Int))) = (y : Int) - ((S : Int) - -(x : Int)) by omega] at this; exact this
    · have g := f (by unfold sz at hV ⊢; simp at hV ⊢; omega) hfin
      unfold sz at g hV ⊢
      simp only [Bool.false_eq_true, if_false, if_true, Bool.xor_self] at g hV ⊢
      obtain ⟨g1, g2⟩ := g
      by_cases c : -(x : Int) + -(y : Int) < 0
      · rw [decide_eq_true c]
        simp only [if_true]
        refine ⟨?_, ?_⟩
        · have := g1.neg; rw [show -((S : Int) - (x : Int)) = -(S : Int) - -(x : Int) by omega] at this; exact this
        · have := g2.neg; rw [show -((y : Int) - ((S : Int) - (x : Int))) = -(y : Int) - (-(S : Int) - -(x : Int)) by omega] at this; exact this
      · have hS0 : S = 0 := hz (by omega)
        rw [decide_eq_false c]
        simp only [Bool.false_eq_true, if_false]
        refine ⟨?_, ?_⟩
        · have := g1.neg; rw [show -((S : Int) - (x : Int)) = (S : Int) - -(x : Int) by omega] at this; exact this
        · have := g2.neg; rw [show -((y : Int) - ((S : Int) - (x : Int))) = -(y : Int) - ((S : Int) - -(x : Int)) by omega] at this; exact this
  obtain ⟨k1, k2⟩ := key
  obtain ⟨d1, d2⟩ := SV_near (belowB (addZ a b) && !belowB a) k1
  rw [← subZ_finite ha hs fa] at d1 d2
  have du : U64 (subZ (addZ a b) a) := addZ_u64 hsu (negZ_u64 ha)
  rw [← d1] at k2
  obtain ⟨e1, e2⟩ := SV_near (belowB b && !belowB (subZ (addZ a b) a)) k2
  rw [← subZ_finite du fb d2] at e1 e2
  refine ⟨e2, ?_⟩
  rw [e1, d1]
  omega

end Go.Proofs.YtfhoimfjfbbhaaaDoor

/-
  Layer 5: the number nearest to a quotient of whole numbers, and to a numeral.
-/
namespace Go.Proofs.YtfhoimfjfbbhaaaDoor
set_option maxRecDepth 100000
open Go.RowKit Flo

/-- So many bits more that a quotient by B has enough of them. -/
def KN (B : Nat) : Nat := OP + 100 + B.log2
/-- The rung nearest to A / B. -/
def nearR (A B : Nat) : Nat := if A = 0 then 0 else rung (KN B + 1 - OP) (stick A B (KN B))

theorem enough {A B : Nat} (hA : A ≠ 0) (hB : 0 < B) : 9007199254740992 ≤ A * 2 ^ KN B / B := by
  rw [Nat.le_div_iff_mul_le hB]
  have h1 : B < 2 ^ (B.log2 + 1) := Nat.lt_log2_self
  have h2 : 9007199254740992 * B ≤ 2 ^ 53 * 2 ^ (B.log2 + 1) := Nat.mul_le_mul (by decide) (Nat.le_of_lt h1)
  rw [← Nat.pow_add] at h2
  have h3 : (2 : Nat) ^ (53 + (B.log2 + 1)) ≤ 2 ^ KN B := Nat.pow_le_pow_right (by decide) (by unfold KN; omega)
  have h4 : 2 ^ KN B ≤ A * 2 ^ KN B := Nat.le_mul_of_pos_left _ (by omega)
  omega
/-- With any number of bits that are enough, the same is told. -/
theorem near_bits {A B k : Nat} (hA : A ≠ 0) (hB : 0 < B) (hq : 9007199254740992 ≤ A * 2 ^ k / B) : rung k (stick A B k * 2 ^ (OP - 1)) = nearR A B := by
  have hO : 1 ≤ OP := by rw [OP_eq]; decide
  have hK : OP ≤ KN B + 1 := by unfold KN; omega
  have hk0 := enough hA hB
  unfold nearR
  rw [if_neg hA]
  have e1 : rung (KN B + 1 - OP) (stick A B (KN B)) = rung (KN B) (stick A B (KN B) * 2 ^ (OP - 1)) := by
    rw [← rung_scale (KN B + 1 - OP) (stick A B (KN B)) (OP - 1), show KN B + 1 - OP + (OP - 1) = KN B by omega]
  rw [e1]
  generalize KN B = K at *
  rcases Nat.le_total k K with h | h
  · obtain ⟨t, rfl⟩ := Nat.exists_eq_add_of_le h
    rw [← stick_more hB hq (g := k + t) (x := OP - 1) (t := t), Nat.pow_add, ← Nat.mul_assoc, rung_scale]
  · obtain ⟨t, rfl⟩ := Nat.exists_eq_add_of_le h
    rw [← stick_more hB hk0 (g := K + t) (x := OP - 1) (t := t), Nat.pow_add, ← Nat.mul_assoc, rung_scale]
/-- Of a whole number. -/
theorem nearR_whole (N : Nat) : rung 0 (N * 2 ^ OP) = nearR N 1 := by
  by_cases h : N = 0
  · subst h
    rw [Nat.zero_mul, rung_tiny (Nat.zero_le _)]; rfl
  · have hq : 9007199254740992 ≤ N * 2 ^ 53 / 1 := by
      rw [Nat.div_one]; exact Nat.le_mul_of_pos_left _ (by omega)
    rw [← near_bits h (by decide) hq]
    have e : stick N 1 53 = N * 2 ^ 54 := by
      unfold stick
      rw [Nat.div_one, Nat.mod_one, if_pos rfl, Nat.add_zero, Nat.mul_left_comm]
    have e2 : N * 2 ^ 54 * 2 ^ (OP - 1) = N * 2 ^ OP * 2 ^ 53 := by
      have hO : 1 ≤ OP := by rw [OP_eq]; decide
      rw [Nat.mul_assoc, Nat.mul_assoc, ← Nat.pow_add, ← Nat.pow_add, show 54 + (OP - 1) = OP + 53 by omega]
    rw [e, e2]
    have := rung_scale 0 (N * 2 ^ OP) 53
    rw [Nat.zero_add] at this
    rw [this]

/-- The rung nearest to D times 10 to the power e. -/
def decN (D : Nat) (e : Int) : Nat := if 0 ≤ e then nearR (D * 10 ^ e.toNat) 1 else nearR D (10 ^ (-e).toNat)
theorem decN_zero (e : Int) : decN 0 e = 0 := by
  unfold decN nearR
  rw [Nat.zero_mul, if_pos rfl, if_pos rfl]
  split <;> rfl
theorem ten_pow (n : Nat) : 2 ^ (3 * n) ≤ 10 ^ n := by
  rw [Nat.pow_mul]; exact Nat.pow_le_pow_left (by decide) n
theorem decN_up (D n : Nat) : decN D (n : Int) = rung 0 (D * 10 ^ n * 2 ^ OP) := by
  unfold decN
  rw [if_pos (by omega), Int.toNat_natCast, nearR_whole]
theorem rung_big {v c : Nat} (g : Nat) (hc : g + 2098 ≤ c) (hv : 2 ^ c ≤ v) : rung g v = 9218868437227405312 := rung_huge (Nat.le_trans (Nat.pow_le_pow_right (by decide) hc) hv)
theorem dec_huge {D : Nat} {e : Int} (hD : D ≠ 0) (he : 400 ≤ e) : decN D e = 9218868437227405312 := by
  obtain ⟨n, rfl⟩ := Int.eq_ofNat_of_zero_le (show 0 ≤ e by omega)
  rw [decN_up]
  have h1 : 2 ^ (3 * n) ≤ D * 10 ^ n := Nat.le_trans (ten_pow n) (Nat.le_mul_of_pos_left _ (by omega))
  have h2 : 2 ^ (3 * n) * 2 ^ OP ≤ D * 10 ^ n * 2 ^ OP := Nat.mul_le_mul_right _ h1
  rw [← Nat.pow_add] at h2
  have h0 : 0 + 2098 ≤ 3 * n + OP := by rw [OP_eq]; omega
  exact rung_big 0 h0 h2
/-- The most digits of a numeral. -/
def DG : Nat := 400
theorem DG_eq : DG = 400 := rfl
theorem dec_tiny {D : Nat} {e : Int} (hD : D < 10 ^ DG) (he : e ≤ -800) : decN D e = 0 := by
  obtain ⟨n, hn⟩ := Int.eq_ofNat_of_zero_le (show 0 ≤ -e by omega)
  unfold decN
  rw [if_neg (by omega), hn, Int.toNat_natCast]
  have hm := DG_eq
  generalize DG = m at *
  obtain ⟨t, ht⟩ := Nat.exists_eq_add_of_le (show m ≤ n by omega)
  have hB : 0 < 10 ^ n := Nat.pow_pos (by decide)
  -- B is far greater than D
  have h1 : D * 2 ^ (3 * t) ≤ 10 ^ n := by
    rw [ht, Nat.pow_add]
    exact Nat.mul_le_mul (Nat.le_of_lt hD) (ten_pow t)
  have ht2 : OP + 100 ≤ 3 * t := by rw [OP_eq]; omega
  unfold nearR
  split
  · rfl
  · next hA =>
    apply rung_tiny
    have hlog : 3 * n ≤ (10 ^ n).log2 := (Nat.le_log2 (by omega)).2 (ten_pow n)
    have hK : 3 * t + 1 ≤ KN (10 ^ n) := by unfold KN; omega
    generalize 10 ^ n = B at *
    generalize KN B = K at *
    -- the quotient is small
    have hq : D * 2 ^ K / B ≤ 2 ^ (K - 3 * t) := by
      apply Nat.div_le_of_le_mul
      have e1 : 2 ^ K = 2 ^ (3 * t) * 2 ^ (K - 3 * t) := by rw [← Nat.pow_add, show 3 * t + (K - 3 * t) = K by omega]
      rw [e1, ← Nat.mul_assoc]
      exact Nat.mul_le_mul_right _ h1
    have hs : stick D B K ≤ 2 * 2 ^ (K - 3 * t) + 1 := by
      unfold stick
      split <;> omega
    have e2 : 2 ^ (K + 1 - OP) = 2 ^ (K - 3 * t + 2) * 2 ^ (3 * t - OP - 1) := by
      rw [← Nat.pow_add, show K - 3 * t + 2 + (3 * t - OP - 1) = K + 1 - OP by omega]
    have e3 : 2 ^ (K - 3 * t + 2) = 4 * 2 ^ (K - 3 * t) := by rw [Nat.pow_add, Nat.mul_comm]
    have e4 : 2 ^ 1 ≤ 2 ^ (3 * t - OP - 1) := Nat.pow_le_pow_right (by decide) (by omega)
    have p1 := Nat.two_pow_pos (K - 3 * t)
    rw [e2, e3]
    have e5 : 4 * 2 ^ (K - 3 * t) * 2 ^ 1 ≤ 4 * 2 ^ (K - 3 * t) * 2 ^ (3 * t - OP - 1) := Nat.mul_le_mul_left _ e4
    omega

end Go.Proofs.YtfhoimfjfbbhaaaDoor

/-
  The landed quotient of two numbers in parts: the rung nearest to it. First the mathematics.
-/
namespace Go.Proofs.YtfhoimfjfbbhaaaDoor
set_option maxRecDepth 100000
open Go.RowKit Pt Flo

theorem bl_scale {A : Nat} (c : Nat) (hA : A ≠ 0) : bl (A * 2 ^ c) = bl A + c := by
  have h1 := bl_ge hA
  have h2 := bl_lt A
  have h3 : 1 ≤ bl A := by unfold bl; rw [if_neg hA]; omega
  obtain ⟨e, he⟩ : ∃ e, bl A = e + 1 := ⟨bl A - 1, by omega⟩
  rw [he] at h1 h2 ⊢
  rw [Nat.add_sub_cancel] at h1
  have := bl_of (n := A * 2 ^ c) (e := e + c) (by rw [Nat.pow_add]; exact Nat.mul_le_mul_right _ h1) (by rw [show e + c + 1 = e + 1 + c by omega, Nat.pow_add]; exact Nat.mul_lt_mul_of_pos_right h2 (Nat.two_pow_pos c))
  omega
theorem near_part {A B k t : Nat} (hA : A ≠ 0) (hB : 0 < B) (hq : 9007199254740992 ≤ A * 2 ^ k / (B * 2 ^ t)) : rung k (stick A (B * 2 ^ t) k * 2 ^ (OP - 1 + t)) = nearR A B := by
  have hB2 : 0 < B * 2 ^ t := Nat.mul_pos hB (Nat.two_pow_pos t)
  rw [stick_more hB2 hq (g := k) (x := OP - 1) (t := t), ← stick_up A (B * 2 ^ t) k t, stick_scale]
  refine near_bits hA hB ?_
  refine Nat.le_trans hq ?_
  exact Nat.div_le_div_left (Nat.le_mul_of_pos_right _ (Nat.two_pow_pos t)) hB
theorem two_le {Z X Y : Nat} (q : Z < X) (q2 : X * 2 ≤ Y) : 2 * Z ≤ Y := by omega
theorem same_len {A B m : Nat} (hA : A ≠ 0) (h1 : bl A = m) (h2 : bl B = m) : B ≤ A * 2 := by
  have a1 := bl_ge hA
  have a2 := bl_lt B
  have a3 : 1 ≤ bl A := by unfold bl; rw [if_neg hA]; omega
  rw [h1] at a1 a3
  rw [h2] at a2
  obtain ⟨e, rfl⟩ : ∃ e, m = e + 1 := ⟨m - 1, by omega⟩
  rw [Nat.add_sub_cancel] at a1
  rw [Nat.pow_succ] at a2
  omega
/-- The bits that the loop makes, and its rest. -/
theorem quo_loop {A B f N : Nat} (hB : 0 < B) (hI : N + 2 * B * f = 2 ^ 64 * A) (hN : N < 2 * B) : 2 * f + (decide (0 < N)).toNat = stick A B 63 ∧ f = A * 2 ^ 63 / B := by
  obtain ⟨r, hr⟩ : ∃ r, N = 2 * r := by
    refine ⟨N / 2, ?_⟩
    have h1 : 2 * B * f = 2 * (B * f) := Nat.mul_assoc _ _ _
    have h2 : 2 ^ 64 * A = 2 * (2 ^ 63 * A) := by rw [← Nat.mul_assoc]
    omega
  subst hr
  have h1 : r + B * f = A * 2 ^ 63 := by
    have e1 : 2 * B * f = 2 * (B * f) := Nat.mul_assoc _ _ _
    have e2 : 2 ^ 64 * A = 2 * (A * 2 ^ 63) := by rw [Nat.mul_comm A, ← Nat.mul_assoc]
    omega
  have hf : A * 2 ^ 63 / B = f := by
    rw [← h1, Nat.add_mul_div_left _ _ hB, Nat.div_eq_of_lt (by omega)]; omega
  have hm : A * 2 ^ 63 % B = r := by
    rw [← h1, Nat.add_mul_mod_self_left, Nat.mod_eq_of_lt (by omega)]
  refine ⟨?_, hf.symm⟩
  unfold stick
  rw [hf, hm]
  by_cases c : r = 0
  · subst c; simp
  · rw [if_neg c, decide_eq_true (by omega)]; rfl
theorem quo_math {A B f N a b c1 c2 : Nat} (hA : A ≠ 0) (hB : B ≠ 0) (ha : a = bl A) (hb : b = bl B) (hc1 : c1 = b - a) (hc2 : c2 = a - b)
    (hI : N + 2 * (B * 2 ^ c2) * f = 2 ^ 64 * (A * 2 ^ c1)) (hN : N < 2 * (B * 2 ^ c2)) : makeZ false ((a : Int) - (b : Int) - 64 + 1) f (decide (0 < N)) = (nearR A B : Nat) := by
  have hg := G_eq
  have hO := OP_eq
  have p1 := Nat.two_pow_pos c1
  have p2 := Nat.two_pow_pos c2
  have hA1 : A * 2 ^ c1 ≠ 0 := Nat.mul_ne_zero hA (by omega)
  have hB1 : 0 < B * 2 ^ c2 := Nat.mul_pos (by omega) p2
  obtain ⟨e1, e2⟩ := quo_loop hB1 hI hN
  have hlen : B * 2 ^ c2 ≤ A * 2 ^ c1 * 2 := same_len (m := bl A + c1) hA1 (bl_scale _ hA) (by rw [bl_scale _ hB]; omega)
  have hf : 2 ^ 62 ≤ f := by
    rw [e2, Nat.le_div_iff_mul_le hB1]
    have : 2 ^ 62 * (B * 2 ^ c2) ≤ 2 ^ 62 * (A * 2 ^ c1 * 2) := Nat.mul_le_mul_left _ hlen
    omega
  have hfq : 9007199254740992 ≤ A * 2 ^ c1 * 2 ^ 63 / (B * 2 ^ c2) := by rw [← e2]; exact Nat.le_trans (by decide) hf
  have hf2 : f < 2 ^ 66 := by
    rw [e2, Nat.div_lt_iff_lt_mul hB1]
    have b1 : A * 2 ^ c1 ≤ B * 2 ^ c2 * 2 := same_len (m := bl A + c1) (by omega) (by rw [bl_scale _ hB]; omega) (bl_scale _ hA)
    have : (0 : Nat) < 2 ^ 66 * (B * 2 ^ c2) := by omega
    omega
  unfold makeZ
  rw [if_neg (by simp)]
  unfold units
  rw [e1]
  generalize hS : stick (A * 2 ^ c1) (B * 2 ^ c2) 63 = S at *
  have hS1 : 2 ^ 63 ≤ S := by rw [← e1]; omega
  have hS2 : S < 2 ^ 68 := by
    rw [← e1]
    have : (decide (0 < N)).toNat ≤ 1 := Bool.toNat_le _
    omega
  congr 1
  rcases Nat.le_total b a with hab | hab
  · have z1 : c1 = 0 := by omega
    subst z1
    rw [Nat.pow_zero, Nat.mul_one] at hfq hS
    have hnear := near_part hA (by omega) hfq
    rw [hS] at hnear
    by_cases cl : (a : Int) - (b : Int) - 64 + 1 ≤ 1100
    · rw [show (min (max ((a : Int) - (b : Int) - 64 + 1) (-1200)) 1100 + 1073 + (G : Int)).toNat = (OP - 1 + c2) + (G - 63) by omega, Nat.pow_add, ← Nat.mul_assoc]
      rw [← hnear]
      have := rung_scale 63 (S * 2 ^ (OP - 1 + c2)) (G - 63)
      rw [show 63 + (G - 63) = G by omega] at this
      exact this
    · rw [show (min (max ((a : Int) - (b : Int) - 64 + 1) (-1200)) 1100 + 1073 + (G : Int)).toNat = 2173 + G by omega]
      rw [← hnear]
      have q1 : 2 ^ (63 + (2173 + G)) ≤ S * 2 ^ (2173 + G) := by rw [Nat.pow_add]; exact Nat.mul_le_mul_right _ hS1
      have q2 : 2 ^ (63 + (OP - 1 + c2)) ≤ S * 2 ^ (OP - 1 + c2) := by rw [Nat.pow_add]; exact Nat.mul_le_mul_right _ hS1
      rw [rung_big G (by omega) q1, rung_big 63 (by omega) q2]
  · have z2 : c2 = 0 := by omega
    subst z2
    rw [Nat.pow_zero, Nat.mul_one] at hfq hS
    rw [stick_up] at hS
    have hfq2 : 9007199254740992 ≤ A * 2 ^ (63 + c1) / B := by rw [Nat.add_comm, Nat.pow_add, ← Nat.mul_assoc]; exact hfq
    have hnear := near_bits hA (by omega) hfq2
    rw [hS] at hnear
    by_cases cl : -1200 ≤ (a : Int) - (b : Int) - 64 + 1
    · rw [← hnear]
      rcases Nat.le_total (63 + c1) G with hk | hk
      · rw [show (min (max ((a : Int) - (b : Int) - 64 + 1) (-1200)) 1100 + 1073 + (G : Int)).toNat = (OP - 1) + (G - (63 + c1)) by omega, Nat.pow_add, ← Nat.mul_assoc]
        have := rung_scale (63 + c1) (S * 2 ^ (OP - 1)) (G - (63 + c1))
        rw [show 63 + c1 + (G - (63 + c1)) = G by omega] at this
        exact this
      · have e : S * 2 ^ (OP - 1) = S * 2 ^ (OP - 1 - (63 + c1 - G)) * 2 ^ (63 + c1 - G) := by
          rw [Nat.mul_assoc, ← Nat.pow_add, show OP - 1 - (63 + c1 - G) + (63 + c1 - G) = OP - 1 by omega]
        rw [show (min (max ((a : Int) - (b : Int) - 64 + 1) (-1200)) 1100 + 1073 + (G : Int)).toNat = OP - 1 - (63 + c1 - G) by omega, e]
        have := rung_scale G (S * 2 ^ (OP - 1 - (63 + c1 - G))) (63 + c1 - G)
        rw [show G + (63 + c1 - G) = 63 + c1 by omega] at this
        exact this.symm
    · rw [show (min (max ((a : Int) - (b : Int) - 64 + 1) (-1200)) 1100 + 1073 + (G : Int)).toNat = G - 127 by omega]
      rw [← hnear]
      obtain ⟨o, ho⟩ : ∃ o, o = OP - 1 := ⟨_, rfl⟩
      rw [← ho]
      rw [rung_tiny, rung_tiny]
      · have q := Nat.mul_lt_mul_of_pos_right hS2 (Nat.two_pow_pos o)
        rw [← Nat.pow_add] at q
        have q2 := Nat.pow_le_pow_right (show 0 < 2 by decide) (show 68 + o + 1 ≤ 63 + c1 by omega)
        rw [Nat.pow_succ] at q2
        exact two_le q q2
      · have q := Nat.mul_lt_mul_of_pos_right hS2 (Nat.two_pow_pos (G - 127))
        rw [← Nat.pow_add] at q
        have q2 := Nat.pow_le_pow_right (show 0 < 2 by decide) (show 68 + (G - 127) + 1 ≤ G by omega)
        rw [Nat.pow_succ] at q2
        exact two_le q q2

end Go.Proofs.YtfhoimfjfbbhaaaDoor

/-
  The landed quotient, walked.
-/
namespace Go.Proofs.YtfhoimfjfbbhaaaDoor
set_option maxRecDepth 100000
open Go.RowKit Pt Flo

theorem PR.form {w : World} {g : Nat} {v : Value} {n : Nat} (h : PR w g v n) : ∃ l cap, v = .slice (some ⟨g, 0, none⟩) l cap ∧ (l = 0 ↔ n = 0) ∧ l ≤ cap ∧ cap ≤ 9223372036854775807 := by
  obtain ⟨ds, hP, hv, ht⟩ := h
  have hc := hP
  obtain ⟨cap, rfl, _, _⟩ := hP
  have hcap := hc.cap.2
  unfold maxLen at hcap
  refine ⟨ds.length, cap, rfl, ⟨?_, ?_⟩, hcap.1, by omega⟩
  · intro e
    rw [← hv, List.eq_nil_of_length_eq_zero e]; rfl
  · intro e
    rcases ht with h0 | h0
    · exact h0
    · have := rpos (ds.length - 1); omega
theorem timesTwos_at (x : Int) (c : Nat) (hx : x = (c : Int)) (v : Value) (g n K : Nat) (w : World) (hR : PR w g v n) (hn : n * 2 ^ c < 2 ^ K) (hK : K ≤ 1000000) (hc : c ≤ 1000000) :
    Calls Tryd.prog 42 #[v, .int .i64 x] w fun e w' => ∃ v' g', e = .returned v' ∧ PR w' g' v' (n * 2 ^ c) ∧ Mv w w' g g' := by
  subst hx; exact timesTwos_any v g n c K w hR hn hK hc
theorem quo_step0 {N B f A i : Nat} (h : N + 2 * B * f = 2 ^ i * A) : N * 2 + 2 * B * (2 * f) = 2 ^ (i + 1) * A := by
  rw [Nat.pow_succ, Nat.mul_right_comm (2 ^ i) 2 A, ← h, Nat.add_mul, Nat.mul_assoc (2 * B) f 2, Nat.mul_comm f 2]
theorem quo_step1 {N B f A i : Nat} (hN : B ≤ N) (h : N + 2 * B * f = 2 ^ i * A) : (N - B) * 2 + 2 * B * (2 * f + 1) = 2 ^ (i + 1) * A := by
  have := quo_step0 h
  rw [Nat.mul_add, Nat.mul_one]
  have e : (N - B) * 2 = N * 2 - B * 2 := Nat.sub_mul _ _ _
  omega
theorem or_one {f : Nat} (h : f < 9223372036854775808) : bits .or .u64 ((f : Int) * 2) 1 = ((2 * f + 1 : Nat) : Int) := by
  rw [u64_or _ _ (by omega) (by omega) (by decide) (by decide), show ((f : Int) * 2).toNat = f * 2 by omega, show (1 : Int).toNat = 1 from rfl, nat_join 1 _ _ (by omega) (by decide)]
  omega
theorem frac_lt {f i : Nat} (hi : i < 64) (h : f < 2 ^ i) : f < 9223372036854775808 := Nat.lt_of_lt_of_le h (Nat.pow_le_pow_right (by decide) (show i ≤ 63 by omega))

set_option maxHeartbeats 4000000 in
theorem quotient_any (v u : Value) (g h A B K B0 : Nat) (w : World) (hR : PR w g v A) (hS : PR w h u B) (hgh : h ≠ g) (hA0 : A ≠ 0) (hB0 : B ≠ 0) (hA : A < 2 ^ K) (hB : B < 2 ^ K) (hK : K ≤ 100000)
    (hw1 : B0 ≤ w.heap.size) (hw2 : B0 ≤ g) (hw3 : B0 ≤ h) :
    Calls Tryd.prog 38 #[v, u] w fun e w' => e = .returned (.int .u64 (nearR A B : Nat)) ∧ Below B0 w w' := by
  obtain ⟨a, ha⟩ : ∃ a, a = bl A := ⟨_, rfl⟩
  obtain ⟨b, hb⟩ : ∃ b, b = bl B := ⟨_, rfl⟩
  obtain ⟨c1, hc1⟩ : ∃ c, c = b - a := ⟨_, rfl⟩
  obtain ⟨c2, hc2⟩ : ∃ c, c = a - b := ⟨_, rfl⟩
  have ha2 : a ≤ 100000 := by rw [ha]; exact Nat.le_trans (bl_le hA) hK
  have hb2 : b ≤ 100000 := by rw [hb]; exact Nat.le_trans (bl_le hB) hK
  have H1 : Hid (∀ w, PR w g v A → Calls Tryd.prog 41 #[v] w fun e w' => e = .returned (.int .i64 (a : Nat)) ∧ w' = w) := fun w h => by rw [ha]; exact bitLen_any v g A K w h hA (by omega)
  have H2 : Hid (∀ w, PR w h u B → Calls Tryd.prog 41 #[u] w fun e w' => e = .returned (.int .i64 (b : Nat)) ∧ w' = w) := fun w h => by rw [hb]; exact bitLen_any u _ B K w h hB (by omega)
  have HF : Hid (∀ (x : Int) (f N : Nat) (z : Bool), x = (a : Int) - (b : Int) - 64 + 1 → z = decide (0 < N) → N + 2 * (B * 2 ^ c2) * f = 2 ^ 64 * (A * 2 ^ c1) → N < 2 * (B * 2 ^ c2) → makeZ false x f z = (nearR A B : Nat)) := fun x f N z hx hz q1 q2 => by rw [hx, hz]; exact quo_math hA0 hB0 ha hb hc1 hc2 q1 q2
  have HA : Hid (A * 2 ^ c1 < 2 ^ (K + c1)) := by show _ < _; rw [Nat.pow_add]; exact Nat.mul_lt_mul_of_pos_right hA (Nat.two_pow_pos c1)
  have HB : Hid (B * 2 ^ c2 < 2 ^ (K + c2)) := by show _ < _; rw [Nat.pow_add]; exact Nat.mul_lt_mul_of_pos_right hB (Nat.two_pow_pos c2)
  have HAB : Hid (A * 2 ^ c1 < 2 * (B * 2 ^ c2)) := by
    show _ < _
    have h1 := bl_lt (A * 2 ^ c1)
    have h2 := bl_ge (n := B * 2 ^ c2) (by have := Nat.two_pow_pos c2; exact Nat.mul_ne_zero hB0 (by omega))
    rw [bl_scale _ hA0] at h1
    rw [bl_scale _ hB0, show bl B + c2 = bl A + c1 by omega] at h2
    have : 1 ≤ bl A := by unfold bl; rw [if_neg hA0]; omega
    obtain ⟨e, he⟩ : ∃ e, bl A + c1 = e + 1 := ⟨bl A + c1 - 1, by omega⟩
    rw [he] at h1 h2
    rw [Nat.pow_succ] at h1
    rw [Nat.add_sub_cancel] at h2
    omega
  have HBp : Hid (0 < B * 2 ^ c2) := Nat.mul_pos (by omega) (Nat.two_pow_pos c2)
  obtain ⟨A', hA'⟩ : ∃ A', A' = A * 2 ^ c1 := ⟨_, rfl⟩
  obtain ⟨B', hB'⟩ : ∃ B', B' = B * 2 ^ c2 := ⟨_, rfl⟩
  have HT1 : Hid (∀ w x, PR w g v A → x = (c1 : Int) → Calls Tryd.prog 42 #[v, .int .i64 x] w fun e w' => ∃ v' g', e = .returned v' ∧ PR w' g' v' A' ∧ Mv w w' g g') := fun w x h hx => by
    rw [hA']; exact timesTwos_at x c1 hx v g A (K + c1) w h HA.out (by omega) (by omega)
  have HT2 : Hid (∀ w x, PR w h u B → x = (c2 : Int) → Calls Tryd.prog 42 #[u, .int .i64 x] w fun e w' => ∃ v' g', e = .returned v' ∧ PR w' g' v' B' ∧ Mv w w' h g') := fun w x h hx => by
    rw [hB']; exact timesTwos_at x c2 hx u _ B (K + c2) w h HB.out (by omega) (by omega)
  rw [← hA'] at HA HAB HF
  rw [← hB'] at HB HAB HBp HF
  have hK2 : K + c2 ≤ 200000 := by omega
  clear ha hb hA hB hA0 hB0 hA' hB'
  have hcc : ((a : Int) < (b : Int) ∧ -((a : Int) - (b : Int)) = (c1 : Int)) ∨ (a = b) ∨ ((b : Int) < (a : Int) ∧ (a : Int) - (b : Int) = (c2 : Int)) := by omega
  have hcz : a = b → (-((a : Int) - (b : Int)) = 0 ∧ (a : Int) - (b : Int) = 0) := by intro h; omega
  rcases hcc with ⟨q1, q2⟩ | q1 | ⟨q1, q2⟩
  all_goals
    try (have q3 := hcz q1; obtain ⟨q4, q5⟩ := q3; clear q1)
    clear hcz
    go_enter Tryd.func38, Tryd.ntmps38
    go_wp2_with fail
    refine (H1.out _ hR).mono ?_
    rintro e w' ⟨rfl, hw⟩
    rw [hw]
    clear hw w'
    go_wp2_with fail
    refine (H2.out _ hS).mono ?_
    rintro e w' ⟨rfl, hw⟩
    rw [hw]
    clear hw w'
    go_wp2_with fail
    refine (HT1.out _ _ hR (by omega)).mono ?_
    rintro e w1 ⟨v1, g1, rfl, hR1, hm1⟩
    have hS1 := hm1.pr hS hgh
    have hne1 := hm1.ne hS.lt hgh
    go_wp2_with fail
    refine (HT2.out _ _ hS1 (by omega)).mono ?_
    rintro e w2 ⟨v2, g2, rfl, hR2, hm2⟩
    have hR12 := hm2.pr hR1 hne1.symm
    have hne2 := hm2.ne hR1.lt hne1.symm
    have hbel1 := hm1.below hw1 hw2
    have hs1 : B0 ≤ w1.heap.size := Nat.le_trans hw1 hbel1.size
    have hbel2 := hbel1.trans (hm2.below hs1 hw3)
    have hg1 := hm1.ge hw1 hw2
    have hg2 := hm2.ge hs1 hw3
    have hs2 : B0 ≤ w2.heap.size := Nat.le_trans hw1 hbel2.size
    clear hR1 hS1 hm1 hm2 hne1 hR hS hbel1 hs1
    go_wp2_with fail
    go_loopw [0, 6, 21] (fun t f i wr => ∃ (k F N gt : Nat), k ≤ 64 ∧ i = .int .i64 k ∧ f = .int .u64 F ∧ F < 2 ^ k ∧ PR wr gt t N ∧ PR wr g2 v2 B' ∧ g2 ≠ gt ∧ Hid (N + 2 * B' * F = 2 ^ k * A') ∧ N < 2 * B' ∧ Below B0 w wr ∧ B0 ≤ gt ∧ B0 ≤ wr.heap.size) (fun _ _ i _ => 64 - (intOf i).toNat)
    case atStart => exact ⟨0, 0, A', g1, by omega, rfl, rfl, by decide, hR12, hR2, hne2.symm, by show _ + _ = _; simp, HAB.out, hbel2, hg1, hs2⟩
    case round =>
      obtain ⟨k, F, N, gt, hk, rfl, rfl, hF, hRr, hSr, hne, HI, hN, hbel, hgt, hsr⟩ := hrel
      have HFl : Hid (F < 2 ^ k) := hF
      clear hF
      by_cases ck : k < 64
      · have hF63 := frac_lt ck HFl.out
        have ho := or_one hF63
        have HF1 : Hid (2 * F < 2 ^ (k + 1) ∧ 2 * F + 1 < 2 ^ (k + 1)) := by
          have := HFl.out
          show _ ∧ _
          rw [Nat.pow_succ]; omega
        have HNK : Hid (N < 2 ^ (K + c2 + 1)) := by
          have := HB.out
          show _ < _
          rw [Nat.pow_succ]; omega
        obtain ⟨ci, hci⟩ : ∃ ci, ci = cmpI N B' := ⟨_, rfl⟩
        have HC : Hid (Calls Tryd.prog 43 #[u0, v2] wr fun e w' => e = .returned (.int .i64 ci) ∧ ∃ q, w' = wr.drewN q) := by rw [hci]; exact compare_any _ _ gt g2 N B' _ hRr hSr
        by_cases cN : N < B'
        · have hc : ci < 0 := by rw [hci, cmpI_lt cN]; decide
          have HS0 : Hid (N * 2 + 2 * B' * (2 * F) = 2 ^ (k + 1) * A') := quo_step0 HI.out
          clear hci
          go_wp2_with fail
          refine HC.out.mono ?_
          rintro e wq ⟨rfl, q, rfl⟩
          go_wp2_with fail
          refine (times_lit 2 _ rfl _ gt N (K + c2 + 1) _ (hRr.drewN q) HNK.out (by omega) (by decide) (by decide)).mono ?_
          rintro e w3 ⟨v3, g3, rfl, hR3, hm3⟩
          have hS3 := hm3.pr (hSr.drewN q) hne
          have hne3 := hm3.ne hSr.lt hne
          have hbel3 := (below_drewN hbel q).trans (hm3.below hsr hgt)
          go_wp2
          go_roundw
          case rel => exact ⟨k + 1, 2 * F, N * 2, g3, by omega, by go_num, by go_num, HF1.out.1, hR3, hS3, hne3, HS0, by omega, hbel3, hm3.ge hsr hgt, Nat.le_trans hw1 hbel3.size⟩
          case measure => simp [intOf]; omega
        · have hc : 0 ≤ ci := by
            rw [hci]
            rcases Nat.lt_or_ge B' N with d | d
            · rw [cmpI_gt d]; decide
            · rw [cmpI_eq (by omega)]; decide
          have HS1 : Hid ((N - B') * 2 + 2 * B' * (2 * F + 1) = 2 ^ (k + 1) * A') := quo_step1 (by omega) HI.out
          have HNK2 : Hid (N - B' < 2 ^ (K + c2 + 1)) := by have := HNK.out; show _ < _; omega
          clear hci
          go_wp2_with fail
          refine HC.out.mono ?_
          rintro e wq ⟨rfl, q, rfl⟩
          go_wp2_with fail
          refine (minus_any2 _ _ gt g2 N B' _ (hRr.drewN q) (hSr.drewN q) hne (by omega)).mono ?_
          rintro e w4 ⟨v4, rfl, hR4, hgb4⟩
          have hS4 := (hSr.drewN q).other hgb4 hne
          have hsz4 : wr.heap.size ≤ w4.heap.size := hgb4.size
          go_wp2_with fail
          refine (times_lit 2 _ rfl _ gt (N - B') (K + c2 + 1) _ hR4 HNK2.out (by omega) (by decide) (by decide)).mono ?_
          rintro e w3 ⟨v3, g3, rfl, hR3, hm3⟩
          have hS3 := hm3.pr hS4 hne
          have hne3 := hm3.ne hS4.lt hne
          have hmv : Mv (wr.drewN q) w3 gt g3 := Mv.trans ⟨hgb4, Or.inl rfl⟩ hm3
          have hbel3 := (below_drewN hbel q).trans (hmv.below hsr hgt)
          go_wp2
          go_roundw
          case rel => exact ⟨k + 1, 2 * F + 1, (N - B') * 2, g3, by omega, by go_num, by go_num, HF1.out.2, hR3, hS3, hne3, HS1, by omega, hbel3, hmv.ge hsr hgt, Nat.le_trans hw1 hbel3.size⟩
          case measure => simp [intOf]; omega
      · have hk64 : k = 64 := by omega
        subst hk64
        have hF64 : F < 18446744073709551616 := HFl.out
        obtain ⟨l, cap, rfl, hl, hlc, hcm⟩ := hRr.form
        by_cases cN : N = 0
        · have l0 : l = 0 := hl.2 cN
          subst l0
          have HX : Hid (∀ x : Int, x = (a : Int) - (b : Int) - 64 + 1 → makeZ false x F false = (nearR A B : Nat)) := fun x hx => HF.out x F N false hx (by rw [cN]; rfl) HI.out hN
          clear hl
          go_wp2_with (go_at_call 45; refine (make_any false false _ F _ hF64).mono ?_; rintro e w' ⟨rfl, rfl⟩)
          go_ret
          exact ⟨ret_u64 (HX.out _ (by omega)), hbel⟩
        · have l0 : 0 < l := by
            rcases Nat.eq_zero_or_pos l with c | c
            · exact absurd (hl.1 c) cN
            · exact c
          have HX : Hid (∀ x : Int, x = (a : Int) - (b : Int) - 64 + 1 → makeZ false x F true = (nearR A B : Nat)) := fun x hx => HF.out x F N true hx (by rw [decide_eq_true (by omega)]) HI.out hN
          clear hl
          go_wp2_with (go_at_call 45; refine (make_any false true _ F _ hF64).mono ?_; rintro e w' ⟨rfl, rfl⟩)
          go_ret
          exact ⟨ret_u64 (HX.out _ (by omega)), hbel⟩

end Go.Proofs.YtfhoimfjfbbhaaaDoor

/-
  Plain mathematics of texts as lists of bytes: digits, and what a numeral says. No Go in sight.
-/
namespace Go.Proofs.YtfhoimfjfbbhaaaDoor.Txt
set_option maxRecDepth 100000

def bs (l : List UInt8) : ByteArray := ⟨l.toArray⟩
theorem bs_size (l : List UInt8) : (bs l).size = l.length := by unfold bs; simp [ByteArray.size]
theorem bs_list (l : List UInt8) : (bs l).data.toList = l := by unfold bs; simp
theorem bs_data (s : ByteArray) : bs s.data.toList = s := Lib.mk_data s
theorem bs_get (l : List UInt8) (k : Nat) (h : k < (bs l).size) : (bs l)[k] = l[k]'(by rw [bs_size] at h; exact h) := by
  simp [bs, ByteArray.getElem_eq_getElem_data]
theorem bs_inj {a b : List UInt8} : bs a = bs b ↔ a = b := by
  constructor
  · intro h; rw [← bs_list a, ← bs_list b, h]
  · intro h; rw [h]
theorem bs_extract (l : List UInt8) (a b : Nat) : (bs l).extract a b = bs ((l.drop a).take (b - a)) := by
  rw [Lib.extract_eq, bs_list]; rfl
theorem bs_append (a b : List UInt8) : bs a ++ bs b = bs (a ++ b) := by
  unfold bs
  apply ByteArray.ext
  simp

def isD (c : UInt8) : Bool := decide (48 ≤ c.toNat ∧ c.toNat ≤ 57)
/-- What digits say. -/
def dv : List UInt8 → Nat → Nat
  | [], n => n
  | c :: r, n => dv r (n * 10 + (c.toNat - 48))
theorem dv_snoc (l : List UInt8) (c : UInt8) (n : Nat) : dv (l ++ [c]) n = dv l n * 10 + (c.toNat - 48) := by
  induction l generalizing n with
  | nil => rfl
  | cons a r ih => exact ih _
theorem dv_append (l r : List UInt8) (n : Nat) : dv (l ++ r) n = dv r (dv l n) := by
  induction l generalizing n with
  | nil => rfl
  | cons a t ih => exact ih _
def AllD (l : List UInt8) : Prop := ∀ c ∈ l, isD c = true
theorem dv_lt : ∀ (l : List UInt8) (n : Nat), AllD l → dv l n < (n + 1) * 10 ^ l.length := by
  intro l
  induction l with
  | nil => intro n _; simp [dv]
  | cons c r ih =>
    intro n h
    have hc := h c (by simp)
    have := ih (n * 10 + (c.toNat - 48)) (fun x hx => h x (by simp [hx]))
    unfold isD at hc
    simp at hc
    rw [List.length_cons, Nat.pow_succ, Nat.mul_comm (10 ^ r.length), ← Nat.mul_assoc]
    refine Nat.lt_of_lt_of_le this (Nat.mul_le_mul_right _ ?_)
    omega
theorem dv_ge (l : List UInt8) (n : Nat) : n ≤ dv l n := by
  induction l generalizing n with
  | nil => exact Nat.le_refl _
  | cons c r ih => have := ih (n * 10 + (c.toNat - 48)); unfold dv; omega

theorem span_of : ∀ (l : List UInt8) (k : Nat), k ≤ l.length → (∀ j (h : j < l.length), j < k → isD l[j] = true) → (∀ h : k < l.length, isD l[k] = false) → l.takeWhile isD = l.take k ∧ l.dropWhile isD = l.drop k := by
  intro l
  induction l with
  | nil => intro k h _ _; simp at h; subst h; simp
  | cons c r ih =>
    intro k hk h1 h2
    cases k with
    | zero =>
      have := h2 (by simp)
      simp at this
      simp [this]
    | succ k =>
      have h0 := h1 0 (by simp) (by omega)
      simp at h0
      have := ih k (by simpa using hk) (fun j h hj => by have := h1 (j + 1) (by simpa using h) (by omega); simpa using this) (fun h => by have := h2 (by simpa using h); simpa using this)
      simp [h0, this]
theorem allD_take (l : List UInt8) : AllD (l.takeWhile isD) := by
  intro c hc
  induction l with
  | nil => simp at hc
  | cons a r ih =>
    rw [List.takeWhile_cons] at hc
    split at hc
    · rcases List.mem_cons.1 hc with h | h
      · subst h; assumption
      · exact ih h
    · simp at hc

/-! A numeral. -/
def dig (l : List UInt8) : List UInt8 := l.takeWhile isD
def rst (l : List UInt8) : List UInt8 := l.dropWhile isD
theorem dig_rst (l : List UInt8) : dig l ++ rst l = l := List.takeWhile_append_dropWhile
/-- Behind the e and the sign. -/
def expD (neg : Bool) (l : List UInt8) : Option Int := if dig l = [] then none else if rst l = [] then some (if neg then -(dv (dig l) 0 : Int) else dv (dig l) 0) else none
/-- Behind the e. -/
def expS (l : List UInt8) : Option Int :=
  match l with
  | [] => none
  | c :: r => if c.toNat = 45 then expD true r else if c.toNat = 43 then expD false r else expD false (c :: r)
/-- The e, or nothing at all. -/
def expo (l : List UInt8) : Option Int :=
  match l with
  | [] => some 0
  | c :: r => if c.toNat = 101 ∨ c.toNat = 69 then expS r else none
/-- The digits and the power of ten. -/
def numL (l : List UInt8) : Option (List UInt8 × Int) :=
  if dig l = [] then none else
  match rst l with
  | [] => some (dig l, 0)
  | c :: r => if c.toNat = 46 then (if dig r = [] then none else (expo (rst r)).map fun e => (dig l ++ dig r, e - (dig r).length))
              else (expo (c :: r)).map fun e => (dig l, e)

end Go.Proofs.YtfhoimfjfbbhaaaDoor.Txt
