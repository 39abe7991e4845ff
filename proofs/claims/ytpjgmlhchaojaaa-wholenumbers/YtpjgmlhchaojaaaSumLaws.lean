/-
  Plain mathematics of the statements of layer 2.
-/
import Derived.Test.YtpjgmlhchaojaaaSumFast
import Derived.Test.YtpjgmlhchaojaaaSumPlain
namespace Go.Proofs.Ytpjgmlhchaojaaa
open Go.RowKit Flo

/-- The place of one, in units. -/
def OP : Nat := 1074
theorem OP_eq : OP = 1074 := rfl

theorem word_again {a : Int} (h : U64 a) : a = sgn (belowB a) + mag a := by
  obtain ⟨h0, h1⟩ := h
  unfold belowB sgn mag
  by_cases c : 9223372036854775808 ≤ a
  · rw [decide_eq_true c, if_pos rfl, if_pos c]; omega
  · rw [decide_eq_false c, if_neg c]; simp
theorem M_pow (k : Nat) : M (k * 4503599627370496 + 4503599627370496) = 2 ^ (52 + k) := by
  rw [M_at (by omega) (Or.inr (by omega)), Nat.pow_add]
theorem rung_units (v : Nat) : rung 1074 (v * 2 ^ OP) = rung 0 v := by
  have h := rung_scale 0 v OP
  rw [Nat.zero_add] at h
  rw [← OP_eq]
  exact h
theorem rung_MZ {a : Int} (h : U64 a) (hm : mag a ≤ 9218868437227405312) : ((rung 0 (MZ a) : Nat) : Int) = mag a := by
  unfold MZ
  have := (mag_range h).1
  rw [rung_M (by omega)]
  omega
theorem SV_zero : SV 0 = 0 := by
  have : MZ 0 = 0 := by unfold MZ mag; rfl
  unfold SV
  rw [this, sz_nought]
theorem MZ_0 {a : Int} (h : U64 a) : MZ a = 0 ↔ mag a = 0 := by
  have h0 := (mag_range h).1
  unfold MZ
  have := @M_inj (mag a).toNat 0
  rw [M_zero] at this
  rw [this]
  omega
theorem SV_neg {a : Int} (h : U64 a) (hn : nanB a = false) : SV (negZ a) = -SV a := by
  obtain ⟨e1, e2⟩ := neg_parts h hn
  unfold SV MZ
  rw [e1, e2]
  unfold sz
  cases belowB a <;> simp
/-- A finite number made anew of what it stands for. -/
theorem near_self {a : Int} (h : U64 a) (hm : mag a < 9218868437227405312) (h0 : mag a ≠ 0) (z : Bool) : nearZ z (SV a) = a := by
  have hz : MZ a ≠ 0 := fun k => h0 ((MZ_0 h).1 k)
  have e := word_again h
  rw [← rung_MZ h (by omega)] at e
  unfold nearZ SV
  have e1 : sz (belowB a) (MZ a) ≠ 0 := by unfold sz; cases belowB a <;> simp <;> omega
  have e2 : decide (sz (belowB a) (MZ a) < 0) = belowB a := by unfold sz; cases belowB a <;> simp <;> omega
  have e3 : (sz (belowB a) (MZ a)).natAbs = MZ a := by unfold sz; cases belowB a <;> simp
  rw [if_neg e1, e2, e3]
  exact e.symm
theorem one_mag : mag 4607182418800017408 = 4607182418800017408 := by decide
theorem one_below : belowB 4607182418800017408 = false := by decide
theorem one_MZ : MZ 4607182418800017408 = 2 ^ OP := by
  unfold MZ
  rw [one_mag, show (4607182418800017408 : Int).toNat = 1022 * 4503599627370496 + 4503599627370496 by decide, M_pow]
  congr 1

/-! What nothing, and one, do. -/
theorem nothing_nan {a : Int} (h : nanB a = true) : addZ a 0 = 9221120237041090560 ∧ mulZ a 4607182418800017408 = 9221120237041090560 := by
  exact ⟨addZ_nanl h, by unfold mulZ mulBad; rw [h]; simp⟩
theorem nothing_mul {a : Int} (ha : U64 a) (h : nanB a = false) : mulZ a 4607182418800017408 = a := by
  have e0 : nanB 4607182418800017408 = false := by decide
  have e1 : infB 4607182418800017408 = false := by decide
  have e2 : decide (mag 4607182418800017408 = 0) = false := by decide
  unfold mulZ mulBad
  rw [h, e0, e1, e2, one_below, one_MZ, rung_units]
  cases hi : infB a
  · have hm : mag a < 9218868437227405312 := by
      unfold infB at hi; unfold nanB at h
      have := of_decide_eq_false hi
      have := of_decide_eq_false h
      omega
    simp only [Bool.and_false, Bool.or_false, Bool.false_eq_true, if_false, Bool.xor_false]
    rw [rung_MZ ha (by omega)]
    exact (word_again ha).symm
  · simp only [Bool.and_false, Bool.or_false, Bool.false_eq_true, if_false, Bool.xor_false, if_true]
    exact (inf_word ha (of_decide_eq_true hi)).symm
theorem zero_parts : nanB 0 = false ∧ infB 0 = false ∧ belowB 0 = false := by decide
theorem nothing_add {a : Int} (ha : U64 a) (h : nanB a = false) : equalB (addZ a 0) a = true := by
  obtain ⟨z1, z2, z3⟩ := zero_parts
  unfold addZ addBad
  rw [h, z1, z2, z3]
  cases hi : infB a
  · simp only [Bool.false_or, Bool.false_and, Bool.false_eq_true, if_false, Bool.and_false]
    have hm : mag a < 9218868437227405312 := by
      unfold infB at hi; unfold nanB at h
      have := of_decide_eq_false hi
      have := of_decide_eq_false h
      omega
    rw [SV_zero, Int.add_zero]
    by_cases c : mag a = 0
    · have e : SV a = 0 := by unfold SV; rw [(MZ_0 ha).2 c, sz_nought]
      rw [e]
      have e2 : nearZ false 0 = 0 := by unfold nearZ; rw [if_pos rfl]; rfl
      rw [e2]
      unfold equalB
      rw [h, z1]
      have : sv a = 0 := by unfold sv; unfold mag at c; split at c <;> omega
      rw [this]; decide
    · rw [near_self ha hm c, equalB_self, h]; rfl
  · simp only [Bool.false_or, Bool.false_and, Bool.and_false, Bool.false_eq_true, if_false, if_true]
    rw [equalB_self, h]; rfl
theorem nothing_sub_inf {a : Int} (ha : U64 a) (h : mag a = 9218868437227405312) : subZ a a = 9221120237041090560 := by
  obtain ⟨e1, e2⟩ := neg_parts ha (inf_nan h)
  have e3 : infB (negZ a) = true := by unfold infB; rw [e1]; exact decide_eq_true h
  unfold subZ addZ addBad
  rw [inf_inf h, e3, e2]
  cases belowB a <;> simp
theorem addZ_finite {a b : Int} (ha : mag a < 9218868437227405312) (hb : mag b < 9218868437227405312) : addZ a b = nearZ (belowB a && belowB b) (SV a + SV b) := by
  unfold addZ addBad
  rw [fin_nan ha, fin_nan hb, fin_inf ha, fin_inf hb]; simp
theorem mulZ_finite {a b : Int} (ha : mag a < 9218868437227405312) (hb : mag b < 9218868437227405312) : mulZ a b = sgn (belowB a ^^ belowB b) + (rung 1074 (MZ a * MZ b) : Nat) := by
  unfold mulZ mulBad; rw [fin_nan ha, fin_nan hb, fin_inf ha, fin_inf hb]; simp
theorem subZ_finite {a b : Int} (hu : U64 b) (ha : mag a < 9218868437227405312) (hb : mag b < 9218868437227405312) : subZ a b = nearZ (belowB a && !belowB b) (SV a - SV b) := by
  obtain ⟨e1, e2⟩ := neg_parts hu (fin_nan hb)
  unfold subZ
  rw [addZ_finite ha (by omega), SV_neg hu (fin_nan hb), e2, Int.sub_eq_add_neg]
theorem nothing_sub {a : Int} (ha : U64 a) (h : mag a < 9218868437227405312) : subZ a a = 0 := by
  rw [subZ_finite ha h h, Int.sub_self]
  unfold nearZ
  rw [if_pos rfl]
  cases belowB a <;> rfl

/-! Order. -/
theorem sv_sz {a : Int} (ha : U64 a) : sv a = sz (belowB a) (mag a).toNat := by
  obtain ⟨h0, h1⟩ := ha
  unfold sv belowB mag sz
  by_cases c : 9223372036854775808 ≤ a
  · rw [if_pos c, decide_eq_true c, if_pos rfl, if_pos c]; omega
  · rw [if_neg c, decide_eq_false c, if_neg c]; simp; omega
theorem SV_mono {a b : Int} (ha : U64 a) (hb : U64 b) (h : sv a ≤ sv b) : SV a ≤ SV b := by
  rw [sv_sz ha, sv_sz hb] at h
  have k := cmp_sz (belowB b) (belowB a) (mag b).toNat (mag a).toNat
  unfold SV MZ
  generalize sz (belowB a) (mag a).toNat = x at *
  generalize sz (belowB b) (mag b).toNat = y at *
  generalize sz (belowB a) (M (mag a).toNat) = X at *
  generalize sz (belowB b) (M (mag b).toNat) = Y at *
  rcases Int.lt_or_le Y X with q | q
  · exfalso
    have e1 : (compare Y X == .lt) = true := by rw [cmp_lt]; exact decide_eq_true q
    rw [k, cmp_lt] at e1
    have := of_decide_eq_true e1
    omega
  · exact q
theorem nearZ_sv (z : Bool) (T : Int) : sv (nearZ z T) = sz (decide (T < 0)) (rung 0 T.natAbs) := by
  have h := nearZ_u64 z T
  have hr := rung_le 0 T.natAbs
  by_cases c : T = 0
  · subst c
    unfold nearZ
    rw [if_pos rfl, Int.natAbs_zero, rung_tiny (by simp), sz_nought]
    cases z <;> decide
  · have e : nearZ z T = sgn (decide (T < 0)) + (rung 0 T.natAbs : Nat) := by unfold nearZ; rw [if_neg c]
    obtain ⟨w1, w2, w3⟩ := SV_word (s := decide (T < 0)) hr
    rw [sv_sz h, e, w2, w3, Int.toNat_natCast]
theorem near_mono {S T : Int} (h : S ≤ T) : sz (decide (S < 0)) (rung 0 S.natAbs) ≤ sz (decide (T < 0)) (rung 0 T.natAbs) := by
  by_cases c1 : S < 0
  · by_cases c2 : T < 0
    · have := rung_mono 0 (show T.natAbs ≤ S.natAbs by omega)
      rw [decide_eq_true c1, decide_eq_true c2]
      unfold sz
      simp only [if_true]
      omega
    · rw [decide_eq_true c1, decide_eq_false c2]
      unfold sz
      simp only [if_true, Bool.false_eq_true, if_false]
      omega
  · have c2 : ¬ T < 0 := by omega
    have := rung_mono 0 (show S.natAbs ≤ T.natAbs by omega)
    rw [decide_eq_false c1, decide_eq_false c2]
    unfold sz
    simp only [Bool.false_eq_true, if_false]
    omega
theorem rises_add {a b c : Int} (ha : U64 a) (hb : U64 b) (fa : mag a < 9218868437227405312) (fb : mag b < 9218868437227405312) (fc : mag c < 9218868437227405312) (h : sv a ≤ sv b) : lessB (addZ b c) (addZ a c) = false := by
  have h1 := SV_mono ha hb h
  rw [addZ_finite fb fc, addZ_finite fa fc]
  unfold lessB
  rw [nearZ_nan, nearZ_nan, nearZ_sv, nearZ_sv]
  have := near_mono (show SV a + SV c ≤ SV b + SV c by omega)
  simp only [Bool.not_false, Bool.true_and]
  exact decide_eq_false (by omega)
theorem word_sv {s : Bool} {r : Nat} (h : r ≤ 9218868437227405312) : sv (sgn s + (r : Int)) = sz s r ∧ nanB (sgn s + (r : Int)) = false := by
  obtain ⟨w1, w2, w3⟩ := SV_word (s := s) h
  have hu : U64 (sgn s + (r : Int)) := by unfold U64 sgn; cases s <;> simp <;> omega
  refine ⟨?_, ?_⟩
  · rw [sv_sz hu, w2, w3, Int.toNat_natCast]
  · unfold nanB; rw [w2]; exact decide_eq_false (by omega)
theorem rises_mul {a b d : Int} (ha : U64 a) (hb : U64 b) (fa : mag a < 9218868437227405312) (fb : mag b < 9218868437227405312) (fd : mag d < 9218868437227405312) (hd : belowB d = false) (h : sv a ≤ sv b) : lessB (mulZ b d) (mulZ a d) = false := by
  have h1 := SV_mono ha hb h
  rw [mulZ_finite fb fd, mulZ_finite fa fd, hd, Bool.xor_false, Bool.xor_false]
  obtain ⟨p1, p2⟩ := word_sv (s := belowB b) (rung_le 1074 (MZ b * MZ d))
  obtain ⟨q1, q2⟩ := word_sv (s := belowB a) (rung_le 1074 (MZ a * MZ d))
  unfold lessB
  rw [p1, p2, q1, q2]
  simp only [Bool.not_false, Bool.true_and]
  refine decide_eq_false ?_
  unfold SV at h1
  have z0 : rung 1074 (0 * MZ d) = 0 := by rw [Nat.zero_mul]; exact rung_tiny (Nat.zero_le _)
  cases sa : belowB a <;> cases sb : belowB b
  · rw [sa, sb] at h1
    unfold sz at h1 ⊢
    simp only [Bool.false_eq_true, if_false] at h1 ⊢
    have := rung_mono 1074 (Nat.mul_le_mul_right (MZ d) (show MZ a ≤ MZ b by omega))
    omega
  · rw [sa, sb] at h1
    unfold sz at h1 ⊢
    simp only [Bool.false_eq_true, if_false, if_true] at h1 ⊢
    have e1 : MZ a = 0 := by omega
    have e2 : MZ b = 0 := by omega
    rw [e1, e2, z0]
    decide
  · unfold sz
    simp only [Bool.false_eq_true, if_false, if_true]
    omega
  · rw [sa, sb] at h1
    unfold sz at h1 ⊢
    simp only [if_true] at h1 ⊢
    have := rung_mono 1074 (Nat.mul_le_mul_right (MZ d) (show MZ b ≤ MZ a by omega))
    omega

/-! Whole numbers. -/
def wholeN (n : Nat) : Nat := rung 0 (n * 2 ^ OP)
theorem whole_rep {n : Nat} (h : n < 9007199254740992) : Rep (n * 2 ^ OP) := by
  have h1 := OP_eq
  have h2 := TP_eq
  refine rep_lt h (Nat.lt_of_lt_of_le (scaled_lt (L := 53) (by omega)) (Nat.pow_le_pow_right (by decide) (by omega)))
theorem whole_parts {n : Nat} (h : n < 9007199254740992) : mag (wholeN n : Nat) < 9218868437227405312 ∧ SV (wholeN n : Nat) = ((n * 2 ^ OP : Nat) : Int) ∧ belowB (wholeN n : Nat) = false ∧ MZ (wholeN n : Nat) = n * 2 ^ OP ∧ U64 (wholeN n : Nat) := by
  obtain ⟨h1, h2⟩ := (whole_rep h).rung
  obtain ⟨w1, w2, w3⟩ := SV_word (s := false) (rung_le 0 (n * 2 ^ OP))
  have e : sgn false + ((rung 0 (n * 2 ^ OP) : Nat) : Int) = ((wholeN n : Nat) : Int) := by unfold sgn wholeN; simp
  rw [e] at w1 w2 w3
  have hz : MZ (wholeN n : Nat) = n * 2 ^ OP := by unfold MZ; rw [w2, Int.toNat_natCast, h2]
  refine ⟨by omega, ?_, w3, hz, ?_⟩
  · rw [w1, h2]; rfl
  · unfold U64 wholeN; omega
theorem near_whole (n : Nat) : nearZ false ((n * 2 ^ OP : Nat) : Int) = (wholeN n : Nat) := by
  unfold nearZ wholeN
  by_cases c : ((n * 2 ^ OP : Nat) : Int) = 0
  · rw [if_pos c]
    have e : n * 2 ^ OP = 0 := by omega
    rw [e, rung_tiny (by simp)]; rfl
  · rw [if_neg c, decide_eq_false (by omega), Int.natAbs_natCast]
    unfold sgn; simp
theorem exact_add {x y : Nat} (hx : x < 67108864) (hy : y < 67108864) : addZ (wholeN x : Nat) (wholeN y : Nat) = (wholeN (x + y) : Nat) := by
  obtain ⟨a1, a2, a3, a4, a5⟩ := whole_parts (show x < 9007199254740992 by omega)
  obtain ⟨b1, b2, b3, b4, b5⟩ := whole_parts (show y < 9007199254740992 by omega)
  rw [addZ_finite a1 b1, a2, b2, a3, b3, ← near_whole, Nat.add_mul, Int.natCast_add]
  rfl
theorem exact_sub {x y : Nat} (hx : x < 67108864) (hy : y < 67108864) : subZ (wholeN (x + y) : Nat) (wholeN y : Nat) = (wholeN x : Nat) := by
  obtain ⟨a1, a2, a3, a4, a5⟩ := whole_parts (show x + y < 9007199254740992 by omega)
  obtain ⟨b1, b2, b3, b4, b5⟩ := whole_parts (show y < 9007199254740992 by omega)
  rw [subZ_finite b5 a1 b1, a2, b2, a3, b3, ← near_whole, Nat.add_mul, Int.natCast_add, Int.add_sub_cancel]
  rfl
theorem exact_mul {x y : Nat} (hx : x < 67108864) (hy : y < 67108864) : mulZ (wholeN x : Nat) (wholeN y : Nat) = (wholeN (x * y) : Nat) := by
  obtain ⟨a1, a2, a3, a4, a5⟩ := whole_parts (show x < 9007199254740992 by omega)
  obtain ⟨b1, b2, b3, b4, b5⟩ := whole_parts (show y < 9007199254740992 by omega)
  have e : x * 2 ^ OP * (y * 2 ^ OP) = x * y * 2 ^ OP * 2 ^ OP := by grind
  rw [mulZ_finite a1 b1, a3, b3, a4, b4, e, rung_units]
  unfold sgn wholeN
  simp

/-! Powers of two. -/
theorem two_parts (k : Nat) (hk : k < 100) : mag ((1023 + (k : Int)) * 4503599627370496) < 9218868437227405312 ∧ belowB ((1023 + (k : Int)) * 4503599627370496) = false ∧ MZ ((1023 + (k : Int)) * 4503599627370496) = 2 ^ k * 2 ^ OP := by
  have e : mag ((1023 + (k : Int)) * 4503599627370496) = (1023 + (k : Int)) * 4503599627370496 := by unfold mag; rw [if_neg (by omega)]
  refine ⟨by rw [e]; omega, decide_eq_false (by omega), ?_⟩
  unfold MZ
  rw [e, show ((1023 + (k : Int)) * 4503599627370496).toNat = (1022 + k) * 4503599627370496 + 4503599627370496 by omega, M_pow, ← Nat.pow_add]
  congr 1
  have := OP_eq
  omega
theorem scales_mul {a : Int} (ha : mag a < 9218868437227405312) (k : Nat) (hk : k < 100) : mulZ a ((1023 + (k : Int)) * 4503599627370496) = sgn (belowB a) + (rung 0 (MZ a * 2 ^ k) : Nat) := by
  obtain ⟨t1, t2, t3⟩ := two_parts k hk
  rw [mulZ_finite ha t1, t2, t3, Bool.xor_false, ← Nat.mul_assoc, rung_units]
theorem scales_add {a : Int} (hu : U64 a) (ha : mag a < 9218868437227405312) (h0 : mag a ≠ 0) : addZ a a = sgn (belowB a) + (rung 0 (2 * MZ a) : Nat) := by
  have hz : MZ a ≠ 0 := fun k => h0 ((MZ_0 hu).1 k)
  rw [addZ_finite ha ha]
  unfold nearZ SV sz
  cases belowB a
  · simp only [Bool.false_eq_true, if_false]
    rw [if_neg (by omega), decide_eq_false (by omega), show ((MZ a : Int) + (MZ a : Int)).natAbs = 2 * MZ a by omega]
  · simp only [if_true]
    rw [if_neg (by omega), decide_eq_true (by omega), show (-(MZ a : Int) + -(MZ a : Int)).natAbs = 2 * MZ a by omega]

/-! What a sum lacks. -/
theorem loses {a b : Int} (ha : U64 a) (hb : U64 b) (fa : mag a < 9218868437227405312) (fb : mag b < 9218868437227405312) (hle : mag b ≤ mag a) (hs : mag (addZ a b) < 9218868437227405312) :
    mag (subZ b (subZ (addZ a b) a)) < 9218868437227405312 ∧ SV (addZ a b) + SV (subZ b (subZ (addZ a b) a)) = SV a + SV b := by
  have hsu := addZ_u64 ha hb
  have es := addZ_finite fa fb
  have ma := mag_range ha
  have mb := mag_range hb
  obtain ⟨n1, n2⟩ := SV_near2 (belowB a && belowB b) (SV a + SV b)
  rw [← es] at n1 n2
  -- the sum seen with the first one's sign
  have key : RepI (SV (addZ a b) - SV a) ∧ RepI (SV b - (SV (addZ a b) - SV a)) := by
    obtain ⟨V, hV⟩ : ∃ V : Nat, V = (SV a + SV b).natAbs := ⟨_, rfl⟩
    have hM : M (mag b).toNat ≤ M (mag a).toNat := by
      rcases Nat.lt_or_ge (M (mag a).toNat) (M (mag b).toNat) with k | k
      · have := M_lt_iff.1 k; omega
      · exact k
    have f := fast2sum (mag a).toNat (mag b).toNat (by omega) (by omega) (belowB a ^^ belowB b) V
    have hfin : rung 0 V < 9218868437227405312 := by rw [hV]; omega
    rw [← hV] at n1
    have hz : V = 0 → M (rung 0 V) = 0 := by intro k; rw [k, rung_tiny (by simp), M_zero]
    unfold SV at hV n1 ⊢
    unfold MZ at hV n1 ⊢
    have n1' : sz (belowB (addZ a b)) (M (mag (addZ a b)).toNat) = sz (decide (sz (belowB a) (M (mag a).toNat) + sz (belowB b) (M (mag b).toNat) < 0)) (M (rung 0 V)) := n1
    rw [n1']
    generalize M (mag a).toNat = x at *
    generalize M (mag b).toNat = y at *
    generalize M (rung 0 V) = S at *
    clear n1 n1' n2 es hs hsu
    generalize belowB a = sa at *
    generalize belowB b = sb at *
    cases sa <;> cases sb
    · have g := f (by unfold sz at hV ⊢; simp at hV ⊢; omega) hfin
      unfold sz at g hV ⊢
      simp only [Bool.false_eq_true, if_false, Bool.xor_false] at g hV ⊢
      rw [decide_eq_false (show ¬ (x : Int) + (y : Int) < 0 by omega)]
      exact g
    · have g := f (by unfold sz at hV ⊢; simp at hV ⊢; omega) hfin
      unfold sz at g hV ⊢
      simp only [Bool.false_eq_true, if_false, if_true, Bool.false_xor] at g hV ⊢
      rw [decide_eq_false (show ¬ (x : Int) + -(y : Int) < 0 by omega)]
      exact g
    · have g := f (by unfold sz at hV ⊢; simp at hV ⊢; omega) hfin
      unfold sz at g hV ⊢
      simp only [Bool.false_eq_true, if_false, if_true, Bool.xor_false] at g hV ⊢
      obtain ⟨g1, g2⟩ := g
      by_cases c : -(x : Int) + (y : Int) < 0
      · rw [decide_eq_true c]
        simp only [if_true]
        refine ⟨?_, ?_⟩
        · have := g1.neg; rw [show -((S : Int) - (x : Int)) = -(S : Int) - -(x : Int) by omega] at this; exact this
        · have := g2.neg; rw [show -(-(y : Int) - ((S : Int) - (x : Int))) = (y : Int) - (-(S : Int) - -(x : Int)) by omega] at this; exact this
      · have hS0 : S = 0 := hz (by omega)
        rw [decide_eq_false c]
        simp only [Bool.false_eq_true, if_false]
        refine ⟨?_, ?_⟩
        · have := g1.neg; rw [show -((S : Int) - (x : Int)) = (S : Int) - -(x : Int) by omega] at this; exact this
        · have := g2.neg; rw [show -(-(y : Int) - ((S : Int) - (x : Int))) = (y : Int) - ((S : Int) - -(x : Int)) by omega] at this; exact this
    · have g := f (by unfold sz at hV ⊢; simp at hV ⊢; omega) hfin
      unfold sz at g hV ⊢
      simp only [Bool.false_eq_true, if_false, if_true, Bool.xor_self] at g hV ⊢
      obtain ⟨g1, g2⟩ := g
      by_cases c : -(x : Int) + -(y : Int) < 0
      · rw [decide_eq_true c]
        simp only [if_true]
        refine ⟨?_, ?_⟩
        · have := g1.neg; rw [show -((S : Int) - (x : Int)) = -(S : Int) - -(x : Int) by omega] at this; exact this
        · have := g2.neg; rw [show -((y : Int) - ((S : Int) - (x : Int))) = -(y : Int) - (-(S : Int) - -(x : Int)) by omega] at this; exact this
      · have hS0 : S = 0 := hz (by omega)
        rw [decide_eq_false c]
        simp only [Bool.false_eq_true, if_false]
        refine ⟨?_, ?_⟩
        · have := g1.neg; rw [show -((S : Int) - (x : Int)) = (S : Int) - -(x : Int) by omega] at this; exact this
        · have := g2.neg; rw [show -((y : Int) - ((S : Int) - (x : Int))) = -(y : Int) - ((S : Int) - -(x : Int)) by omega] at this; exact this
  obtain ⟨k1, k2⟩ := key
  obtain ⟨d1, d2⟩ := SV_near (belowB (addZ a b) && !belowB a) k1
  rw [← subZ_finite ha hs fa] at d1 d2
  have du : U64 (subZ (addZ a b) a) := addZ_u64 hsu (negZ_u64 ha)
  rw [← d1] at k2
  obtain ⟨e1, e2⟩ := SV_near (belowB b && !belowB (subZ (addZ a b) a)) k2
  rw [← subZ_finite du fb d2] at e1 e2
  refine ⟨e2, ?_⟩
  rw [e1, d1]
  omega

end Go.Proofs.Ytpjgmlhchaojaaa
