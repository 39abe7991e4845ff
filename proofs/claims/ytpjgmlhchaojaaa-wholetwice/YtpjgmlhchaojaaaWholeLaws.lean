/-
  Layer 4: what the five statements come to, plain mathematics.
-/
import Derived.Test.YtpjgmlhchaojaaaWholeToInt
namespace Go.Proofs.Ytpjgmlhchaojaaa
open Go.RowKit Dg Flo

theorem SV_strict {a b : Int} (ha : U64 a) (hb : U64 b) (h : sv a < sv b) : SV a < SV b := by
  rw [sv_sz ha, sv_sz hb] at h
  unfold SV MZ
  generalize (mag a).toNat = u at *
  generalize (mag b).toNat = v at *
  have k1 : u < v → M u < M v := M_mono
  have k2 : v < u → M v < M u := M_mono
  have k3 : 0 < u → 0 < M u := fun h => by have := M_mono h; rw [M_zero] at this; exact this
  have k4 : 0 < v → 0 < M v := fun h => by have := M_mono h; rw [M_zero] at this; exact this
  generalize M u = x at *
  generalize M v = y at *
  revert h
  unfold sz
  cases belowB a <;> cases belowB b <;> simp <;> omega
theorem not_less {a b : Int} (ha : U64 a) (hb : U64 b) (h : SV b ≤ SV a) : lessB a b = false := by
  unfold lessB
  have : decide (sv a < sv b) = false := by
    apply decide_eq_false
    intro c
    have := SV_strict ha hb c
    omega
  rw [this]; simp
theorem equal_of {a b : Int} (ha : U64 a) (hb : U64 b) (na : nanB a = false) (nb : nanB b = false) (h : SV a = SV b) : equalB a b = true := by
  unfold equalB
  rw [na, nb]
  have : sv a = sv b := by
    rcases Int.lt_trichotomy (sv a) (sv b) with c | c | c
    · have := SV_strict ha hb c; omega
    · exact c
    · have := SV_strict hb ha c; omega
  rw [decide_eq_true this]; rfl

theorem sz_mono {s t : Bool} {x y X Y : Nat} (h : sz s x ≤ sz t y) (p : s = false → t = false → x ≤ y → X ≤ Y) (n : s = true → t = true → y ≤ x → Y ≤ X) (z : s = false → t = true → x = 0 → y = 0 → X = 0 ∧ Y = 0) : sz s X ≤ sz t Y := by
  unfold sz at *
  cases s <;> cases t <;> simp at * <;> omega

theorem sz_t (n : Nat) : sz true n = -(n : Int) := rfl
theorem sz_f (n : Nat) : sz false n = (n : Int) := rfl
theorem inf_top {s t x : Bool} {u v y : Nat} (h : sz s u < sz t v) (hv : v = 9218868437227405312) (hu : u < 9218868437227405312) (hy : y < 9218868437227405312) : ¬ sz t v < sz x y := by
  cases s <;> cases t <;> cases x <;> simp only [sz_t, sz_f] at h ⊢ <;> omega
theorem inf_bottom {s t x : Bool} {u v y : Nat} (h : sz s u < sz t v) (hu : u = 9218868437227405312) (hv : v ≤ 9218868437227405312) (hy : y ≤ 9218868437227405312) : ¬ sz x y < sz s u := by
  cases s <;> cases t <;> cases x <;> simp only [sz_t, sz_f] at h ⊢ <;> omega
/-- Whole numbers about numbers keep their order. -/
theorem whole_rises {how : Nat} {a b : Int} (ha : U64 a) (hb : U64 b) (h : lessB a b = true) : lessB (wholeZ how b) (wholeZ how a) = false := by
  unfold lessB at h
  simp only [Bool.and_eq_true, Bool.not_eq_true', decide_eq_true_eq] at h
  obtain ⟨na, nb, hs⟩ := h
  have ua := wholeZ_u64 (how := how) ha
  have ub := wholeZ_u64 (how := how) hb
  rcases kindsZ a with ka | ka | ka
  · rcases kindsZ b with kb | kb | kb
    · refine not_less ub ua ?_
      obtain ⟨_, _, _, pa⟩ := wh_parts (how := how) ha ka
      obtain ⟨_, _, _, pb⟩ := wh_parts (how := how) hb kb
      rw [pa, pb]
      have hv : SV a ≤ SV b := SV_mono ha hb (by omega)
      unfold SV at hv
      refine sz_mono hv ?_ ?_ ?_
      · intro s t h
        rw [s, t]
        exact Nat.mul_le_mul_right _ (wcut_mono _ UN_pos h)
      · intro s t h
        rw [s, t]
        exact Nat.mul_le_mul_right _ (wcut_mono _ UN_pos h)
      · intro s t h1 h2
        rw [h1, h2, wcut_exact _ (Nat.zero_mod _), wcut_exact _ (Nat.zero_mod _), Nat.zero_div, Nat.zero_mul]
        exact ⟨rfl, rfl⟩
    · rw [wholeZ_inf (inf_inf kb)]
      have hp := (wh_parts (how := how) ha ka).1
      generalize wholeZ how a = x at *
      unfold lessB
      have : decide (sv b < sv x) = false := by
        apply decide_eq_false
        have h1 := mag_range ua
        have h2 := mag_range ha
        rw [sv_sz hb] at hs ⊢
        rw [sv_sz ha] at hs
        rw [sv_sz ua]
        exact inf_top hs (by omega) (by omega) (by omega)
      rw [this]; simp
    · rw [nan_nan kb] at nb; cases nb
  · rw [wholeZ_inf (inf_inf ka)]
    unfold lessB
    have : decide (sv (wholeZ how b) < sv a) = false := by
      have hm : mag (wholeZ how b) ≤ 9218868437227405312 := by
        rcases kindsZ b with kb | kb | kb
        · have := (wh_parts (how := how) hb kb).1; omega
        · rw [wholeZ_inf (inf_inf kb)]; omega
        · rw [nan_nan kb] at nb; cases nb
      have hmb : mag b ≤ 9218868437227405312 := by
        rcases kindsZ b with kb | kb | kb
        · omega
        · omega
        · rw [nan_nan kb] at nb; cases nb
      generalize wholeZ how b = x at *
      apply decide_eq_false
      have h1 := mag_range ub
      have h2 := mag_range hb
      rw [sv_sz ha] at hs ⊢
      rw [sv_sz hb] at hs
      rw [sv_sz ub]
      exact inf_bottom hs (by omega) (by omega) (by omega)
    rw [this]; simp
  · rw [nan_nan ka] at na; cases na

/-- The two whole numbers about a finite number. -/
def wd (a : Int) (far : Bool) : Int := sgn (belowB a) + (rung 0 ((MZ a / UN + far.toNat) * UN) : Nat)
theorem whole_wd {how : Nat} {a : Int} (h : mag a < 9218868437227405312) : wholeZ how a = wd a (farB UN how (belowB a) (MZ a)) := wholeZ_fin h

theorem fin_of {how : Nat} {a : Int} (ha : U64 a) (h : mag a < 9218868437227405312) : nanB (wholeZ how a) = false := fin_nan (wh_parts ha h).1

theorem floor_below {a : Int} (ha : U64 a) (h : mag a < 9218868437227405312) : lessB a (wholeZ 1 a) = false := by
  refine not_less ha (wholeZ_u64 ha) ?_
  rw [(wh_parts ha h).2.2.2]
  unfold SV
  have e := Nat.div_add_mod (MZ a) UN
  rw [Nat.mul_comm] at e
  cases hb : belowB a
  · have hf : farB UN 1 false (MZ a) = false := Bool.and_false _
    unfold wcut
    rw [hf, sz_f, sz_f, Bool.toNat_false, Nat.add_zero]
    omega
  · have hf : farB UN 1 true (MZ a) = decide (MZ a % UN ≠ 0) := Bool.and_true _
    unfold wcut
    rw [hf, sz_t, sz_t]
    have hr := Nat.mod_lt (MZ a) UN_pos
    by_cases c : MZ a % UN = 0
    · rw [c, decide_eq_false (by simp), Bool.toNat_false, Nat.add_zero]; omega
    · rw [decide_eq_true c, Bool.toNat_true, Nat.add_mul, Nat.one_mul]; omega
theorem ceil_above {a : Int} (ha : U64 a) (h : mag a < 9218868437227405312) : lessB (wholeZ 2 a) a = false := by
  refine not_less (wholeZ_u64 ha) ha ?_
  rw [(wh_parts ha h).2.2.2]
  unfold SV
  have e := Nat.div_add_mod (MZ a) UN
  rw [Nat.mul_comm] at e
  cases hb : belowB a
  · have hf : farB UN 2 false (MZ a) = decide (MZ a % UN ≠ 0) := Bool.and_true _
    unfold wcut
    rw [hf, sz_f, sz_f]
    have hr := Nat.mod_lt (MZ a) UN_pos
    by_cases c : MZ a % UN = 0
    · rw [c, decide_eq_false (by simp), Bool.toNat_false, Nat.add_zero]; omega
    · rw [decide_eq_true c, Bool.toNat_true, Nat.add_mul, Nat.one_mul]; omega
  · have hf : farB UN 2 true (MZ a) = false := Bool.and_false _
    unfold wcut
    rw [hf, sz_t, sz_t, Bool.toNat_false, Nat.add_zero]
    omega

theorem is_fin {a : Int} (h : isZ a = true) : mag a < 9218868437227405312 ∧ MZ a % UN = 0 := by
  unfold isZ at h
  simpa using h
theorem is_stays {how : Nat} {a : Int} (ha : U64 a) (h : isZ a = true) : equalB (wholeZ how a) a = true := by
  obtain ⟨h1, h2⟩ := is_fin h
  rw [whole_stays ha h1 h2, equalB_self, fin_nan h1]; rfl

theorem M_two (l : Nat) : M (l * 4503599627370496 + 4503599627370496) = 2 ^ (52 + l) := by
  rw [M_at (by decide) (Or.inr (Nat.le_refl _)), Nat.pow_add]
/-- 1 as a number. -/
theorem rung_one1 : rung 0 UN = 4607182418800017408 := by
  have h : M 4607182418800017408 = UN := by
    have hO : OP = 52 + 1022 := rfl
    rw [UN_eq, hO, show 4607182418800017408 = 1022 * 4503599627370496 + 4503599627370496 by decide, M_two]
  rw [← h, rung_M (by decide)]

/-- Of a number with a rest, one of the two is one more than the other. -/
theorem wd_apart {a : Int} (hr : Rep ((MZ a / UN + 1) * UN)) (hr0 : Rep (MZ a / UN * UN)) : subZ (wd a (!belowB a)) (wd a (belowB a)) = 4607182418800017408 := by
  obtain ⟨p1, p2, p3, p4⟩ := word_parts (belowB a) hr
  obtain ⟨q1, q2, q3, q4⟩ := word_parts (belowB a) hr0
  have e1 : wd a true = sgn (belowB a) + (rung 0 ((MZ a / UN + 1) * UN) : Nat) := rfl
  have e0 : wd a false = sgn (belowB a) + (rung 0 (MZ a / UN * UN) : Nat) := rfl
  rw [← e1] at p1 p2 p3 p4
  rw [← e0] at q1 q2 q3 q4
  have u1 : U64 (wd a true) := by
    rw [e1]
    have := rung_le 0 ((MZ a / UN + 1) * UN)
    generalize rung 0 ((MZ a / UN + 1) * UN) = R at *
    unfold U64 sgn; cases belowB a <;> simp <;> omega
  have u0 : U64 (wd a false) := by
    rw [e0]
    have := rung_le 0 (MZ a / UN * UN)
    generalize rung 0 (MZ a / UN * UN) = R at *
    unfold U64 sgn; cases belowB a <;> simp <;> omega
  have key : ∀ x y : Int, U64 x → U64 y → mag x < 9218868437227405312 → mag y < 9218868437227405312 → SV x - SV y = (UN : Nat) → subZ x y = 4607182418800017408 := by
    intro x y hx hy mx my hd
    have ny : nanB y = false := fin_nan my
    obtain ⟨n1, n2⟩ := neg_parts hy ny
    have hbad : addBad x (negZ y) = false := by
      unfold addBad
      rw [fin_nan mx, fin_nan (by omega), fin_inf mx]
      simp
    have hsv : SV (negZ y) = -SV y := by
      unfold SV MZ
      rw [n1, n2]
      generalize M (mag y).toNat = m
      cases belowB y
      · show sz true m = -sz false m
        rw [sz_t, sz_f]
      · show sz false m = -sz true m
        rw [sz_t, sz_f]; omega
    unfold subZ addZ
    rw [hbad, fin_inf mx, fin_inf (by omega)]
    simp only [Bool.false_eq_true, if_false]
    rw [hsv, show SV x + -SV y = (UN : Int) by omega]
    unfold nearZ
    have hp := UN_pos
    rw [if_neg (by omega), decide_eq_false (by omega), Int.natAbs_natCast, rung_one1]
    rfl
  cases hb : belowB a
  · rw [hb] at p4 q4
    show subZ (wd a true) (wd a false) = _
    refine key _ _ u1 u0 p1 q1 ?_
    rw [p4, q4, sz_f, sz_f, Nat.add_mul, Nat.one_mul]; omega
  · rw [hb] at p4 q4
    show subZ (wd a false) (wd a true) = _
    refine key _ _ u0 u1 q1 p1 ?_
    rw [p4, q4, sz_t, sz_t, Nat.add_mul, Nat.one_mul]; omega

/-- Floor and ceil are equal, or one apart; trunc is one of them, near is one of them. -/
theorem about {a : Int} (ha : U64 a) (h : mag a < 9218868437227405312) :
    (equalB (wholeZ 1 a) (wholeZ 2 a) = true ∨ subZ (wholeZ 2 a) (wholeZ 1 a) = 4607182418800017408) ∧ (wholeZ 0 a = wholeZ 1 a ∨ wholeZ 0 a = wholeZ 2 a) ∧ (equalB (wholeZ 3 a) (wholeZ 1 a) = true ∨ equalB (wholeZ 3 a) (wholeZ 2 a) = true) := by
  by_cases c : MZ a % UN = 0
  · rw [whole_stays ha h c, whole_stays ha h c, whole_stays ha h c, whole_stays ha h c, equalB_self, fin_nan h]
    exact ⟨Or.inl rfl, Or.inl rfl, Or.inl rfl⟩
  · have f1 : farB UN 1 (belowB a) (MZ a) = belowB a := by
      show (decide (MZ a % UN ≠ 0) && belowB a) = belowB a
      rw [decide_eq_true c]; rfl
    have f2 : farB UN 2 (belowB a) (MZ a) = !belowB a := by
      show (decide (MZ a % UN ≠ 0) && !belowB a) = !belowB a
      rw [decide_eq_true c]; rfl
    have hr1 : Rep ((MZ a / UN + 1) * UN) := by
      have := wh_rep (how := 1) true ha h
      unfold wcut at this
      rw [show farB UN 1 true (MZ a) = true by show (decide (MZ a % UN ≠ 0) && true) = true; rw [decide_eq_true c]; rfl] at this
      exact this
    have hr0 : Rep (MZ a / UN * UN) := wh_rep (how := 0) true ha h
    have h0 : wholeZ 0 a = wd a false := whole_wd h
    have n1 := fin_of (how := 1) ha h
    have n2 := fin_of (how := 2) ha h
    have h1 : wholeZ 1 a = wd a (belowB a) := by rw [whole_wd h, f1]
    have h2 : wholeZ 2 a = wd a (!belowB a) := by rw [whole_wd h, f2]
    have h3 := whole_wd (how := 3) h
    have ap := wd_apart (a := a) hr1 hr0
    rw [h1] at n1 ⊢
    rw [h2] at n2 ⊢
    rw [h0, h3]
    refine ⟨Or.inr ap, ?_, ?_⟩
    · cases belowB a
      · exact Or.inl rfl
      · exact Or.inr rfl
    · cases hx : (farB UN 3 (belowB a) (MZ a) == belowB a)
      · have hx2 : farB UN 3 (belowB a) (MZ a) = !belowB a := by
          revert hx; cases farB UN 3 (belowB a) (MZ a) <;> cases belowB a <;> simp
        right
        rw [hx2, equalB_self, n2]; rfl
      · have hx2 : farB UN 3 (belowB a) (MZ a) = belowB a := by
          revert hx; cases farB UN 3 (belowB a) (MZ a) <;> cases belowB a <;> simp
        left
        rw [hx2, equalB_self, n1]; rfl

theorem fromZ_u64 (n : Int) : U64 (fromZ n) := by
  unfold fromZ
  have := rung_le 0 (n.natAbs * UN)
  generalize rung 0 (n.natAbs * UN) = R at *
  unfold U64 sgn; cases decide (n < 0) <;> simp <;> omega
theorem rep_int {N : Nat} (h : N ≤ 9007199254740992) : Rep (N * UN) := by
  have h4 : N * 2 ^ OP < 2 ^ TP := by
    have h5 : (2 : Nat) ^ 53 * 2 ^ OP < 2 ^ TP := by
      rw [← Nat.pow_add]
      exact Nat.pow_lt_pow_right (by decide) (by rw [OP_eq, TP_eq]; decide)
    exact Nat.lt_of_le_of_lt (Nat.mul_le_mul_right _ (show N ≤ 2 ^ 53 by omega)) h5
  exact rep_of h h4
theorem pow63 (l : Nat) : 9223372036854775808 * 2 ^ l = 2 ^ (63 + l) := by rw [Nat.pow_add]
theorem rep_top : Rep (9223372036854775808 * UN) := by
  have h : 1 * 2 ^ (63 + OP) < 2 ^ TP := by
    rw [Nat.one_mul]
    exact Nat.pow_lt_pow_right (by decide) (by rw [OP_eq, TP_eq]; decide)
  have := rep_lt (n := 1) (k := 63 + OP) (by decide) h
  rw [Nat.one_mul, ← pow63, ← UN_eq] at this
  exact this
theorem int_finite {N : Nat} (h : N ≤ 9223372036854775808) : rung 0 (N * UN) < 9218868437227405312 :=
  Nat.lt_of_le_of_lt (rung_mono 0 (Nat.mul_le_mul_right _ h)) rep_top.rung.1
/-- The number nearest to a whole number is whole. -/
theorem int_whole {N : Nat} (h : N ≤ 9223372036854775808) : M (rung 0 (N * UN)) % UN = 0 := by
  by_cases c : N ≤ 9007199254740992
  · rw [(rep_int c).rung.2]; exact Nat.mul_mod_left _ _
  · rw [M_rung (int_finite h)]
    have hv : 2 ^ (53 + OP) ≤ N * UN := by
      rw [Nat.pow_add, UN_eq]
      exact Nat.mul_le_mul_right _ (by omega)
    have hp := Nat.two_pow_pos (53 + OP)
    have hl : OP ≤ lowest 0 (N * UN) := by
      unfold lowest
      split
      · next k =>
        have : (2 : Nat) ^ (0 + 53) ≤ 2 ^ (53 + OP) := Nat.pow_le_pow_right (by decide) (by omega)
        omega
      · have : 53 + OP ≤ (N * UN).log2 := (Nat.le_log2 (by omega)).2 hv
        omega
    rw [pow_split hl, ← Nat.mul_assoc]
    exact Nat.mul_mod_left _ _
theorem from_parts {n : Int} (h0 : -9223372036854775808 ≤ n) (h1 : n ≤ 9223372036854775807) : mag (fromZ n) < 9218868437227405312 ∧ belowB (fromZ n) = decide (n < 0) ∧ MZ (fromZ n) = M (rung 0 (n.natAbs * UN)) := by
  have hf := int_finite (N := n.natAbs) (by omega)
  obtain ⟨w1, w2, w3⟩ := SV_word (s := decide (n < 0)) (r := rung 0 (n.natAbs * UN)) (by omega)
  refine ⟨?_, w3, ?_⟩
  · show mag (sgn (decide (n < 0)) + (rung 0 (n.natAbs * UN) : Nat)) < _
    rw [w2]; omega
  · show M (mag (sgn (decide (n < 0)) + (rung 0 (n.natAbs * UN) : Nat))).toNat = _
    rw [w2, Int.toNat_natCast]
theorem from_is {n : Int} (h0 : -9223372036854775808 ≤ n) (h1 : n ≤ 9223372036854775807) : isZ (fromZ n) = true := by
  obtain ⟨p1, p2, p3⟩ := from_parts h0 h1
  unfold isZ
  rw [decide_eq_true p1, p3, int_whole (by omega)]; rfl
/-- Whole numbers up to 2 to the 53rd come back. -/
theorem from_back {n : Int} (h : n.natAbs ≤ 9007199254740992) : toB (fromZ n) = true ∧ toI (fromZ n) = n := by
  obtain ⟨p1, p2, p3⟩ := from_parts (n := n) (by omega) (by omega)
  have e : tz (fromZ n) = n := by
    unfold tz
    rw [p2, p3, (rep_int h).rung.2, Nat.mul_div_cancel _ UN_pos]
    by_cases c : n < 0
    · rw [decide_eq_true c, sz_t]; omega
    · rw [decide_eq_false c, sz_f]; omega
  have hi := from_is (n := n) (by omega) (by omega)
  obtain ⟨t1, t2⟩ := toB_in hi (by rw [e]; omega) (by rw [e]; omega)
  exact ⟨t1, by rw [t2, e]⟩
theorem toB_true {a : Int} (h : toB a = true) : isZ a = true ∧ toI a = tz a ∧ -9223372036854775808 ≤ tz a ∧ tz a ≤ 9223372036854775807 := by
  have h2 : toI a = tz a := by unfold toI; rw [h]; rfl
  unfold toB at h
  simp only [Bool.and_eq_true, decide_eq_true_eq] at h
  exact ⟨h.1, h2, h.2.1, h.2.2⟩
/-- A whole number's own number. -/
theorem back_word {a : Int} (ha : U64 a) (h : isZ a = true) (hz : MZ a ≠ 0) : fromZ (tz a) = a := by
  obtain ⟨h1, h2⟩ := is_fin h
  have e : MZ a / UN * UN = MZ a := by
    have := Nat.div_add_mod (MZ a) UN
    rw [h2, Nat.add_zero, Nat.mul_comm] at this
    exact this
  have hw : MZ a / UN ≠ 0 := by
    intro c; rw [c, Nat.zero_mul] at e; omega
  have ht : (tz a).natAbs = MZ a / UN := by
    unfold tz
    generalize MZ a / UN = W
    cases belowB a
    · rw [sz_f]; omega
    · rw [sz_t]; omega
  have hs : decide (tz a < 0) = belowB a := by
    unfold tz
    generalize MZ a / UN = W at *
    cases belowB a
    · rw [sz_f]; exact decide_eq_false (by omega)
    · rw [sz_t]; exact decide_eq_true (by omega)
  unfold fromZ
  rw [ht, hs, e, rung_MZ ha (by omega)]
  exact (word_again ha).symm
theorem back_equal {a : Int} (ha : U64 a) (h : toB a = true) : equalB (fromZ (toI a)) a = true := by
  obtain ⟨h1, h2, h3, h4⟩ := toB_true h
  obtain ⟨f1, f2⟩ := is_fin h1
  rw [h2]
  by_cases c : MZ a = 0
  · have e : tz a = 0 := by
      unfold tz; rw [c, Nat.zero_div]; cases belowB a <;> rfl
    rw [e]
    refine equal_of (fromZ_u64 0) ha (fin_nan (from_parts (n := 0) (by decide) (by decide)).1) (fin_nan f1) ?_
    have e2 : SV a = 0 := by unfold SV; rw [c]; cases belowB a <;> rfl
    have e3 : MZ (fromZ 0) = 0 := by
      rw [(from_parts (n := 0) (by decide) (by decide)).2.2, show (0 : Int).natAbs = 0 from rfl, Nat.zero_mul, rung_tiny (Nat.zero_le _), M_zero]
    have e4 : SV (fromZ 0) = 0 := by unfold SV; rw [e3]; cases belowB (fromZ 0) <;> rfl
    rw [e2, e4]
  · rw [back_word ha h1 c, equalB_self, fin_nan f1]; rfl
/-- What comes back becomes the same number. -/
theorem from_twice {n : Int} (h0 : -9223372036854775808 ≤ n) (h1 : n ≤ 9223372036854775807) (h : toB (fromZ n) = true) : fromZ (toI (fromZ n)) = fromZ n := by
  by_cases c : n.natAbs ≤ 9007199254740992
  · rw [(from_back c).2]
  · obtain ⟨t1, t2, t3, t4⟩ := toB_true h
    rw [t2]
    refine back_word (fromZ_u64 n) t1 ?_
    rw [(from_parts h0 h1).2.2]
    have k1 : rung 0 UN ≤ rung 0 (n.natAbs * UN) := rung_mono 0 (Nat.le_mul_of_pos_left _ (by omega))
    rw [rung_one1] at k1
    have k2 := M_mono (show 0 < rung 0 (n.natAbs * UN) by omega)
    rw [M_zero] at k2
    omega

end Go.Proofs.Ytpjgmlhchaojaaa
