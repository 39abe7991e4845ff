/-
  WholeRef2, WholeToInt, WholeLaws, WholeModel, WholeWalk, WholeIs
-/
import Derived.Test.YthmocdabakkfhaaGreatDoorZ08

/-
  The reference's Trunc, Floor, Ceil, Near, Is, FromInt, Size, ToInt, Apart.
-/
namespace Go.Proofs.YthmocdabakkfhaaGreatDoor
set_option maxRecDepth 100000
open Go.RowKit Dg Flo

theorem size_any (n : Int) (w : World) (h0 : -9223372036854775808 ≤ n) (h1 : n ≤ 9223372036854775807) : Calls Tryz.prog 72 #[.int .i64 n] w fun e w' => e = .returned (.int .u64 (n.natAbs : Nat)) ∧ w' = w := by
  by_cases c : n < 0
  · rw [show ((n.natAbs : Nat) : Int) = -(n + 1) + 1 by omega]
    go_enter Tryz.func72, Tryz.ntmps72
    go_wp2
    go_ret
    exact ⟨rfl, rfl⟩
  · rw [show ((n.natAbs : Nat) : Int) = n by omega]
    go_enter Tryz.func72, Tryz.ntmps72
    go_wp2
    go_ret
    exact ⟨rfl, rfl⟩

/-- The number nearest to a whole number. -/
def fromZ (n : Int) : Int := sgn (decide (n < 0)) + (rung 0 (n.natAbs * UN) : Nat)

theorem refFromInt_any (n : Int) (w : World) (h0 : -9223372036854775808 ≤ n) (h1 : n ≤ 9223372036854775807) : Calls Tryz.prog 53 #[.int .i64 n] w fun e w' => e = .returned (.int .u64 (fromZ n)) ∧ Below w.heap.size w w' := by
  have HS : Hid _ := fun w => size_any n w h0 h1
  have hN : n.natAbs < 18446744073709551616 := by omega
  have HR : Hid (∀ v l w, D w v n.natAbs l → l ≤ 1048576 → Calls Tryz.prog 70 #[.bool (decide (n < 0)), .int .i64 0, v, .bool false] w fun e w' => e = .returned (.int .u64 (fromZ n)) ∧ Below w.heap.size w w') := fun v l w hD hl => round_un v _ l _ w hD hl
  generalize fromZ n = R at *
  generalize n.natAbs = N at *
  generalize hs : decide (n < 0) = s at *
  go_enter Tryz.func53, Tryz.ntmps53
  go_wp2_with fail
  refine (HS.out _).mono ?_
  rintro e w' ⟨rfl, hw'⟩
  rw [hw']
  clear hw' w'
  go_wp2_with fail
  refine (digits_any N _ hN).mono ?_
  rintro e w1 ⟨v1, rfl, hd1, hb1⟩
  go_wp2_with fail
  refine (HR.out _ _ _ hd1 (by decide)).mono ?_
  rintro e w2 ⟨rfl, hb2⟩
  go_wp2
  go_ret
  exact ⟨rfl, hb1.trans (hb2.mono hb1.size)⟩

end Go.Proofs.YthmocdabakkfhaaGreatDoor

/-
  The reference's ToInt.
-/
namespace Go.Proofs.YthmocdabakkfhaaGreatDoor
set_option maxRecDepth 100000
open Go.RowKit Dg Flo

/-- The whole number that a number is, or holds. -/
def tz (a : Int) : Int := sz (belowB a) (MZ a / UN)
def toB (a : Int) : Bool := isZ a && (decide (-9223372036854775808 ≤ tz a) && decide (tz a ≤ 9223372036854775807))
def toI (a : Int) : Int := if toB a then tz a else 0

theorem toB_not {a : Int} (h : isZ a = false) : toB a = false ∧ toI a = 0 := by
  have : toB a = false := by unfold toB; rw [h]; rfl
  exact ⟨this, by unfold toI; rw [this]; rfl⟩
theorem toB_out {a : Int} (h : ¬ (-9223372036854775808 ≤ tz a ∧ tz a ≤ 9223372036854775807)) : toB a = false ∧ toI a = 0 := by
  have : toB a = false := by
    unfold toB
    generalize tz a = t at *
    by_cases c : -9223372036854775808 ≤ t
    · rw [decide_eq_true c, decide_eq_false (by omega)]; simp
    · rw [decide_eq_false c]; simp
  exact ⟨this, by unfold toI; rw [this]; rfl⟩
theorem toB_in {a : Int} (h : isZ a = true) (h1 : -9223372036854775808 ≤ tz a) (h2 : tz a ≤ 9223372036854775807) : toB a = true ∧ toI a = tz a := by
  have : toB a = true := by unfold toB; rw [h, decide_eq_true h1, decide_eq_true h2]; rfl
  exact ⟨this, by unfold toI; rw [this]; rfl⟩
end Go.Proofs.YthmocdabakkfhaaGreatDoor

/-
  Layer 4: what the five statements come to, plain mathematics.
-/
namespace Go.Proofs.YthmocdabakkfhaaGreatDoor
set_option maxRecDepth 100000
open Go.RowKit Dg Flo

theorem SV_strict {a b : Int} (ha : U64 a) (hb : U64 b) (h : sv a < sv b) : SV a < SV b := by
  rw [sv_sz ha, sv_sz hb] at h
  unfold SV MZ
  generalize (mag a).toNat = u at *
  generalize (mag b).toNat = v at *
  have k1 : u < v → M u < M v := M_mono
  have k2 : v < u → M v < M u := M_mono
  have k3 : 0 < u → 0 < M u := fun h => by have := M_mono h; rw [M_zero] at this; exact this
  have k4 : 0 < v → 0 < M v := fun h => by have := M_mono h; rw [M_zero] at this; exact this
  generalize M u = x at *
  generalize M v = y at *
  revert h
  unfold sz
  cases belowB a <;> cases belowB b <;> simp <;> omega
theorem equal_of {a b : Int} (ha : U64 a) (hb : U64 b) (na : nanB a = false) (nb : nanB b = false) (h : SV a = SV b) : equalB a b = true := by
  unfold equalB
  rw [na, nb]
  have : sv a = sv b := by
    rcases Int.lt_trichotomy (sv a) (sv b) with c | c | c
    · have := SV_strict ha hb c; omega
    · exact c
    · have := SV_strict hb ha c; omega
  rw [decide_eq_true this]; rfl

theorem sz_t (n : Nat) : sz true n = -(n : Int) := rfl
theorem sz_f (n : Nat) : sz false n = (n : Int) := rfl
/-- The two whole numbers about a finite number. -/
def wd (a : Int) (far : Bool) : Int := sgn (belowB a) + (rung 0 ((MZ a / UN + far.toNat) * UN) : Nat)
theorem whole_wd {how : Nat} {a : Int} (h : mag a < 9218868437227405312) : wholeZ how a = wd a (farB UN how (belowB a) (MZ a)) := wholeZ_fin h

theorem fin_of {how : Nat} {a : Int} (ha : U64 a) (h : mag a < 9218868437227405312) : nanB (wholeZ how a) = false := fin_nan (wh_parts ha h).1

theorem is_fin {a : Int} (h : isZ a = true) : mag a < 9218868437227405312 ∧ MZ a % UN = 0 := by
  unfold isZ at h
  simpa using h
theorem M_two (l : Nat) : M (l * 4503599627370496 + 4503599627370496) = 2 ^ (52 + l) := by
  rw [M_at (by decide) (Or.inr (Nat.le_refl _)), Nat.pow_add]
/-- 1 as a number. -/
theorem rung_one1 : rung 0 UN = 4607182418800017408 := by
  have h : M 4607182418800017408 = UN := by
    have hO : OP = 52 + 1022 := rfl
    rw [UN_eq, hO, show 4607182418800017408 = 1022 * 4503599627370496 + 4503599627370496 by decide, M_two]
  rw [← h, rung_M (by decide)]

/-- Of a number with a rest, one of the two is one more than the other. -/
theorem wd_apart {a : Int} (hr : Rep ((MZ a / UN + 1) * UN)) (hr0 : Rep (MZ a / UN * UN)) : subZ (wd a (!belowB a)) (wd a (belowB a)) = 4607182418800017408 := by
  obtain ⟨p1, p2, p3, p4⟩ := word_parts (belowB a) hr
  obtain ⟨q1, q2, q3, q4⟩ := word_parts (belowB a) hr0
  have e1 : wd a true = sgn (belowB a) + (rung 0 ((MZ a / UN + 1) * UN) : Nat) := rfl
  have e0 : wd a false = sgn (belowB a) + (rung 0 (MZ a / UN * UN) : Nat) := rfl
  rw [← e1] at p1 p2 p3 p4
  rw [← e0] at q1 q2 q3 q4
  have u1 : U64 (wd a true) := by
    rw [e1]
    have := rung_le 0 ((MZ a / UN + 1) * UN)
    generalize rung 0 ((MZ a / UN + 1) * UN) = R at *
    unfold U64 sgn; cases belowB a <;> simp <;> omega
  have u0 : U64 (wd a false) := by
    rw [e0]
    have := rung_le 0 (MZ a / UN * UN)
    generalize rung 0 (MZ a / UN * UN) = R at *
    unfold U64 sgn; cases belowB a <;> simp <;> omega
  have key : ∀ x y : Int, U64 x → U64 y → mag x < 9218868437227405312 → mag y < 9218868437227405312 → SV x - SV y = (UN : Nat) → subZ x y = 4607182418800017408 := by
    intro x y hx hy mx my hd
    have ny : nanB y = false := fin_nan my
    obtain ⟨n1, n2⟩ := neg_parts hy ny
    have hbad : addBad x (negZ y) = false := by
      unfold addBad
      rw [fin_nan mx, fin_nan (by omega), fin_inf mx]
      simp
    have hsv : SV (negZ y) = -SV y := by
      unfold SV MZ
      rw [n1, n2]
      generalize M (mag y).toNat = m
      cases belowB y
      · show sz true m = -sz false m
        rw [sz_t, sz_f]
      · show sz false m = -sz true m
        rw [sz_t, sz_f]; omega
    unfold subZ addZ
    rw [hbad, fin_inf mx, fin_inf (by omega)]
    simp only [Bool.false_eq_true, if_false]
    rw [hsv, show SV x + -SV y = (UN : Int) by omega]
    unfold nearZ
    have hp := UN_pos
    rw [if_neg (by omega), decide_eq_false (by omega), Int.natAbs_natCast, rung_one1]
    rfl
  cases hb : belowB a
  · rw [hb] at p4 q4
    show subZ (wd a true) (wd a false) = _
    refine key _ _ u1 u0 p1 q1 ?_
    rw [p4, q4, sz_f, sz_f, Nat.add_mul, Nat.one_mul]; omega
  · rw [hb] at p4 q4
    show subZ (wd a false) (wd a true) = _
    refine key _ _ u0 u1 q1 p1 ?_
    rw [p4, q4, sz_t, sz_t, Nat.add_mul, Nat.one_mul]; omega

/-- Floor and ceil are equal, or one apart; trunc is one of them, near is one of them. -/
theorem about {a : Int} (ha : U64 a) (h : mag a < 9218868437227405312) :
    (equalB (wholeZ 1 a) (wholeZ 2 a) = true ∨ subZ (wholeZ 2 a) (wholeZ 1 a) = 4607182418800017408) ∧ (wholeZ 0 a = wholeZ 1 a ∨ wholeZ 0 a = wholeZ 2 a) ∧ (equalB (wholeZ 3 a) (wholeZ 1 a) = true ∨ equalB (wholeZ 3 a) (wholeZ 2 a) = true) := by
  by_cases c : MZ a % UN = 0
  · rw [whole_stays ha h c, whole_stays ha h c, whole_stays ha h c, whole_stays ha h c, equalB_self, fin_nan h]
    exact ⟨Or.inl rfl, Or.inl rfl, Or.inl rfl⟩
  · have f1 : farB UN 1 (belowB a) (MZ a) = belowB a := by
      show (decide (MZ a % UN ≠ 0) && belowB a) = belowB a
      rw [decide_eq_true c]; rfl
    have f2 : farB UN 2 (belowB a) (MZ a) = !belowB a := by
      show (decide (MZ a % UN ≠ 0) && !belowB a) = !belowB a
      rw [decide_eq_true c]; rfl
    have hr1 : Rep ((MZ a / UN + 1) * UN) := by
      have := wh_rep (how := 1) true ha h
      unfold wcut at this
      rw [show farB UN 1 true (MZ a) = true by show (decide (MZ a % UN ≠ 0) && true) = true; rw [decide_eq_true c]; rfl] at this
      exact this
    have hr0 : Rep (MZ a / UN * UN) := wh_rep (how := 0) true ha h
    have h0 : wholeZ 0 a = wd a false := whole_wd h
    have n1 := fin_of (how := 1) ha h
    have n2 := fin_of (how := 2) ha h
    have h1 : wholeZ 1 a = wd a (belowB a) := by rw [whole_wd h, f1]
    have h2 : wholeZ 2 a = wd a (!belowB a) := by rw [whole_wd h, f2]
    have h3 := whole_wd (how := 3) h
    have ap := wd_apart (a := a) hr1 hr0
    rw [h1] at n1 ⊢
    rw [h2] at n2 ⊢
    rw [h0, h3]
    refine ⟨Or.inr ap, ?_, ?_⟩
    · cases belowB a
      · exact Or.inl rfl
      · exact Or.inr rfl
    · cases hx : (farB UN 3 (belowB a) (MZ a) == belowB a)
      · have hx2 : farB UN 3 (belowB a) (MZ a) = !belowB a := by
          revert hx; cases farB UN 3 (belowB a) (MZ a) <;> cases belowB a <;> simp
        right
        rw [hx2, equalB_self, n2]; rfl
      · have hx2 : farB UN 3 (belowB a) (MZ a) = belowB a := by
          revert hx; cases farB UN 3 (belowB a) (MZ a) <;> cases belowB a <;> simp
        left
        rw [hx2, equalB_self, n1]; rfl

theorem fromZ_u64 (n : Int) : U64 (fromZ n) := by
  unfold fromZ
  have := rung_le 0 (n.natAbs * UN)
  generalize rung 0 (n.natAbs * UN) = R at *
  unfold U64 sgn; cases decide (n < 0) <;> simp <;> omega
theorem rep_int {N : Nat} (h : N ≤ 9007199254740992) : Rep (N * UN) := by
  have h4 : N * 2 ^ OP < 2 ^ TP := by
    have h5 : (2 : Nat) ^ 53 * 2 ^ OP < 2 ^ TP := by
      rw [← Nat.pow_add]
      exact Nat.pow_lt_pow_right (by decide) (by rw [OP_eq, TP_eq]; decide)
    exact Nat.lt_of_le_of_lt (Nat.mul_le_mul_right _ (show N ≤ 2 ^ 53 by omega)) h5
  exact rep_of h h4
theorem pow63 (l : Nat) : 9223372036854775808 * 2 ^ l = 2 ^ (63 + l) := by rw [Nat.pow_add]
theorem rep_top : Rep (9223372036854775808 * UN) := by
  have h : 1 * 2 ^ (63 + OP) < 2 ^ TP := by
    rw [Nat.one_mul]
    exact Nat.pow_lt_pow_right (by decide) (by rw [OP_eq, TP_eq]; decide)
  have := rep_lt (n := 1) (k := 63 + OP) (by decide) h
  rw [Nat.one_mul, ← pow63, ← UN_eq] at this
  exact this
theorem int_finite {N : Nat} (h : N ≤ 9223372036854775808) : rung 0 (N * UN) < 9218868437227405312 :=
  Nat.lt_of_le_of_lt (rung_mono 0 (Nat.mul_le_mul_right _ h)) rep_top.rung.1
/-- The number nearest to a whole number is whole. -/
theorem int_whole {N : Nat} (h : N ≤ 9223372036854775808) : M (rung 0 (N * UN)) % UN = 0 := by
  by_cases c : N ≤ 9007199254740992
  · rw [(rep_int c).rung.2]; exact Nat.mul_mod_left _ _
  · rw [M_rung (int_finite h)]
    have hv : 2 ^ (53 + OP) ≤ N * UN := by
      rw [Nat.pow_add, UN_eq]
      exact Nat.mul_le_mul_right _ (by omega)
    have hp := Nat.two_pow_pos (53 + OP)
    have hl : OP ≤ lowest 0 (N * UN) := by
      unfold lowest
      split
      · next k =>
        have : (2 : Nat) ^ (0 + 53) ≤ 2 ^ (53 + OP) := Nat.pow_le_pow_right (by decide) (by omega)
        omega
      · have : 53 + OP ≤ (N * UN).log2 := (Nat.le_log2 (by omega)).2 hv
        omega
    rw [pow_split hl, ← Nat.mul_assoc]
    exact Nat.mul_mod_left _ _
theorem from_parts {n : Int} (h0 : -9223372036854775808 ≤ n) (h1 : n ≤ 9223372036854775807) : mag (fromZ n) < 9218868437227405312 ∧ belowB (fromZ n) = decide (n < 0) ∧ MZ (fromZ n) = M (rung 0 (n.natAbs * UN)) := by
  have hf := int_finite (N := n.natAbs) (by omega)
  obtain ⟨w1, w2, w3⟩ := SV_word (s := decide (n < 0)) (r := rung 0 (n.natAbs * UN)) (by omega)
  refine ⟨?_, w3, ?_⟩
  · show mag (sgn (decide (n < 0)) + (rung 0 (n.natAbs * UN) : Nat)) < _
    rw [w2]; omega
  · show M (mag (sgn (decide (n < 0)) + (rung 0 (n.natAbs * UN) : Nat))).toNat = _
    rw [w2, Int.toNat_natCast]
theorem from_is {n : Int} (h0 : -9223372036854775808 ≤ n) (h1 : n ≤ 9223372036854775807) : isZ (fromZ n) = true := by
  obtain ⟨p1, p2, p3⟩ := from_parts h0 h1
  unfold isZ
  rw [decide_eq_true p1, p3, int_whole (by omega)]; rfl
/-- Whole numbers up to 2 to the 53rd come back. -/
theorem from_back {n : Int} (h : n.natAbs ≤ 9007199254740992) : toB (fromZ n) = true ∧ toI (fromZ n) = n := by
  obtain ⟨p1, p2, p3⟩ := from_parts (n := n) (by omega) (by omega)
  have e : tz (fromZ n) = n := by
    unfold tz
    rw [p2, p3, (rep_int h).rung.2, Nat.mul_div_cancel _ UN_pos]
    by_cases c : n < 0
    · rw [decide_eq_true c, sz_t]; omega
    · rw [decide_eq_false c, sz_f]; omega
  have hi := from_is (n := n) (by omega) (by omega)
  obtain ⟨t1, t2⟩ := toB_in hi (by rw [e]; omega) (by rw [e]; omega)
  exact ⟨t1, by rw [t2, e]⟩
theorem toB_true {a : Int} (h : toB a = true) : isZ a = true ∧ toI a = tz a ∧ -9223372036854775808 ≤ tz a ∧ tz a ≤ 9223372036854775807 := by
  have h2 : toI a = tz a := by unfold toI; rw [h]; rfl
  unfold toB at h
  simp only [Bool.and_eq_true, decide_eq_true_eq] at h
  exact ⟨h.1, h2, h.2.1, h.2.2⟩
/-- A whole number's own number. -/
theorem back_word {a : Int} (ha : U64 a) (h : isZ a = true) (hz : MZ a ≠ 0) : fromZ (tz a) = a := by
  obtain ⟨h1, h2⟩ := is_fin h
  have e : MZ a / UN * UN = MZ a := by
    have := Nat.div_add_mod (MZ a) UN
    rw [h2, Nat.add_zero, Nat.mul_comm] at this
    exact this
  have hw : MZ a / UN ≠ 0 := by
    intro c; rw [c, Nat.zero_mul] at e; omega
  have ht : (tz a).natAbs = MZ a / UN := by
    unfold tz
    generalize MZ a / UN = W
    cases belowB a
    · rw [sz_f]; omega
    · rw [sz_t]; omega
  have hs : decide (tz a < 0) = belowB a := by
    unfold tz
    generalize MZ a / UN = W at *
    cases belowB a
    · rw [sz_f]; exact decide_eq_false (by omega)
    · rw [sz_t]; exact decide_eq_true (by omega)
  unfold fromZ
  rw [ht, hs, e, rung_MZ ha (by omega)]
  exact (word_again ha).symm
end Go.Proofs.YthmocdabakkfhaaGreatDoor

/-
  Layer 4: the model's own ways to whole numbers: math.Floor and its kin, float64(n), int64(f).
-/
namespace Go.Proofs.YthmocdabakkfhaaGreatDoor
set_option maxRecDepth 100000
open Go.RowKit Dg Flo

theorem far_scale {u c V : Nat} (how : Nat) (neg : Bool) (hc : 0 < c) : farB (u * c) how neg (V * c) = farB u how neg V := by
  have e1 : V * c % (u * c) = V % u * c := Nat.mul_mod_mul_right _ _ _
  have e2 : V * c / (u * c) = V / u := Nat.mul_div_mul_right _ _ hc
  have e3 : decide (V % u * c ≠ 0) = decide (V % u ≠ 0) := by
    by_cases z : V % u = 0
    · rw [z]; simp
    · rw [decide_eq_true z, decide_eq_true (Nat.ne_of_gt (Nat.mul_pos (by omega) hc))]
  unfold farB
  rw [e1, e2, e3, ← Nat.mul_assoc, cmp_scale hc]
theorem wcut_scale {u c V : Nat} (how : Nat) (neg : Bool) (hc : 0 < c) : wcut (u * c) how neg (V * c) = wcut u how neg V := by
  unfold wcut
  rw [far_scale how neg hc, Nat.mul_div_mul_right _ _ hc]

/-- Which of the model's ways is which of ours. -/
def Way (how : Nat) (way : Ieee.Toward) : Prop := (how = 0 ∧ way = .zero) ∨ (how = 1 ∧ way = .down) ∨ (how = 2 ∧ way = .up) ∨ (how = 3 ∧ way = .even)

theorem gap_same (n d : Nat) : n / 2 ^ min d (n.log2 + 2) = n / 2 ^ d ∧ n % 2 ^ min d (n.log2 + 2) = n % 2 ^ d := by
  rcases Nat.lt_or_ge (n.log2 + 2) d with h | h
  · rw [Nat.min_eq_right (by omega)]
    have hn : n < 2 ^ (n.log2 + 1) := Nat.lt_log2_self
    have e : 2 ^ (n.log2 + 2) = 2 * 2 ^ (n.log2 + 1) := Nat.pow_succ'
    have e2 : 2 ^ (n.log2 + 2) < 2 ^ d := Nat.pow_lt_pow_right (by decide) h
    rw [Nat.div_eq_of_lt (by omega), Nat.div_eq_of_lt (by omega), Nat.mod_eq_of_lt (by omega), Nat.mod_eq_of_lt (by omega)]
    exact ⟨rfl, rfl⟩
  · rw [Nat.min_eq_left h]; exact ⟨rfl, rfl⟩
theorem ne_bool (r : Nat) : (r != 0) = decide (r ≠ 0) := by
  by_cases c : r = 0
  · rw [c]; rfl
  · rw [decide_eq_true c, bne_iff_ne.2 c]
theorem cut_any {how : Nat} {way : Ieee.Toward} (hw : Way how way) (neg : Bool) (n d : Nat) : way.cut neg n d = wcut (2 ^ d) how neg n := by
  obtain ⟨g1, g2⟩ := gap_same n d
  rcases hw with ⟨rfl, rfl⟩ | ⟨rfl, rfl⟩ | ⟨rfl, rfl⟩ | ⟨rfl, rfl⟩
  · unfold Ieee.Toward.cut wcut
    simp only [Nat.one_shiftLeft]
    rw [g1]; rfl
  · unfold Ieee.Toward.cut wcut
    simp only [Nat.one_shiftLeft]
    rw [g1, g2, ne_bool]
    show _ + (neg && decide (n % 2 ^ d ≠ 0)).toNat = _ + (decide (n % 2 ^ d ≠ 0) && neg).toNat
    rw [Bool.and_comm]
  · unfold Ieee.Toward.cut wcut
    simp only [Nat.one_shiftLeft]
    rw [g1, g2, ne_bool]
    show _ + (!neg && decide (n % 2 ^ d ≠ 0)).toNat = _ + (decide (n % 2 ^ d ≠ 0) && !neg).toNat
    rw [Bool.and_comm]
  · rw [even_cut]
    unfold rne wcut
    rw [far_three (Nat.two_pow_pos d)]
    congr 1
    split
    · next h => rw [decide_eq_true h]; rfl
    · next h => rw [decide_eq_false h]; rfl

theorem cut_units {how : Nat} {way : Ieee.Toward} (hw : Way how way) (neg : Bool) (m : Nat) (p : Int) (hp : 0 ≤ p + 1074) : way.cut neg (m <<< p.toNat) (-p).toNat = wcut UN how neg (m * 2 ^ (p + 1074).toNat) := by
  rw [cut_any hw, Nat.shiftLeft_eq]
  by_cases c : 0 ≤ p
  · obtain ⟨i, rfl⟩ := Int.eq_ofNat_of_zero_le c
    have e1 : ((i : Int) + 1074).toNat = i + OP := by rw [OP_eq]; omega
    rw [e1, show (-(i : Int)).toNat = 0 by omega, Int.toNat_natCast, Nat.pow_add, ← Nat.mul_assoc, ← UN_eq, ← wcut_scale (u := 2 ^ 0) (V := m * 2 ^ i) how neg UN_pos, Nat.pow_zero, Nat.one_mul]
  · obtain ⟨j, hj⟩ := Int.eq_ofNat_of_zero_le (show 0 ≤ -p by omega)
    have hjO : j ≤ OP := by rw [OP_eq]; omega
    have e1 : (p + 1074).toNat = OP - j := by rw [OP_eq]; omega
    have hU : UN = 2 ^ j * 2 ^ (OP - j) := by rw [UN_eq, ← Nat.pow_add, show j + (OP - j) = OP by omega]
    rw [e1, hj, Int.toNat_natCast, show p.toNat = 0 by omega, Nat.pow_zero, Nat.mul_one, hU, wcut_scale how neg (Nat.two_pow_pos _)]

theorem write_units (s : Bool) (W : Nat) : ((Ieee.double.nearest s W 0 : Nat) : Int) = sgn s + (rung 0 (W * UN) : Nat) := by
  have h := nearest_rung s W 0 0 (by decide)
  have e : ((0 : Int) + 1074 + ((0 : Nat) : Int)).toNat = OP := rfl
  rw [e, ← UN_eq] at h
  exact h

theorem integral_fin {how : Nat} {way : Ieee.Toward} (hw : Way how way) {a : Int} (ha : U64 a) (h : mag a < 9218868437227405312) : ((Ieee.double.write ((Ieee.double.read a.toNat).integral way) : Nat) : Int) = wholeZ how a := by
  obtain ⟨m, p, h1, h2, h3⟩ := read_fin ha h
  rw [h3, wholeZ_fin h, ← h2, ← cut_units hw (belowB a) m p h1]
  exact write_units _ _

/-- int64(f) of a whole number that an int64 holds. -/
theorem int_of_float {a : Int} (ha : U64 a) (h : toB a = true) : floatToIntVal .f64 a.toNat .i64 = some (toI a) := by
  obtain ⟨h1, h2, h3, h4⟩ := toB_true h
  obtain ⟨f1, f2⟩ := is_fin h1
  obtain ⟨m, p, p1, p2, p3⟩ := read_fin ha f1
  have e : (FloatKind.f64.decode a.toNat).toInt .zero = some (tz a) := by
    show (Ieee.double.read a.toNat).toInt .zero = _
    rw [p3]
    show some (Ieee.signed (belowB a) (Ieee.Toward.zero.cut (belowB a) (m <<< p.toNat) (-p).toNat) 0) = _
    rw [cut_units (how := 0) (Or.inl ⟨rfl, rfl⟩) (belowB a) m p p1, p2, wcut_exact _ f2]
    have es : ∀ (s : Bool) (W : Nat), Ieee.signed s W 0 = sz s W := by
      intro s W
      unfold Ieee.signed
      cases s
      · rw [sz_f]; simp
      · rw [sz_t]; simp
    rw [es]
    rfl
  unfold floatToIntVal
  rw [e, h2]
  show (if IntKind.i64.min ≤ tz a ∧ tz a ≤ IntKind.i64.max then some (tz a) else none) = _
  rw [if_pos]
  exact ⟨h3, h4⟩

theorem nan_words {a : Int} (ha : U64 a) (h : 9218868437227405312 < mag a) : canonZ ((a.toNat : Nat) : Int) = 9221120237041090560 := by
  rw [show ((a.toNat : Nat) : Int) = a by have := ha.1; omega]
  unfold canonZ; rw [nan_nan h]; rfl
theorem quiet_word (s : Bool) (t : Nat) (ht : t < 4503599627370496) : Ieee.double.write (.nan s (Ieee.double.quiet t)) < 18446744073709551616 ∧ canonZ ((Ieee.double.write (.nan s (Ieee.double.quiet t)) : Nat) : Int) = 9221120237041090560 := by
  have q1 : Ieee.double.quiet t = t ||| 2 ^ 51 := rfl
  have q2 : t ||| 2 ^ 51 < 2 ^ 52 := Nat.or_lt_two_pow (by omega) (by decide)
  have q3 : 2 ^ 51 ≤ t ||| 2 ^ 51 := Nat.right_le_or
  rw [q1]
  generalize t ||| 2 ^ 51 = q at *
  have e : Ieee.double.write (.nan s q) = (if s then 9223372036854775808 else 0) + (9218868437227405312 + q) := by
    show Ieee.double.word s (Ieee.double.infRung + q % Ieee.double.binade) = _
    have e2 : Ieee.double.binade = 4503599627370496 := by decide
    have e3 : Ieee.double.infRung = 9218868437227405312 := by decide
    rw [e2, e3, Nat.mod_eq_of_lt (by omega)]
    unfold Ieee.Format.word
    cases s
    · simp
    · rfl
  rw [e]
  have hn : nanB (((if s then 9223372036854775808 else 0) + (9218868437227405312 + q) : Nat) : Int) = true := by
    unfold nanB mag
    rw [decide_eq_true_eq]
    cases s <;> simp <;> split <;> omega
  refine ⟨by cases s <;> simp <;> omega, ?_⟩
  unfold canonZ
  rw [hn]; rfl
theorem read_nanF {a : Int} (h : U64 a) (hm : 9218868437227405312 < mag a) : ∃ f, f < 4503599627370496 ∧ Ieee.double.read a.toNat = .nan (belowB a) f := by
  obtain ⟨w1, w2⟩ := words h
  have hr := mag_range h
  obtain ⟨f, hf⟩ := read_nanZ h hm
  refine ⟨f, ?_, hf⟩
  have e : Ieee.double.read a.toNat = .nan (a.toNat / 9223372036854775808 % 2 == 1) (a.toNat % 9223372036854775808 - 9218868437227405312) := by
    have e1 : Ieee.double.signWeight = 9223372036854775808 := by decide
    have e2 : Ieee.double.binade = 4503599627370496 := by decide
    have e3 : Ieee.double.infRung = 9218868437227405312 := by decide
    unfold Ieee.Format.read
    rw [e1, e2, e3]
    simp only []
    rw [if_neg (by omega), if_neg (by omega), if_neg (by omega)]
  rw [e] at hf
  injection hf with _ h2
  omega

theorem integral_ext (name : String) (way : Ieee.Toward) (x : Nat) : Extern.MathFloor.toIntegral name way #[.float .f64 x] = (match FloatKind.f64.decode x with
    | .nan s t => if FloatKind.f64.format.quiet t = t then pure (.float .f64 x) else do
        let kept ← choose (.extern "math.Floor,Ceil,Trunc,RoundToEven.signallingNaN kept" 2)
        pure (.float .f64 (if kept == 1 then x else FloatKind.f64.encode (.nan s (FloatKind.f64.format.quiet t))))
    | d => pure (.float .f64 (FloatKind.f64.encode (d.integral way)))) := rfl
/-- math.Floor and its kin: some float whose one form is the whole number. -/
theorem integral_run {how : Nat} {way : Ieee.Toward} (name : String) (hw : Way how way) (a : Int) (ha : U64 a) (w : World) :
    ∃ (n : Nat) (w' : World), n < 18446744073709551616 ∧ canonZ n = wholeZ how a ∧ Below w.heap.size w w' ∧ (Extern.MathFloor.toIntegral name way #[.float .f64 a.toNat]).run Tryz.prog w = .ok (.float .f64 n) w' := by
  have hu := wholeZ_u64 (how := how) ha
  have hcan : canonZ (wholeZ how a) = wholeZ how a := by
    rcases kindsZ a with k | k | k
    · unfold canonZ; rw [fin_of ha k]; rfl
    · rw [wholeZ_inf (inf_inf k)]; unfold canonZ; rw [inf_nan k]; rfl
    · rw [wholeZ_nan (nan_nan k)]; decide
  rcases kindsZ a with k | k | k
  · have hi := integral_fin hw ha k
    obtain ⟨m, p, h1, h2, h3⟩ := read_fin ha k
    refine ⟨(wholeZ how a).toNat, w, u64_toNat hu, ?_, Below.refl _ _, ?_⟩
    · rw [show (((wholeZ how a).toNat : Nat) : Int) = wholeZ how a by have := hu.1; omega]
      exact hcan
    · rw [integral_ext]
      have hd : FloatKind.f64.decode a.toNat = .number (belowB a) m p := h3
      rw [hd]
      rw [h3] at hi
      have he : FloatKind.f64.encode (Ieee.Datum.integral way (.number (belowB a) m p)) = (wholeZ how a).toNat := by
        rw [← hi, Int.toNat_natCast]; rfl
      show (pure (Value.float .f64 (FloatKind.f64.encode (Ieee.Datum.integral way (.number (belowB a) m p)))) : Sem Value).run Tryz.prog w = _
      rw [he]; rfl
  · have hd : FloatKind.f64.decode a.toNat = .infinity (belowB a) := read_infZ ha k
    refine ⟨a.toNat, w, u64_toNat ha, ?_, Below.refl _ _, ?_⟩
    · rw [show ((a.toNat : Nat) : Int) = a by have := ha.1; omega, wholeZ_inf (inf_inf k)]
      unfold canonZ; rw [inf_nan k]; rfl
    · rw [integral_ext, hd]
      have he : FloatKind.f64.encode (Ieee.Datum.integral way (.infinity (belowB a))) = a.toNat := by
        have h1 := write_inf (belowB a)
        have h2 := inf_word ha k
        have h3 : FloatKind.f64.encode (Ieee.Datum.integral way (.infinity (belowB a))) = Ieee.double.write (.infinity (belowB a)) := rfl
        rw [h3]; omega
      show (pure (Value.float .f64 (FloatKind.f64.encode (Ieee.Datum.integral way (.infinity (belowB a))))) : Sem Value).run Tryz.prog w = _
      rw [he]; rfl
  · obtain ⟨t, ht, hd⟩ := read_nanF ha k
    have hd' : FloatKind.f64.decode a.toNat = .nan (belowB a) t := hd
    rw [wholeZ_nan (nan_nan k)]
    by_cases c : FloatKind.f64.format.quiet t = t
    · refine ⟨a.toNat, w, u64_toNat ha, nan_words ha k, Below.refl _ _, ?_⟩
      rw [integral_ext, hd']
      simp only [if_pos c]
      rfl
    · obtain ⟨q1, q2⟩ := quiet_word (belowB a) t ht
      have hq : (Question.extern "math.Floor,Ceil,Trunc,RoundToEven.signallingNaN kept" 2).forced = false := rfl
      obtain ⟨kept, hk⟩ : ∃ kept, kept = (Question.extern "math.Floor,Ceil,Trunc,RoundToEven.signallingNaN kept" 2).cut (w.tape w.drawn (.extern "math.Floor,Ceil,Trunc,RoundToEven.signallingNaN kept" 2)) := ⟨_, rfl⟩
      refine ⟨if kept == 1 then a.toNat else Ieee.double.write (.nan (belowB a) (Ieee.double.quiet t)), w.drew, ?_, ?_, (Below.refl _ _).drew, ?_⟩
      · split
        · exact u64_toNat ha
        · exact q1
      · split
        · exact nan_words ha k
        · exact q2
      · rw [integral_ext, hd']
        simp only [if_neg c]
        rw [hk]
        simp [hq]
        rfl

end Go.Proofs.YthmocdabakkfhaaGreatDoor

/-
  The walks of layer 4: what Trunc, Floor, Ceil, Near, Is, ToInt, FromInt answer.
-/
namespace Go.Proofs.YthmocdabakkfhaaGreatDoor
set_option maxRecDepth 100000
open Go.RowKit Dg Flo

theorem wholeFloat_any (a : Int) (w : World) : Calls Tryz.prog 96 #[.int .u64 a] w fun e w' => e = .returned (.float .f64 a.toNat) ∧ w' = w := by
  have hf := frombits_run a
  go_enter Tryz.func96, Tryz.ntmps96
  go_wp2
  go_ret
  exact ⟨rfl, rfl⟩
theorem archTrunc_run (a : Int) (w : World) (ha : U64 a) : ∃ (n : Nat) (w' : World), n < 18446744073709551616 ∧ canonZ n = wholeZ 0 a ∧ Below w.heap.size w w' ∧ (callFunc 100 #[.float .f64 a.toNat]).run Tryz.prog w = .ok (.value (.float .f64 n)) w' := by
  have hrun := run_callFunc_extern (P := Tryz.prog) (f := 100) (e := Extern.MathFloor.toIntegral "math.archTrunc" .zero) Tryz.func100 (by kernel_rfl) (by kernel_rfl) (by kernel_rfl) (by kernel_rfl) #[.float .f64 a.toNat] w
  obtain ⟨n, w', h1, h2, h3, h4⟩ := integral_run (how := 0) "math.archTrunc" (way := .zero) (Or.inl ⟨rfl, rfl⟩) a ha w
  refine ⟨n, w', h1, h2, h3, ?_⟩
  rw [hrun, h4]
  rfl
theorem mathTrunc_any (a : Int) (w : World) (ha : U64 a) : Calls Tryz.prog 99 #[.float .f64 a.toNat] w fun e w' => ∃ n : Nat, e = .returned (.float .f64 n) ∧ n < 18446744073709551616 ∧ canonZ n = wholeZ 0 a ∧ Below w.heap.size w w' := by
  obtain ⟨n, w1, h1, h2, h3, h4⟩ := archTrunc_run a w ha
  have H2 : Hid (canonZ n = wholeZ 0 a) := h2
  clear h2
  go_enter Tryz.func99, Tryz.ntmps99
  go_wp2
  go_ret
  exact ⟨n, rfl, h1, H2.out, h3⟩

end Go.Proofs.YthmocdabakkfhaaGreatDoor

/-
  The walks of layer 4: Is and ToInt.
-/
namespace Go.Proofs.YthmocdabakkfhaaGreatDoor
set_option maxRecDepth 100000
open Go.RowKit Dg Flo

/-- A number equals its whole part just where it is whole, or infinite. -/
theorem trunc_equal {n : Nat} {a : Int} (ha : U64 a) (hc : canonZ n = wholeZ 0 a) : equalB (n : Int) a = (!nanB a && (infB a || isZ a)) := by
  rcases kindsZ a with k | k | k
  · have hn := fin_of (how := 0) ha k
    have e : (n : Int) = wholeZ 0 a := by
      rw [← hc] at hn ⊢
      unfold canonZ at hn ⊢
      cases hx : nanB (n : Int)
      · rfl
      · rw [hx, if_pos rfl] at hn; exact absurd hn (by decide)
    rw [e, fin_nan k, fin_inf k]
    obtain ⟨p1, p2, p3, p4⟩ := wh_parts (how := 0) ha k
    by_cases c : MZ a % UN = 0
    · rw [whole_stays ha k c, equalB_self, fin_nan k]
      unfold isZ
      rw [decide_eq_true k, decide_eq_true c]; rfl
    · have hi : isZ a = false := by unfold isZ; rw [decide_eq_false c, Bool.and_false]
      rw [hi]
      have hne : equalB (wholeZ 0 a) a = false := by
        cases hq : equalB (wholeZ 0 a) a
        · rfl
        · exfalso
          unfold equalB at hq
          simp only [Bool.and_eq_true, decide_eq_true_eq] at hq
          have h1 : SV (wholeZ 0 a) ≤ SV a := SV_mono (wholeZ_u64 ha) ha (by omega)
          have h2 : SV a ≤ SV (wholeZ 0 a) := SV_mono ha (wholeZ_u64 ha) (by omega)
          have h3 : SV a = SV (wholeZ 0 a) := by omega
          rw [p4] at h3
          have e0 : wcut UN 0 (belowB a) (MZ a) = MZ a / UN := rfl
          rw [e0] at h3
          unfold SV at h3
          have h4 : MZ a = MZ a / UN * UN := by
            revert h3
            generalize MZ a / UN * UN = x
            generalize MZ a = y
            cases belowB a
            · rw [sz_f, sz_f]; intro h; omega
            · rw [sz_t, sz_t]; intro h; omega
          apply c
          rw [h4]
          exact Nat.mul_mod_left _ _
      rw [hne]; rfl
  · have hn : nanB a = false := inf_nan k
    have e : (n : Int) = a := by
      rw [wholeZ_inf (inf_inf k)] at hc
      have hn2 := hn
      rw [← hc] at hn2 ⊢
      unfold canonZ at hn2 ⊢
      cases hx : nanB (n : Int)
      · rfl
      · rw [hx, if_pos rfl] at hn2; exact absurd hn2 (by decide)
    rw [e, equalB_self, hn, inf_inf k]; rfl
  · rw [nan_nan k]
    unfold equalB
    rw [nan_nan k]; simp

theorem wis_any (a : Int) (w : World) (ha : U64 a) : Calls Tryz.prog 97 #[.int .u64 a] w fun e w' => e = .returned (.bool (isZ a)) ∧ Below w.heap.size w w' := by
  have HT : Hid _ := fun w => mathTrunc_any a w ha
  have HK : Hid _ := fun w => kind_any a w ha
  have HE : Hid (∀ n : Nat, n < 18446744073709551616 → canonZ n = wholeZ 0 a → (FloatKind.f64.format.order n a.toNat == some .eq) = (!nanB a && (infB a || isZ a))) := by
    intro n hn hc
    have := eq_test (a := (n : Int)) (b := a) ⟨by omega, by omega⟩ ha
    rw [Int.toNat_natCast] at this
    rw [this]
    exact trunc_equal ha hc
  have cs : (decide (kindZ a < 3) = false ∧ isZ a = false) ∨ (nanB a = false ∧ infB a = false ∧ decide (kindZ a < 3) = true) := by
    rcases kindsZ a with k | k | k
    · refine Or.inr ⟨fin_nan k, fin_inf k, ?_⟩
      rcases kind_fin k (mag_range ha).1 with ⟨_, k⟩ | ⟨_, _, k⟩ | ⟨_, k⟩ <;> rw [k] <;> decide
    · refine Or.inl ⟨?_, by unfold isZ; rw [decide_eq_false (by omega)]; rfl⟩
      rw [kind_inf k]; decide
    · refine Or.inl ⟨?_, by unfold isZ; rw [decide_eq_false (by omega)]; rfl⟩
      rw [kind_nan4 k]; decide
  generalize nanB a = x at *
  generalize infB a = y at *
  generalize isZ a = z at *
  generalize kindZ a = K at *
  go_enter Tryz.func97, Tryz.ntmps97
  go_wp2_with fail
  refine (wholeFloat_any _ _).mono ?_
  rintro e w' ⟨rfl, hw'⟩
  rw [hw']
  clear hw' w'
  go_wp2_with fail
  refine (HK.out _).mono ?_
  rintro e w' ⟨rfl, hw'⟩
  rw [hw']
  clear hw' w'
  rcases cs with ⟨hk, rfl⟩ | ⟨rfl, rfl, hk⟩
  · go_wp2
    go_ret
    exact ⟨rfl, Below.refl _ _⟩
  · go_wp2_with fail
    refine (HT.out _).mono ?_
    rintro e w1 ⟨n, rfl, hn, hc, hw⟩
    have ht := HE.out n hn hc
    clear hc
    replace ht : (FloatKind.f64.format.order n a.toNat == some .eq) = z := ht
    cases z
    · go_wp2
      go_ret
      exact ⟨rfl, hw⟩
    · go_wp2
      go_ret
      exact ⟨rfl, hw⟩

/-- 2 to the 63rd as a number. -/
theorem M_top : M 4890909195324358656 = 9223372036854775808 * UN := by
  have hO : 63 + OP = 52 + 1085 := rfl
  rw [UN_eq, pow63, hO, show 4890909195324358656 = 1085 * 4503599627370496 + 4503599627370496 by decide, M_two]
theorem SV_tz {a : Int} (h : isZ a = true) : SV a = tz a * (UN : Int) := by
  obtain ⟨h1, h2⟩ := is_fin h
  have e : MZ a / UN * UN = MZ a := by
    have := Nat.div_add_mod (MZ a) UN
    rw [h2, Nat.add_zero, Nat.mul_comm] at this
    exact this
  unfold SV tz
  rw [← e, Nat.mul_div_cancel _ UN_pos]
  generalize MZ a / UN = W
  cases belowB a
  · rw [sz_f, sz_f, Int.natCast_mul]
  · rw [sz_t, sz_t, Int.natCast_mul, Int.neg_mul]
theorem SV_plus : SV 4890909195324358656 = 9223372036854775808 * (UN : Int) := by
  have e1 : belowB 4890909195324358656 = false := by decide
  have e2 : mag 4890909195324358656 = 4890909195324358656 := by decide
  unfold SV MZ
  rw [e1, e2, sz_f, show (4890909195324358656 : Int).toNat = 4890909195324358656 from rfl, M_top, Int.natCast_mul]
  rfl
theorem SV_minus : SV 14114281232179134464 = -9223372036854775808 * (UN : Int) := by
  have e1 : belowB 14114281232179134464 = true := by decide
  have e2 : mag 14114281232179134464 = 4890909195324358656 := by decide
  unfold SV MZ
  rw [e1, e2, sz_t, show (4890909195324358656 : Int).toNat = 4890909195324358656 from rfl, M_top, Int.natCast_mul, Int.neg_mul]
  rfl
theorem less_iff {a b : Int} (ha : U64 a) (hb : U64 b) (na : nanB a = false) (nb : nanB b = false) : lessB a b = decide (SV a < SV b) := by
  unfold lessB
  rw [na, nb]
  by_cases c : sv a < sv b
  · rw [decide_eq_true c, decide_eq_true (SV_strict ha hb c)]; rfl
  · have := SV_mono hb ha (by omega)
    rw [decide_eq_false c, decide_eq_false (by omega)]; rfl
theorem scaled_less {x y : Int} : decide (x * (UN : Int) < y * (UN : Int)) = decide (x < y) := by
  have hp : (0 : Int) < (UN : Int) := by have := UN_pos; omega
  by_cases c : x < y
  · rw [decide_eq_true c, decide_eq_true (Int.mul_lt_mul_of_pos_right c hp)]
  · rw [decide_eq_false c, decide_eq_false]
    intro h
    exact c (Int.lt_of_mul_lt_mul_right h (Int.le_of_lt hp))
theorem low_test {a : Int} (ha : U64 a) (h : isZ a = true) : (FloatKind.f64.format.order a.toNat 14114281232179134464 == some .lt) = decide (tz a < -9223372036854775808) := by
  have ht := lt_test ha (b := 14114281232179134464) ⟨by decide, by decide⟩
  rw [show (14114281232179134464 : Int).toNat = 14114281232179134464 from rfl] at ht
  rw [ht, less_iff ha ⟨by decide, by decide⟩ (fin_nan (is_fin h).1) (by decide), SV_tz h, SV_minus, scaled_less]
theorem high_test {a : Int} (ha : U64 a) (h : isZ a = true) : (FloatKind.f64.format.order a.toNat 4890909195324358656 == some .gt || FloatKind.f64.format.order a.toNat 4890909195324358656 == some .eq) = decide (9223372036854775808 ≤ tz a) := by
  have hb : U64 4890909195324358656 := ⟨by decide, by decide⟩
  have ht := gt_test ha hb
  have hq := eq_test ha hb
  rw [show (4890909195324358656 : Int).toNat = 4890909195324358656 from rfl] at ht hq
  have na : nanB a = false := fin_nan (is_fin h).1
  have nb : nanB 4890909195324358656 = false := by decide
  rw [ht, hq, less_iff hb ha nb na, SV_tz h, SV_plus, scaled_less]
  by_cases c : tz a = 9223372036854775808
  · have e : equalB a 4890909195324358656 = true := equal_of ha hb na nb (by rw [SV_tz h, SV_plus, c])
    rw [e, c]; decide
  · have e : equalB a 4890909195324358656 = false := by
      cases hx : equalB a 4890909195324358656
      · rfl
      · exfalso
        unfold equalB at hx
        simp only [Bool.and_eq_true, decide_eq_true_eq] at hx
        have h1 : SV a ≤ SV 4890909195324358656 := SV_mono ha hb (by omega)
        have h2 : SV 4890909195324358656 ≤ SV a := SV_mono hb ha (by omega)
        rw [SV_tz h, SV_plus] at h1 h2
        have hp : (UN : Int) ≠ 0 := by have := UN_pos; omega
        exact c (Int.eq_of_mul_eq_mul_right hp (by omega))
    rw [e, Bool.or_false]
    by_cases d : 9223372036854775808 < tz a
    · rw [decide_eq_true d, decide_eq_true (by omega)]
    · rw [decide_eq_false d, decide_eq_false (by omega)]

theorem toInt_any (a : Int) (w : World) (ha : U64 a) : Calls Tryz.prog 94 #[.int .u64 a] w fun e w' => e = .returned (.tuple #[.int .i64 (toI a), .bool (toB a)]) ∧ Below w.heap.size w w' := by
  have HI : Hid _ := fun w => wis_any a w ha
  cases hi : isZ a
  · obtain ⟨t1, t2⟩ := toB_not hi
    rw [t1, t2]
    rw [hi] at HI
    clear t1 t2 hi
    go_enter Tryz.func94, Tryz.ntmps94
    go_wp2_with fail
    refine (wholeFloat_any _ _).mono ?_
    rintro e w' ⟨rfl, hw'⟩
    rw [hw']
    clear hw' w'
    go_wp2_with fail
    refine (HI.out _).mono ?_
    rintro e w1 ⟨rfl, hb1⟩
    go_wp2
    go_ret2
    exact ⟨rfl, hb1⟩
  · have hl := low_test ha hi
    have hh := high_test ha hi
    have T0 : Hid (¬ (-9223372036854775808 ≤ tz a ∧ tz a ≤ 9223372036854775807) → toB a = false ∧ toI a = 0) := toB_out
    have T1 : Hid (-9223372036854775808 ≤ tz a → tz a ≤ 9223372036854775807 → toB a = true ∧ toI a = tz a) := toB_in hi
    have T2 : Hid (toB a = true → floatToIntVal .f64 a.toNat .i64 = some (toI a)) := int_of_float ha
    rw [hi] at HI
    clear hi
    generalize tz a = t at *
    generalize toB a = tb at *
    generalize toI a = ti at *
    by_cases c : t < -9223372036854775808
    · obtain ⟨rfl, rfl⟩ := T0.out (by omega)
      rw [decide_eq_true c] at hl
      clear hh T0 T1 T2 c
      go_enter Tryz.func94, Tryz.ntmps94
      go_wp2_with fail
      refine (wholeFloat_any _ _).mono ?_
      rintro e w' ⟨rfl, hw'⟩
      rw [hw']
      clear hw' w'
      go_wp2_with fail
      refine (HI.out _).mono ?_
      rintro e w1 ⟨rfl, hb1⟩
      go_wp2
      go_ret2
      exact ⟨rfl, hb1⟩
    · rw [decide_eq_false c] at hl
      by_cases d : 9223372036854775808 ≤ t
      · obtain ⟨rfl, rfl⟩ := T0.out (by omega)
        rw [decide_eq_true d] at hh
        clear T0 T1 T2 c d
        go_enter Tryz.func94, Tryz.ntmps94
        go_wp2_with fail
        refine (wholeFloat_any _ _).mono ?_
        rintro e w' ⟨rfl, hw'⟩
        rw [hw']
        clear hw' w'
        go_wp2_with fail
        refine (HI.out _).mono ?_
        rintro e w1 ⟨rfl, hb1⟩
        go_wp2
        go_ret2
        exact ⟨rfl, hb1⟩
      · obtain ⟨rfl, t2⟩ := T1.out (by omega) (by omega)
        have hv := T2.out rfl
        rw [decide_eq_false d] at hh
        have b1 : -9223372036854775808 ≤ ti := by omega
        have b2 : ti ≤ 9223372036854775807 := by omega
        have hcv : ∀ w, (convert 111 2 (.float .f64 a.toNat)).run Tryz.prog w = .ok (.int .i64 ti) w :=
          fun w => run_convert_float_int w 111 2 .f64 .i64 a.toNat ti (by rw [Tryz.underlying111]; rfl) Tryz.underlying2 hv
        clear T0 T1 T2 c d t2 hv
        go_enter Tryz.func94, Tryz.ntmps94
        go_wp2_with fail
        refine (wholeFloat_any _ _).mono ?_
        rintro e w' ⟨rfl, hw'⟩
        rw [hw']
        clear hw' w'
        go_wp2_with fail
        refine (HI.out _).mono ?_
        rintro e w1 ⟨rfl, hb1⟩
        go_wp2
        go_ret2
        exact ⟨rfl, hb1⟩

end Go.Proofs.YthmocdabakkfhaaGreatDoor
