/-
  The reference of layer 2: Add, Neg, Sub, Mul.
-/
import Derived.Test.YtjfgijdojenjnaaSumRef2
namespace Go.Proofs.Ytjfgijdojenjnaa
open Go.RowKit Dg Flo

theorem addZ_nan1 {a b : Int} (h : nanB a = true) : addZ a b = 9221120237041090560 := by unfold addZ addBad; rw [h]; simp
theorem addZ_nan2 {a b : Int} (h : nanB b = true) : addZ a b = 9221120237041090560 := by unfold addZ addBad; rw [h]; simp
theorem addZ_infs {a b : Int} (h1 : mag a = 9218868437227405312) (h2 : mag b = 9218868437227405312) (ha : U64 a) (hb : U64 b) (hn : a ≠ b) : addZ a b = 9221120237041090560 := by
  have e1 := inf_word ha h1
  have e2 := inf_word hb h2
  have : (belowB a ^^ belowB b) = true := by
    revert e1 e2
    cases belowB a <;> cases belowB b <;> simp <;> intro e1 e2 <;> exact absurd (e1.trans e2.symm) hn
  unfold addZ addBad
  rw [inf_inf h1, inf_inf h2, this]
  simp
theorem addZ_inf1 {a b : Int} (h1 : mag a = 9218868437227405312) (hb : nanB b = false) (hs : mag b < 9218868437227405312 ∨ a = b) : addZ a b = a := by
  unfold addZ addBad
  rw [inf_nan h1, inf_inf h1, hb]
  rcases hs with h | rfl
  · rw [fin_inf h]; simp
  · simp
theorem addZ_inf2 {a b : Int} (h1 : mag b = 9218868437227405312) (ha : mag a < 9218868437227405312) : addZ a b = b := by
  unfold addZ addBad
  rw [inf_nan h1, inf_inf h1, fin_nan ha, fin_inf ha]; simp
theorem addZ_fin {a b : Int} (ha : mag a < 9218868437227405312) (hb : mag b < 9218868437227405312) : addZ a b = nearZ (belowB a && belowB b) (SV a + SV b) := by
  unfold addZ addBad
  rw [fin_nan ha, fin_nan hb, fin_inf ha, fin_inf hb]; simp

theorem kind_lt3 {a : Int} (h : U64 a) (hm : mag a < 9218868437227405312) : (kindZ a == 4) = false ∧ (kindZ a == 3) = false := by
  rcases kind_fin hm (mag_range h).1 with ⟨_, k⟩ | ⟨_, _, k⟩ | ⟨_, k⟩ <;> rw [k] <;> decide

set_option maxHeartbeats 1000000 in
theorem refAdd_any (a b : Int) (w : World) (ha : U64 a) (hb : U64 b) :
    Calls Try.prog 10 #[.int .u64 a, .int .u64 b] w fun e w' => e = .returned (.int .u64 (addZ a b)) ∧ Below w.heap.size w w' := by
  rcases kindsZ a with ka | ka | ka
  · obtain ⟨a1, a2⟩ := kind_lt3 ha ka
    rcases kindsZ b with kb | kb | kb
    · obtain ⟨b1, b2⟩ := kind_lt3 hb kb
      have HS : Hid _ := fun w => refSum_any a b w ha hb ka kb
      rw [addZ_fin ka kb]
      clear ka kb
      go_enter Try.func10, Try.ntmps10
      go_wp2_with (go_at_call 18; refine (refKind_any _ _ (by assumption)).mono ?_; rintro e w' ⟨rfl, rfl⟩)
      refine (HS.out _).mono ?_
      rintro e w1 ⟨rfl, hb1⟩
      go_wp2
      go_ret
      exact ⟨rfl, hb1⟩
    · have b1 := kind_inf kb
      rw [addZ_inf2 kb ka]
      clear ka kb
      go_enter Try.func10, Try.ntmps10
      go_wp2_with (go_at_call 18; refine (refKind_any _ _ (by assumption)).mono ?_; rintro e w' ⟨rfl, rfl⟩)
      go_ret
      exact ⟨rfl, Below.refl _ _⟩
    · have b1 := kind_nan4 kb
      rw [addZ_nan2 (nan_nan kb)]
      clear ka kb
      go_enter Try.func10, Try.ntmps10
      go_wp2_with (first | (go_at_call 18; refine (refKind_any _ _ (by assumption)).mono ?_; rintro e w' ⟨rfl, rfl⟩) | (go_at_call 29; refine (refNan_any _).mono ?_; rintro e w' ⟨rfl, rfl⟩))
      go_ret
      exact ⟨rfl, Below.refl _ _⟩
  · have a1 := kind_inf ka
    rcases kindsZ b with kb | kb | kb
    · obtain ⟨b1, b2⟩ := kind_lt3 hb kb
      rw [addZ_inf1 ka (fin_nan kb) (Or.inl kb)]
      clear ka kb
      go_enter Try.func10, Try.ntmps10
      go_wp2_with (go_at_call 18; refine (refKind_any _ _ (by assumption)).mono ?_; rintro e w' ⟨rfl, rfl⟩)
      go_ret
      exact ⟨rfl, Below.refl _ _⟩
    · have b1 := kind_inf kb
      by_cases c : a = b
      · rw [addZ_inf1 ka (inf_nan kb) (Or.inr c)]
        subst c
        clear ka kb
        go_enter Try.func10, Try.ntmps10
        go_wp2_with (go_at_call 18; refine (refKind_any _ _ (by assumption)).mono ?_; rintro e w' ⟨rfl, rfl⟩)
        go_ret
        exact ⟨rfl, Below.refl _ _⟩
      · rw [addZ_infs ka kb ha hb c]
        have c2 : (a != b) = true := by simpa using c
        clear ka kb
        go_enter Try.func10, Try.ntmps10
        go_wp2_with (first | (go_at_call 18; refine (refKind_any _ _ (by assumption)).mono ?_; rintro e w' ⟨rfl, rfl⟩) | (go_at_call 29; refine (refNan_any _).mono ?_; rintro e w' ⟨rfl, rfl⟩))
        go_ret
        exact ⟨rfl, Below.refl _ _⟩
    · have b1 := kind_nan4 kb
      rw [addZ_nan2 (nan_nan kb)]
      clear ka kb
      go_enter Try.func10, Try.ntmps10
      go_wp2_with (first | (go_at_call 18; refine (refKind_any _ _ (by assumption)).mono ?_; rintro e w' ⟨rfl, rfl⟩) | (go_at_call 29; refine (refNan_any _).mono ?_; rintro e w' ⟨rfl, rfl⟩))
      go_ret
      exact ⟨rfl, Below.refl _ _⟩
  · have a1 := kind_nan4 ka
    rw [addZ_nan1 (nan_nan ka)]
    clear ka
    go_enter Try.func10, Try.ntmps10
    go_wp2_with (first | (go_at_call 18; refine (refKind_any _ _ (by assumption)).mono ?_; rintro e w' ⟨rfl, rfl⟩) | (go_at_call 29; refine (refNan_any _).mono ?_; rintro e w' ⟨rfl, rfl⟩))
    go_ret
    exact ⟨rfl, Below.refl _ _⟩

theorem refNegZ_any (a : Int) (w : World) (ha : U64 a) : Calls Try.prog 13 #[.int .u64 a] w fun e w' => e = .returned (.int .u64 (negZ a)) ∧ w' = w := by
  have hx := xor_sign a ha
  cases hn : nanB a
  · have e : negZ a = if 9223372036854775808 ≤ a then a - 9223372036854775808 else a + 9223372036854775808 := by unfold negZ; rw [hn]; rfl
    have k : (kindZ a == 4) = false := by rw [kind_nan, hn]
    rw [← e] at hx
    clear e
    generalize negZ a = z at *
    go_enter Try.func13, Try.ntmps13
    go_wp2_with (go_at_call 18; refine (refKind_any _ _ (by assumption)).mono ?_; rintro e w' ⟨rfl, rfl⟩)
    go_ret
    exact ⟨rfl, rfl⟩
  · have e : negZ a = 9221120237041090560 := by unfold negZ; rw [hn]; rfl
    have k : (kindZ a == 4) = true := by rw [kind_nan, hn]
    rw [e]
    go_enter Try.func13, Try.ntmps13
    go_wp2_with (first | (go_at_call 18; refine (refKind_any _ _ (by assumption)).mono ?_; rintro e w' ⟨rfl, rfl⟩) | (go_at_call 29; refine (refNan_any _).mono ?_; rintro e w' ⟨rfl, rfl⟩))
    go_ret
    exact ⟨rfl, rfl⟩

theorem refSub_any (a b : Int) (w : World) (ha : U64 a) (hb : U64 b) :
    Calls Try.prog 12 #[.int .u64 a, .int .u64 b] w fun e w' => e = .returned (.int .u64 (subZ a b)) ∧ Below w.heap.size w w' := by
  have hz := negZ_u64 hb
  unfold subZ
  go_enter Try.func12, Try.ntmps12
  go_wp2_with fail
  refine (refNegZ_any _ _ hb).mono ?_
  rintro e w' ⟨rfl, rfl⟩
  go_wp2_with fail
  refine (refAdd_any _ _ _ ha hz).mono ?_
  rintro e w1 ⟨rfl, hb1⟩
  go_wp2
  go_ret
  exact ⟨rfl, hb1⟩

theorem mulZ_nan1 {a b : Int} (h : nanB a = true) : mulZ a b = 9221120237041090560 := by unfold mulZ mulBad; rw [h]; simp
theorem mulZ_nan2 {a b : Int} (h : nanB b = true) : mulZ a b = 9221120237041090560 := by unfold mulZ mulBad; rw [h]; simp
theorem mulZ_inf0 {a b : Int} (h1 : mag a = 9218868437227405312) (h2 : mag b = 0) : mulZ a b = 9221120237041090560 := by
  unfold mulZ mulBad; rw [inf_inf h1, h2]; simp
theorem mulZ_0inf {a b : Int} (h1 : mag b = 9218868437227405312) (h2 : mag a = 0) : mulZ a b = 9221120237041090560 := by
  unfold mulZ mulBad; rw [inf_inf h1, h2]; simp
theorem mulZ_inf1 {a b : Int} (h1 : mag a = 9218868437227405312) (hb : nanB b = false) (h2 : mag b ≠ 0) : mulZ a b = sgn (belowB a ^^ belowB b) + 9218868437227405312 := by
  unfold mulZ mulBad; rw [inf_inf h1, inf_nan h1, hb, decide_eq_false h2, h1]; simp
theorem mulZ_inf2 {a b : Int} (h1 : mag b = 9218868437227405312) (ha : nanB a = false) (h2 : mag a ≠ 0) : mulZ a b = sgn (belowB a ^^ belowB b) + 9218868437227405312 := by
  unfold mulZ mulBad; rw [inf_inf h1, inf_nan h1, ha, decide_eq_false h2, h1]; simp
theorem mulZ_fin {a b : Int} (ha : mag a < 9218868437227405312) (hb : mag b < 9218868437227405312) : mulZ a b = sgn (belowB a ^^ belowB b) + (rung 1074 (MZ a * MZ b) : Nat) := by
  unfold mulZ mulBad; rw [fin_nan ha, fin_nan hb, fin_inf ha, fin_inf hb]; simp
theorem kind_z0 {a : Int} (hm : mag a ≠ 0) : (kindZ a == 0) = false := by
  rw [kind_zero]; exact decide_eq_false hm

theorem inf_any (neg : Bool) (w : World) : Calls Try.prog 32 #[.bool neg] w fun e w' => e = .returned (.int .u64 (sgn neg + 9218868437227405312)) ∧ w' = w := by
  have h := refInf_any neg w
  have e : (if neg then (18442240474082181120 : Int) else 9218868437227405312) = sgn neg + 9218868437227405312 := by unfold sgn; cases neg <;> rfl
  rw [e] at h
  exact h

set_option maxHeartbeats 1000000 in
theorem refMul_fin (a b E G' : Int) (s n o : Bool) (f h : Nat) (w : World) (ha : U64 a) (hb : U64 b) (a1 : (kindZ a == 4) = false) (a2 : (kindZ a == 3) = false) (b1 : (kindZ b == 4) = false) (b2 : (kindZ b == 3) = false)
    (p1 : belowB a = n) (p2 : pexp a = E) (p3 : pfrac a = (f : Int)) (q1 : belowB b = o) (q2 : pexp b = G') (q3 : pfrac b = (h : Int)) (hf : f < 9007199254740992) (hh : h < 9007199254740992)
    (hE1 : -1074 ≤ E) (hE2 : E ≤ 971) (hG1 : -1074 ≤ G') (hG2 : G' ≤ 971) (hs : (n != o) = s) :
    Calls Try.prog 16 #[.int .u64 a, .int .u64 b] w fun e w' => e = .returned (.int .u64 (sgn s + (rung 1075 ((2 * (f * h) + false.toNat) * 2 ^ (E + G' + 1073 + (1075 : Nat)).toNat) : Nat))) ∧ Below w.heap.size w w' := by
  have P1 := fun w => refParts_any a w ha
  rw [p1, p2, p3] at P1
  have P2 := fun w => refParts_any b w hb
  rw [q1, q2, q3] at P2
  have N1 := fun w => refNeg_any a w ha
  rw [p1] at N1
  have N2 := fun w => refNeg_any b w hb
  rw [q1] at N2
  have HP1 : Hid _ := P1
  have HP2 : Hid _ := P2
  have HN1 : Hid _ := N1
  have HN2 : Hid _ := N2
  have l3 : dlen (f * h) ≤ 1001 := by
    refine dlen_pow (K := 106) ?_ (by omega)
    have : f * h ≤ 9007199254740992 * 9007199254740992 := Nat.mul_le_mul (by omega) (by omega)
    have : f * h < 9007199254740992 * 9007199254740992 := by
      rcases Nat.eq_zero_or_pos h with k | k
      · subst k; simp
      · exact Nat.lt_of_lt_of_le (Nat.mul_lt_mul_of_pos_right hf k) (Nat.mul_le_mul_left _ (by omega))
    omega
  have HR : Hid (∀ v l w (X : Int), X = E + G' → D w v (f * h) l → l ≤ 1048576 → Calls Try.prog 25 #[.bool s, .int .i64 X, v, .bool false] w fun e w' => e = .returned (.int .u64 (sgn s + (rung 1075 ((2 * (f * h) + false.toNat) * 2 ^ (E + G' + 1073 + (1075 : Nat)).toNat) : Nat))) ∧ Below w.heap.size w w') := by
    intro v l w X hX hD hl
    rw [hX]
    exact round_any v (f * h) l 1075 (E + G') false s w hD hl (by omega) (by omega) (by omega) (by simp)
  generalize sgn s + (rung 1075 ((2 * (f * h) + false.toNat) * 2 ^ (E + G' + 1073 + (1075 : Nat)).toNat) : Nat) = R at *
  clear P1 P2 N1 N2 p1 p2 p3 q1 q2 q3
  subst hs
  rcases (show kindZ a = 0 ∨ (kindZ a == 0) = false from by by_cases z : kindZ a = 0 <;> simp [z]) with z | z
  all_goals cases n <;> cases o
  all_goals
    go_enter Try.func16, Try.ntmps16
    go_wp2_with fail
    refine (refKind_any _ _ ha).mono ?_
    rintro e w' ⟨rfl, hw'⟩
    rw [hw']
    clear hw' w'
    go_wp2_with fail
    refine (refKind_any _ _ hb).mono ?_
    rintro e w' ⟨rfl, hw'⟩
    rw [hw']
    clear hw' w'
    go_wp2_with fail
    refine (HN1.out _).mono ?_
    rintro e w' ⟨rfl, hw'⟩
    rw [hw']
    clear hw' w'
    go_wp2_with fail
    refine (HN2.out _).mono ?_
    rintro e w' ⟨rfl, hw'⟩
    rw [hw']
    clear hw' w'
    go_wp2_with fail
    refine (HP1.out _).mono ?_
    rintro e w' ⟨rfl, hw'⟩
    rw [hw']
    clear hw' w'
    go_wp2_with fail
    refine (HP2.out _).mono ?_
    rintro e w' ⟨rfl, hw'⟩
    rw [hw']
    clear hw' w'
    go_wp2_with fail
    refine (digits_any f _ (by omega)).mono ?_
    rintro e w1 ⟨v1, rfl, hd1, hb1⟩
    go_wp2_with fail
    refine (digits_any h _ (by omega)).mono ?_
    rintro e w2 ⟨v2, rfl, hd2, hb2⟩
    have hb3 := hb1.trans (hb2.mono hb1.size)
    have hd3 := hd1.below hb2
    clear hd1 hb1 hb2
    go_wp2_with fail
    refine (prod_any _ _ _ _ _ _ _ hd3 hd2 (by decide) (by decide)).mono ?_
    rintro e w3 ⟨v3, rfl, hd4, hb4⟩
    have hb5 := hb3.trans (hb4.mono hb3.size)
    clear hd2 hd3 hb3 hb4
    go_wp2_with fail
    refine (HR.out _ _ _ _ (by omega) hd4 (by omega)).mono ?_
    rintro e w4 ⟨rfl, hb6⟩
    go_wp2
    go_ret
    exact ⟨rfl, hb5.trans (hb6.mono hb5.size)⟩

theorem rung_two (v : Nat) : rung 1075 (2 * v) = rung 1074 v := by
  have := rung_scale 1074 v 1
  rw [Nat.pow_one, Nat.mul_comm v 2] at this
  exact this

set_option maxHeartbeats 1000000 in
theorem refMul_any (a b : Int) (w : World) (ha : U64 a) (hb : U64 b) :
    Calls Try.prog 16 #[.int .u64 a, .int .u64 b] w fun e w' => e = .returned (.int .u64 (mulZ a b)) ∧ Below w.heap.size w w' := by
  by_cases fin : mag a < 9218868437227405312 ∧ mag b < 9218868437227405312
  · obtain ⟨ka, kb⟩ := fin
    obtain ⟨a1, a2⟩ := kind_lt3 ha ka
    obtain ⟨b1, b2⟩ := kind_lt3 hb kb
    obtain ⟨f, f1, f2, f3, f4, f5⟩ := parts_fin ha ka
    obtain ⟨h, h1, h2, h3, h4, h5⟩ := parts_fin hb kb
    have k := refMul_fin a b (pexp a) (pexp b) (belowB a != belowB b) (belowB a) (belowB b) f h w ha hb a1 a2 b1 b2 rfl rfl f1 rfl rfl h1 f2 h2 f3 f4 h3 h4 rfl
    have e : (2 * (f * h) + false.toNat) * 2 ^ (pexp a + pexp b + 1073 + ((1075 : Nat) : Int)).toNat = 2 * (MZ a * MZ b) := by
      rw [← f5, ← h5, show (pexp a + pexp b + 1073 + ((1075 : Nat) : Int)).toNat = (pexp a + 1074).toNat + (pexp b + 1074).toNat by omega, Nat.pow_add]
      simp only [Bool.toNat_false, Nat.add_zero]
      grind
    have e2 : (belowB a != belowB b) = (belowB a ^^ belowB b) := by cases belowB a <;> cases belowB b <;> rfl
    rw [e, rung_two, e2, ← mulZ_fin ka kb] at k
    exact k
  · have N1 : Hid _ := fun w => refNeg_any a w ha
    have N2 : Hid _ := fun w => refNeg_any b w hb
    have e2 : (belowB a != belowB b) = (belowB a ^^ belowB b) := by cases belowB a <;> cases belowB b <;> rfl
    obtain ⟨R, hR⟩ : ∃ R, R = mulZ a b := ⟨_, rfl⟩
    rw [← hR]
    have HI : Hid (∀ (s : Bool) w, s = (belowB a ^^ belowB b) → R = sgn (belowB a ^^ belowB b) + 9218868437227405312 → Calls Try.prog 32 #[.bool s] w fun e w' => e = .returned (.int .u64 R) ∧ w' = w) := by
      intro s w h1 h2; rw [h2, h1]; exact inf_any _ w
    have HN : Hid (∀ w, R = 9221120237041090560 → Calls Try.prog 29 #[] w fun e w' => e = .returned (.int .u64 R) ∧ w' = w) := by
      intro w h2; rw [h2]; exact refNan_any w
    have cs : (kindZ a = 4 ∧ R = 9221120237041090560) ∨ ((kindZ a == 4) = false ∧ kindZ b = 4 ∧ R = 9221120237041090560) ∨ (kindZ a = 3 ∧ kindZ b = 0 ∧ R = 9221120237041090560) ∨ (kindZ a = 0 ∧ kindZ b = 3 ∧ R = 9221120237041090560) ∨
        (kindZ a = 3 ∧ (kindZ b == 4) = false ∧ (kindZ b == 0) = false ∧ R = sgn (belowB a ^^ belowB b) + 9218868437227405312) ∨ ((kindZ a == 4) = false ∧ (kindZ a == 3) = false ∧ (kindZ a == 0) = false ∧ kindZ b = 3 ∧ R = sgn (belowB a ^^ belowB b) + 9218868437227405312) := by
      rw [hR]
      rcases kindsZ a with ka | ka | ka
      · rcases kindsZ b with kb | kb | kb
        · exact absurd ⟨ka, kb⟩ fin
        · by_cases z : mag a = 0
          · exact Or.inr (Or.inr (Or.inr (Or.inl ⟨kind_zero0 z, kind_inf kb, mulZ_0inf kb z⟩)))
          · exact Or.inr (Or.inr (Or.inr (Or.inr (Or.inr ⟨(kind_lt3 ha ka).1, (kind_lt3 ha ka).2, kind_z0 z, kind_inf kb, mulZ_inf2 kb (fin_nan ka) z⟩))))
        · exact Or.inr (Or.inl ⟨(kind_lt3 ha ka).1, kind_nan4 kb, mulZ_nan2 (nan_nan kb)⟩)
      · rcases kindsZ b with kb | kb | kb
        · by_cases z : mag b = 0
          · exact Or.inr (Or.inr (Or.inl ⟨kind_inf ka, kind_zero0 z, mulZ_inf0 ka z⟩))
          · exact Or.inr (Or.inr (Or.inr (Or.inr (Or.inl ⟨kind_inf ka, (kind_lt3 hb kb).1, kind_z0 z, mulZ_inf1 ka (fin_nan kb) z⟩))))
        · exact Or.inr (Or.inr (Or.inr (Or.inr (Or.inl ⟨kind_inf ka, by rw [kind_inf kb]; decide, kind_z0 (by omega), mulZ_inf1 ka (inf_nan kb) (by omega)⟩))))
        · exact Or.inr (Or.inl ⟨by rw [kind_inf ka]; decide, kind_nan4 kb, mulZ_nan2 (nan_nan kb)⟩)
      · exact Or.inl ⟨kind_nan4 ka, mulZ_nan1 (nan_nan ka)⟩
    clear hR fin
    rcases cs with ⟨c1, r⟩ | ⟨c1, c2, r⟩ | ⟨c1, c2, r⟩ | ⟨c1, c2, r⟩ | ⟨c1, c2, c3, r⟩ | ⟨c1, c2, c3, c4, r⟩
    all_goals
      have Hr : Hid _ := r
      clear r
      generalize belowB a = n at *
      generalize belowB b = o at *
      cases n <;> cases o
      all_goals
        go_enter Try.func16, Try.ntmps16
        go_wp2_with (first | (go_at_call 18; refine (refKind_any _ _ (by assumption)).mono ?_; rintro e w' ⟨rfl, rfl⟩) | (go_at_call 31; refine (N1.out _).mono ?_; rintro e w' ⟨rfl, rfl⟩) | (go_at_call 31; refine (N2.out _).mono ?_; rintro e w' ⟨rfl, rfl⟩) | (go_at_call 29; refine (HN.out _ Hr.out).mono ?_; rintro e w' ⟨rfl, rfl⟩) | (go_at_call 32; refine (HI.out _ _ (by rfl) Hr.out).mono ?_; rintro e w' ⟨rfl, rfl⟩))
        go_ret
        exact ⟨rfl, Below.refl _ _⟩

end Go.Proofs.Ytjfgijdojenjnaa
