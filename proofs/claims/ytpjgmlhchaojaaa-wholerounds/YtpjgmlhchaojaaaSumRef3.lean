/-
  The reference of layer 2: Add, Neg, Sub, Mul.
-/
import Derived.Test.YtpjgmlhchaojaaaSumRef2
namespace Go.Proofs.Ytpjgmlhchaojaaa
open Go.RowKit Dg Flo

theorem addZ_nan1 {a b : Int} (h : nanB a = true) : addZ a b = 9221120237041090560 := by unfold addZ addBad; rw [h]; simp
theorem addZ_nan2 {a b : Int} (h : nanB b = true) : addZ a b = 9221120237041090560 := by unfold addZ addBad; rw [h]; simp
theorem addZ_infs {a b : Int} (h1 : mag a = 9218868437227405312) (h2 : mag b = 9218868437227405312) (ha : U64 a) (hb : U64 b) (hn : a ≠ b) : addZ a b = 9221120237041090560 := by
  have e1 := inf_word ha h1
  have e2 := inf_word hb h2
  have : (belowB a ^^ belowB b) = true := by
    revert e1 e2
    cases belowB a <;> cases belowB b <;> simp <;> intro e1 e2 <;> exact absurd (e1.trans e2.symm) hn
  unfold addZ addBad
  rw [inf_inf h1, inf_inf h2, this]
  simp
theorem addZ_inf1 {a b : Int} (h1 : mag a = 9218868437227405312) (hb : nanB b = false) (hs : mag b < 9218868437227405312 ∨ a = b) : addZ a b = a := by
  unfold addZ addBad
  rw [inf_nan h1, inf_inf h1, hb]
  rcases hs with h | rfl
  · rw [fin_inf h]; simp
  · simp
theorem addZ_inf2 {a b : Int} (h1 : mag b = 9218868437227405312) (ha : mag a < 9218868437227405312) : addZ a b = b := by
  unfold addZ addBad
  rw [inf_nan h1, inf_inf h1, fin_nan ha, fin_inf ha]; simp
theorem addZ_fin {a b : Int} (ha : mag a < 9218868437227405312) (hb : mag b < 9218868437227405312) : addZ a b = nearZ (belowB a && belowB b) (SV a + SV b) := by
  unfold addZ addBad
  rw [fin_nan ha, fin_nan hb, fin_inf ha, fin_inf hb]; simp

theorem kind_lt3 {a : Int} (h : U64 a) (hm : mag a < 9218868437227405312) : (kindZ a == 4) = false ∧ (kindZ a == 3) = false := by
  rcases kind_fin hm (mag_range h).1 with ⟨_, k⟩ | ⟨_, _, k⟩ | ⟨_, k⟩ <;> rw [k] <;> decide

set_option maxHeartbeats 1000000 in
theorem refAdd_any (a b : Int) (w : World) (ha : U64 a) (hb : U64 b) :
    Calls Try.prog 65 #[.int .u64 a, .int .u64 b] w fun e w' => e = .returned (.int .u64 (addZ a b)) ∧ Below w.heap.size w w' := by
  rcases kindsZ a with ka | ka | ka
  · obtain ⟨a1, a2⟩ := kind_lt3 ha ka
    rcases kindsZ b with kb | kb | kb
    · obtain ⟨b1, b2⟩ := kind_lt3 hb kb
      have HS : Hid _ := fun w => refSum_any a b w ha hb ka kb
      rw [addZ_fin ka kb]
      clear ka kb
      go_enter Try.func65, Try.ntmps65
      go_wp2_with (go_at_call 25; refine (refKind_any _ _ (by assumption)).mono ?_; rintro e w' ⟨rfl, rfl⟩)
      refine (HS.out _).mono ?_
      rintro e w1 ⟨rfl, hb1⟩
      go_wp2
      go_ret
      exact ⟨rfl, hb1⟩
    · have b1 := kind_inf kb
      rw [addZ_inf2 kb ka]
      clear ka kb
      go_enter Try.func65, Try.ntmps65
      go_wp2_with (go_at_call 25; refine (refKind_any _ _ (by assumption)).mono ?_; rintro e w' ⟨rfl, rfl⟩)
      go_ret
      exact ⟨rfl, Below.refl _ _⟩
    · have b1 := kind_nan4 kb
      rw [addZ_nan2 (nan_nan kb)]
      clear ka kb
      go_enter Try.func65, Try.ntmps65
      go_wp2_with (first | (go_at_call 25; refine (refKind_any _ _ (by assumption)).mono ?_; rintro e w' ⟨rfl, rfl⟩) | (go_at_call 76; refine (refNan_any _).mono ?_; rintro e w' ⟨rfl, rfl⟩))
      go_ret
      exact ⟨rfl, Below.refl _ _⟩
  · have a1 := kind_inf ka
    rcases kindsZ b with kb | kb | kb
    · obtain ⟨b1, b2⟩ := kind_lt3 hb kb
      rw [addZ_inf1 ka (fin_nan kb) (Or.inl kb)]
      clear ka kb
      go_enter Try.func65, Try.ntmps65
      go_wp2_with (go_at_call 25; refine (refKind_any _ _ (by assumption)).mono ?_; rintro e w' ⟨rfl, rfl⟩)
      go_ret
      exact ⟨rfl, Below.refl _ _⟩
    · have b1 := kind_inf kb
      by_cases c : a = b
      · rw [addZ_inf1 ka (inf_nan kb) (Or.inr c)]
        subst c
        clear ka kb
        go_enter Try.func65, Try.ntmps65
        go_wp2_with (go_at_call 25; refine (refKind_any _ _ (by assumption)).mono ?_; rintro e w' ⟨rfl, rfl⟩)
        go_ret
        exact ⟨rfl, Below.refl _ _⟩
      · rw [addZ_infs ka kb ha hb c]
        have c2 : (a != b) = true := by simpa using c
        clear ka kb
        go_enter Try.func65, Try.ntmps65
        go_wp2_with (first | (go_at_call 25; refine (refKind_any _ _ (by assumption)).mono ?_; rintro e w' ⟨rfl, rfl⟩) | (go_at_call 76; refine (refNan_any _).mono ?_; rintro e w' ⟨rfl, rfl⟩))
        go_ret
        exact ⟨rfl, Below.refl _ _⟩
    · have b1 := kind_nan4 kb
      rw [addZ_nan2 (nan_nan kb)]
      clear ka kb
      go_enter Try.func65, Try.ntmps65
      go_wp2_with (first | (go_at_call 25; refine (refKind_any _ _ (by assumption)).mono ?_; rintro e w' ⟨rfl, rfl⟩) | (go_at_call 76; refine (refNan_any _).mono ?_; rintro e w' ⟨rfl, rfl⟩))
      go_ret
      exact ⟨rfl, Below.refl _ _⟩
  · have a1 := kind_nan4 ka
    rw [addZ_nan1 (nan_nan ka)]
    clear ka
    go_enter Try.func65, Try.ntmps65
    go_wp2_with (first | (go_at_call 25; refine (refKind_any _ _ (by assumption)).mono ?_; rintro e w' ⟨rfl, rfl⟩) | (go_at_call 76; refine (refNan_any _).mono ?_; rintro e w' ⟨rfl, rfl⟩))
    go_ret
    exact ⟨rfl, Below.refl _ _⟩

theorem refNegZ_any (a : Int) (w : World) (ha : U64 a) : Calls Try.prog 66 #[.int .u64 a] w fun e w' => e = .returned (.int .u64 (negZ a)) ∧ w' = w := by
  have hx := xor_sign a ha
  cases hn : nanB a
  · have e : negZ a = if 9223372036854775808 ≤ a then a - 9223372036854775808 else a + 9223372036854775808 := by unfold negZ; rw [hn]; rfl
    have k : (kindZ a == 4) = false := by rw [kind_nan, hn]
    rw [← e] at hx
    clear e
    generalize negZ a = z at *
    go_enter Try.func66, Try.ntmps66
    go_wp2_with (go_at_call 25; refine (refKind_any _ _ (by assumption)).mono ?_; rintro e w' ⟨rfl, rfl⟩)
    go_ret
    exact ⟨rfl, rfl⟩
  · have e : negZ a = 9221120237041090560 := by unfold negZ; rw [hn]; rfl
    have k : (kindZ a == 4) = true := by rw [kind_nan, hn]
    rw [e]
    go_enter Try.func66, Try.ntmps66
    go_wp2_with (first | (go_at_call 25; refine (refKind_any _ _ (by assumption)).mono ?_; rintro e w' ⟨rfl, rfl⟩) | (go_at_call 76; refine (refNan_any _).mono ?_; rintro e w' ⟨rfl, rfl⟩))
    go_ret
    exact ⟨rfl, rfl⟩

theorem refSub_any (a b : Int) (w : World) (ha : U64 a) (hb : U64 b) :
    Calls Try.prog 43 #[.int .u64 a, .int .u64 b] w fun e w' => e = .returned (.int .u64 (subZ a b)) ∧ Below w.heap.size w w' := by
  have hz := negZ_u64 hb
  unfold subZ
  go_enter Try.func43, Try.ntmps43
  go_wp2_with fail
  refine (refNegZ_any _ _ hb).mono ?_
  rintro e w' ⟨rfl, rfl⟩
  go_wp2_with fail
  refine (refAdd_any _ _ _ ha hz).mono ?_
  rintro e w1 ⟨rfl, hb1⟩
  go_wp2
  go_ret
  exact ⟨rfl, hb1⟩

theorem mulZ_nan1 {a b : Int} (h : nanB a = true) : mulZ a b = 9221120237041090560 := by unfold mulZ mulBad; rw [h]; simp
theorem mulZ_nan2 {a b : Int} (h : nanB b = true) : mulZ a b = 9221120237041090560 := by unfold mulZ mulBad; rw [h]; simp
theorem mulZ_inf0 {a b : Int} (h1 : mag a = 9218868437227405312) (h2 : mag b = 0) : mulZ a b = 9221120237041090560 := by
  unfold mulZ mulBad; rw [inf_inf h1, h2]; simp
theorem mulZ_0inf {a b : Int} (h1 : mag b = 9218868437227405312) (h2 : mag a = 0) : mulZ a b = 9221120237041090560 := by
  unfold mulZ mulBad; rw [inf_inf h1, h2]; simp
theorem mulZ_inf1 {a b : Int} (h1 : mag a = 9218868437227405312) (hb : nanB b = false) (h2 : mag b ≠ 0) : mulZ a b = sgn (belowB a ^^ belowB b) + 9218868437227405312 := by
  unfold mulZ mulBad; rw [inf_inf h1, inf_nan h1, hb, decide_eq_false h2, h1]; simp
theorem mulZ_inf2 {a b : Int} (h1 : mag b = 9218868437227405312) (ha : nanB a = false) (h2 : mag a ≠ 0) : mulZ a b = sgn (belowB a ^^ belowB b) + 9218868437227405312 := by
  unfold mulZ mulBad; rw [inf_inf h1, inf_nan h1, ha, decide_eq_false h2, h1]; simp
theorem mulZ_fin {a b : Int} (ha : mag a < 9218868437227405312) (hb : mag b < 9218868437227405312) : mulZ a b = sgn (belowB a ^^ belowB b) + (rung 1074 (MZ a * MZ b) : Nat) := by
  unfold mulZ mulBad; rw [fin_nan ha, fin_nan hb, fin_inf ha, fin_inf hb]; simp
theorem kind_z0 {a : Int} (hm : mag a ≠ 0) : (kindZ a == 0) = false := by
  rw [kind_zero]; exact decide_eq_false hm

theorem inf_any (neg : Bool) (w : World) : Calls Try.prog 47 #[.bool neg] w fun e w' => e = .returned (.int .u64 (sgn neg + 9218868437227405312)) ∧ w' = w := by
  have h := refInf_any neg w
  have e : (if neg then (18442240474082181120 : Int) else 9218868437227405312) = sgn neg + 9218868437227405312 := by unfold sgn; cases neg <;> rfl
  rw [e] at h
  exact h

theorem rung_two (v : Nat) : rung 1075 (2 * v) = rung 1074 v := by
  have := rung_scale 1074 v 1
  rw [Nat.pow_one, Nat.mul_comm v 2] at this
  exact this

end Go.Proofs.Ytpjgmlhchaojaaa
