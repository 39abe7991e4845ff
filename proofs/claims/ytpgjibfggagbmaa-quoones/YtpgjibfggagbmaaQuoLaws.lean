/-
  Plain mathematics of the statements of layer 3.
-/
import Derived.Test.YtpgjibfggagbmaaQuoSqrt
import Derived.Test.YtpgjibfggagbmaaSumLaws
namespace Go.Proofs.Ytpgjibfggagbmaa
open Go.RowKit Dg Flo

/-! Rests. -/
theorem rem_rep {a b : Int} (ha : U64 a) (hb : U64 b) (fa : mag a < 9218868437227405312) (fb : mag b < 9218868437227405312) (zb : mag b ≠ 0) : Rep (MZ a % MZ b) := by
  obtain ⟨f, f1, f2, f3, f4, f5⟩ := parts_fin ha fa
  obtain ⟨h, h1, h2, h3, h4, h5⟩ := parts_fin hb fb
  have hb0 : 0 < MZ b := by
    have : MZ b ≠ 0 := fun k => zb ((MZ_null hb).1 k)
    omega
  have hlt : MZ a % MZ b < 2 ^ TP := Nat.lt_of_le_of_lt (Nat.mod_le _ _) (MZ_lt ha fa)
  have hp := Nat.two_pow_pos (pexp b + 1074).toNat
  rcases Int.lt_or_le (pexp b) (pexp a) with c | c
  · have e : MZ a % MZ b = (f * 2 ^ ((pexp a + 1074).toNat - (pexp b + 1074).toNat) % h) * 2 ^ (pexp b + 1074).toNat := by
      rw [← Nat.mul_mod_mul_right, Nat.mul_assoc, ← Nat.pow_add, h5, ← f5]
      congr 3; omega
    have hh : 0 < h := by
      rcases Nat.eq_zero_or_pos h with k | k
      · rw [k, Nat.zero_mul] at h5; omega
      · exact k
    have := Nat.mod_lt (f * 2 ^ ((pexp a + 1074).toNat - (pexp b + 1074).toNat)) hh
    rw [e] at hlt ⊢
    exact rep_lt (by omega) hlt
  · have e : MZ a % MZ b = (f % (h * 2 ^ ((pexp b + 1074).toNat - (pexp a + 1074).toNat))) * 2 ^ (pexp a + 1074).toNat := by
      rw [← Nat.mul_mod_mul_right, Nat.mul_assoc, ← Nat.pow_add, f5, ← h5]
      congr 3; omega
    have := Nat.mod_le f (h * 2 ^ ((pexp b + 1074).toNat - (pexp a + 1074).toNat))
    rw [e] at hlt ⊢
    exact rep_lt (by omega) hlt
/-- What a rest of finite numbers is. -/
theorem rem_parts {a b : Int} (ha : U64 a) (hb : U64 b) (fa : mag a < 9218868437227405312) (fb : mag b < 9218868437227405312) (zb : mag b ≠ 0) :
    mag (remZ a b) < mag b ∧ belowB (remZ a b) = belowB a ∧ MZ (remZ a b) = MZ a % MZ b := by
  obtain ⟨r1, r2⟩ := (rem_rep ha hb fa fb zb).rung
  obtain ⟨w1, w2, w3⟩ := SV_word (s := belowB a) (rung_le 0 (MZ a % MZ b))
  have hb0 : 0 < MZ b := by
    have : MZ b ≠ 0 := fun k => zb ((MZ_null hb).1 k)
    omega
  have hm := Nat.mod_lt (MZ a) hb0
  rw [remZ_fin fa fb zb]
  refine ⟨?_, w3, ?_⟩
  · rw [w2]
    have h : M (rung 0 (MZ a % MZ b)) < M (mag b).toNat := by rw [r2]; exact hm
    have := M_lt_iff.1 h
    have := (mag_range hb).1
    omega
  · unfold MZ at *
    rw [w2, Int.toNat_natCast, r2]
theorem remBad_parts {a b : Int} (h : remBad a b = false) : nanB a = false ∧ nanB b = false ∧ infB a = false ∧ mag b ≠ 0 := by
  unfold remBad at h
  simp only [Bool.or_eq_false_iff, decide_eq_false_iff_not] at h
  exact ⟨h.1, h.2.1, h.2.2.1, h.2.2.2⟩
theorem fin_of {a : Int} (h1 : nanB a = false) (h2 : infB a = false) : mag a < 9218868437227405312 := by
  unfold nanB at h1; unfold infB at h2
  have := of_decide_eq_false h1
  have := of_decide_eq_false h2
  omega
/-- What a rest is, where there is one. -/
theorem rem_cases {a b : Int} (ha : U64 a) (hb : U64 b) : (remZ a b = 9221120237041090560 ∧ remBad a b = true) ∨
    (nanB (remZ a b) = false ∧ mag (remZ a b) < 9218868437227405312 ∧ mag (remZ a b) < mag b ∧ belowB (remZ a b) = belowB a ∧ mag a < 9218868437227405312 ∧ nanB b = false ∧ mag b ≠ 0) := by
  cases h : remBad a b
  · obtain ⟨h1, h2, h3, h4⟩ := remBad_parts h
    have fa := fin_of h1 h3
    refine Or.inr ?_
    cases hi : infB b
    · have fb := fin_of h2 hi
      obtain ⟨p1, p2, p3⟩ := rem_parts ha hb fa fb h4
      exact ⟨fin_nan (by omega), by omega, p1, p2, fa, h2, h4⟩
    · rw [remZ_inf h hi]
      have := of_decide_eq_true hi
      exact ⟨h1, fa, by omega, rfl, fa, h2, h4⟩
  · exact Or.inl ⟨remZ_bad h, rfl⟩
theorem nan_word : nanB 9221120237041090560 = true := by decide

theorem less_mag {a b : Int} (ha : U64 a) (hb : U64 b) (na : nanB a = false) (nb : nanB b = false) : lessB (mag a) (mag b) = decide (mag a < mag b) := by
  have r1 := mag_range ha
  have r2 := mag_range hb
  have m : ∀ x : Int, 0 ≤ x → x < 9223372036854775808 → mag x = x := by intro x h0 h1; unfold mag; rw [if_neg (by omega)]
  have e1 : nanB (mag a) = false := by unfold nanB at na ⊢; rw [m _ r1.1 r1.2]; exact na
  have e2 : nanB (mag b) = false := by unfold nanB at nb ⊢; rw [m _ r2.1 r2.2]; exact nb
  have e3 : sv (mag a) = mag a := by unfold sv; rw [if_neg (by omega)]
  have e4 : sv (mag b) = mag b := by unfold sv; rw [if_neg (by omega)]
  unfold lessB
  rw [e1, e2, e3, e4]
  rfl
theorem near_sign (z : Bool) {T : Int} (h : T ≠ 0) : belowB (nearZ z T) = decide (T < 0) := by
  unfold nearZ
  rw [if_neg h]
  exact (SV_word (rung_le _ _)).2.2
/-- The other rest has the sign of what was divided by. -/
theorem mod_sign {a b : Int} (ha : U64 a) (hb : U64 b) (h : nanB (remZ a b) = false) : belowB (modZ a b) = belowB b := by
  have hu := remZ_u64 (b := b) ha
  rcases rem_cases ha hb with ⟨k, _⟩ | ⟨k1, k2, k3, k4, k5, k6, k7⟩
  · rw [k, nan_word] at h; cases h
  · unfold modZ
    rw [k1]
    simp only [Bool.false_eq_true, if_false]
    by_cases z : mag (remZ a b) = 0
    · rw [if_pos z]
      unfold belowB sgn
      cases decide (9223372036854775808 ≤ b) <;> decide
    · rw [if_neg z]
      by_cases s : belowB (remZ a b) = belowB b
      · rw [if_pos s]; exact s
      · rw [if_neg s]
        by_cases hi : mag b = 9218868437227405312
        · have e : addZ (remZ a b) b = b := by
            unfold addZ addBad
            rw [k1, inf_nan hi, inf_inf hi, fin_inf k2]; simp
          rw [e]
        · have fb : mag b < 9218868437227405312 := by
            unfold nanB at k6
            have := of_decide_eq_false k6
            omega
          rw [addZ_finite k2 fb]
          have hM : MZ (remZ a b) < MZ b := by
            have := (mag_range hu).1
            exact M_mono (by omega)
          have hT : SV (remZ a b) + SV b ≠ 0 ∧ decide (SV (remZ a b) + SV b < 0) = belowB b := by
            unfold SV sz
            revert s
            cases belowB (remZ a b) <;> cases belowB b <;> simp <;> omega
          rw [near_sign _ hT.1]
          exact hT.2
theorem mod_nan {a b : Int} (h : nanB (remZ a b) = true) : modZ a b = remZ a b := by unfold modZ; rw [if_pos h]

/-! Twice. -/
theorem rem_small {a b : Int} (ha : U64 a) (_hb : U64 b) (na : nanB a = false) (nb : nanB b = false) (h : mag a < mag b) : remZ a b = a := by
  have ra := mag_range ha
  have fa : mag a < 9218868437227405312 := by
    unfold nanB at nb
    have := of_decide_eq_false nb
    omega
  have hz : mag b ≠ 0 := by omega
  have hbad : remBad a b = false := by unfold remBad; rw [na, nb, fin_inf fa, decide_eq_false hz]; rfl
  cases hi : infB b
  · have fb := fin_of nb hi
    rw [remZ_fin fa fb hz]
    have hM : MZ a < MZ b := M_mono (by omega)
    rw [Nat.mod_eq_of_lt hM, rung_MZ ha (by omega)]
    exact (word_again ha).symm
  · exact remZ_inf hbad hi
theorem rem_twice {a b : Int} (ha : U64 a) (hb : U64 b) (h : nanB (remZ a b) = false) : remZ (remZ a b) b = remZ a b := by
  have hu := remZ_u64 (b := b) ha
  rcases rem_cases ha hb with ⟨k, _⟩ | ⟨k1, k2, k3, k4, k5, k6, k7⟩
  · rw [k, nan_word] at h; cases h
  · exact rem_small hu hb k1 k6 k3
theorem rem_nan {a b : Int} (h : nanB a = true ∨ nanB b = true) : remZ a b = 9221120237041090560 := by
  refine remZ_bad ?_
  unfold remBad
  rcases h with h | h <;> rw [h] <;> simp

/-! Signs. -/
theorem divBad_neg {a b : Int} (ha : U64 a) (h : nanB a = false) : divBad (negZ a) b = divBad a b := by
  obtain ⟨e1, e2⟩ := neg_parts ha h
  unfold divBad
  rw [neg_nan a ha, e1]
  unfold infB
  rw [e1]
theorem div_neg {a b : Int} (ha : U64 a) (h : nanB a = false) (hb : divBad a b = false) : divZ (negZ a) b = negZ (divZ a b) := by
  obtain ⟨e1, e2⟩ := neg_parts ha h
  have e4 : infB (negZ a) = infB a := by unfold infB; rw [e1]
  have e5 : MZ (negZ a) = MZ a := by unfold MZ; rw [e1]
  have hx : (!belowB a ^^ belowB b) = !(belowB a ^^ belowB b) := by cases belowB a <;> cases belowB b <;> rfl
  have hq : quoR (MZ a) (MZ b) ≤ 9218868437227405312 := rung_le _ _
  unfold divZ
  rw [divBad_neg ha h, hb, e4, e5, e2, hx]
  generalize quoR (MZ a) (MZ b) = R at *
  simp only [Bool.false_eq_true, if_false]
  split
  · exact (neg_sgn _ (Nat.le_refl _)).symm
  · split
    · have := neg_sgn (belowB a ^^ belowB b) (Nat.zero_le 9218868437227405312)
      simpa using this.symm
    · exact (neg_sgn _ hq).symm
theorem divZ_bad {a b : Int} (h : divBad a b = true) : divZ a b = 9221120237041090560 := by unfold divZ; rw [if_pos h]
theorem div_nan {a b : Int} (h : nanB a = true ∨ nanB b = true) : divZ a b = 9221120237041090560 := by
  refine divZ_bad ?_
  unfold divBad
  rcases h with h | h <;> rw [h] <;> simp
theorem rem_neg {a b : Int} (ha : U64 a) (h : nanB a = false) (hb : remBad a b = false) : remZ (negZ a) b = negZ (remZ a b) := by
  obtain ⟨e1, e2⟩ := neg_parts ha h
  have e4 : infB (negZ a) = infB a := by unfold infB; rw [e1]
  have e5 : MZ (negZ a) = MZ a := by unfold MZ; rw [e1]
  have e6 : remBad (negZ a) b = remBad a b := by unfold remBad; rw [neg_nan a ha, e4]
  have hq : rung 0 (MZ a % MZ b) ≤ 9218868437227405312 := rung_le _ _
  unfold remZ
  rw [e6, hb, e5, e2]
  generalize rung 0 (MZ a % MZ b) = R at *
  simp only [Bool.false_eq_true, if_false]
  split
  · rfl
  · exact (neg_sgn _ hq).symm
theorem remBad_neg {a b : Int} (ha : U64 a) (h : nanB a = false) : remBad (negZ a) b = remBad a b := by
  obtain ⟨e1, e2⟩ := neg_parts ha h
  have e4 : infB (negZ a) = infB a := by unfold infB; rw [e1]
  unfold remBad; rw [neg_nan a ha, e4]

/-! One. -/
theorem stick_exact {A B k q : Nat} (hB : 0 < B) (h : A * 2 ^ k = q * B) : stick A B k = 2 * q := by
  unfold stick
  rw [h, Nat.mul_div_cancel _ hB, Nat.mul_mod_left, if_pos rfl, Nat.add_zero]
/-- A quotient that is just v units of the least number. -/
theorem quo_exact {A B v : Nat} (hB : 0 < B) (h : A * 2 ^ OP = v * B) : quoR A B = rung 0 v := by
  have hK := KQ_eq
  have hG := GQ_eq
  have hO := OP_eq
  unfold quoR
  have e1 : A * 2 ^ KQ = (v * 2 ^ (KQ - OP)) * B := by
    rw [show KQ = OP + (KQ - OP) by omega, Nat.pow_add, ← Nat.mul_assoc, h, show OP + (KQ - OP) - OP = KQ - OP by omega]
    grind
  have e2 : 2 * (v * 2 ^ (KQ - OP)) = v * 2 ^ GQ := by
    rw [show GQ = KQ - OP + 1 by omega, Nat.pow_succ]; grind
  have h3 := rung_scale 0 v GQ
  rw [Nat.zero_add] at h3
  rw [stick_exact hB e1, e2, h3]
theorem div_one {a : Int} (ha : U64 a) (h : nanB a = false) : divZ a 4607182418800017408 = a := by
  have o1 : nanB 4607182418800017408 = false := by decide
  have o2 : infB 4607182418800017408 = false := by decide
  have o3 : decide (mag 4607182418800017408 = 0) = false := by decide
  have hp := Nat.two_pow_pos OP
  have hq : quoR (MZ a) (2 ^ OP) = rung 0 (MZ a) := quo_exact hp rfl
  unfold divZ divBad
  rw [h, o1, o2, o3, one_below, one_MZ, hq]
  cases hi : infB a
  · have hm := fin_of h hi
    rw [rung_MZ ha (by omega)]
    simp only [Bool.and_false, Bool.or_false, Bool.false_eq_true, if_false, Bool.xor_false]
    exact (word_again ha).symm
  · simp only [Bool.and_false, Bool.or_false, Bool.false_eq_true, if_false, Bool.xor_false, if_true]
    exact (inf_word ha (of_decide_eq_true hi)).symm
theorem div_self {a : Int} (ha : U64 a) (hm : mag a < 9218868437227405312) (h0 : mag a ≠ 0) : divZ a a = 4607182418800017408 := by
  have hz : 0 < MZ a := by
    have : MZ a ≠ 0 := fun k => h0 ((MZ_null ha).1 k)
    omega
  have u1 : U64 4607182418800017408 := ⟨by decide, by decide⟩
  have hq : quoR (MZ a) (MZ a) = rung 0 (2 ^ OP) := quo_exact hz (Nat.mul_comm _ _)
  have h1 := rung_MZ u1 (by decide)
  rw [one_MZ, one_mag] at h1
  rw [divZ_fin hm hm h0, hq, h1]
  cases belowB a <;> rfl

/-! Whole numbers. -/
theorem back_div {x y : Nat} (hx : x < 67108864) (hy : y < 67108864) (h0 : y ≠ 0) : divZ (wholeN (x * y) : Nat) (wholeN y : Nat) = (wholeN x : Nat) := by
  have xy : x * y ≤ 4503599493152769 := Nat.mul_le_mul (show x ≤ 67108863 by omega) (show y ≤ 67108863 by omega)
  obtain ⟨a1, a2, a3, a4, a5⟩ := whole_parts (show x * y < 9007199254740992 by omega)
  obtain ⟨b1, b2, b3, b4, b5⟩ := whole_parts (show y < 9007199254740992 by omega)
  have hz : 0 < y * 2 ^ OP := Nat.mul_pos (by omega) (Nat.two_pow_pos _)
  have hm : mag (wholeN y : Nat) ≠ 0 := by
    intro k
    have := (MZ_null b5).2 k
    omega
  have hq : quoR (x * y * 2 ^ OP) (y * 2 ^ OP) = rung 0 (x * 2 ^ OP) := quo_exact hz (by grind)
  rw [divZ_fin a1 b1 hm, a3, b3, a4, b4, hq]
  unfold sgn wholeN
  simp
theorem back_rem {x y : Nat} (hx : x < 67108864) (hy : y < 67108864) (h0 : y ≠ 0) : remZ (wholeN (x * y + x % y) : Nat) (wholeN y : Nat) = (wholeN (x % y) : Nat) := by
  have xy : x * y ≤ 4503599493152769 := Nat.mul_le_mul (show x ≤ 67108863 by omega) (show y ≤ 67108863 by omega)
  have hmod := Nat.mod_lt x (show 0 < y by omega)
  obtain ⟨a1, a2, a3, a4, a5⟩ := whole_parts (show x * y + x % y < 9007199254740992 by omega)
  obtain ⟨b1, b2, b3, b4, b5⟩ := whole_parts (show y < 9007199254740992 by omega)
  have hz : 0 < y * 2 ^ OP := Nat.mul_pos (by omega) (Nat.two_pow_pos _)
  have hm : mag (wholeN y : Nat) ≠ 0 := by
    intro k
    have := (MZ_null b5).2 k
    omega
  have e : (x * y + x % y) % y = x % y := by rw [Nat.mul_add_mod_self_right, Nat.mod_mod]
  rw [remZ_fin a1 b1 hm, a3, a4, b4, Nat.mul_mod_mul_right, e]
  unfold sgn wholeN
  simp
theorem root_sq (z : Nat) : IsRoot (z * z) z := by
  refine ⟨Nat.le_refl _, ?_⟩
  rw [Nat.add_mul, Nat.mul_add]
  omega
theorem root_units {V y : Nat} (h : V * 2 ^ KR = y * y) : rootR V = rung 64 (2 * y) := by
  unfold rootR
  rw [h, (isq_spec _).unique (root_sq y)]
  unfold stickR
  rw [if_pos rfl, Nat.add_zero]
theorem sq_pow (x p : Nat) : x * x * (2 ^ p * 2 ^ p) = (x * 2 ^ p) * (x * 2 ^ p) := by
  generalize 2 ^ p = P; grind
theorem two_step (x p : Nat) : 2 * (x * 2 ^ p) = x * 2 ^ (p + 1) := by
  rw [Nat.pow_succ]
  generalize 2 ^ p = P
  grind
theorem root_exact (x : Nat) : rootR (x * x * 2 ^ OP) = rung 0 (x * 2 ^ OP) := by
  have hK := KR_eq
  have hO := OP_eq
  have e1 : x * x * 2 ^ OP * 2 ^ KR = (x * 2 ^ (OP + 63)) * (x * 2 ^ (OP + 63)) := by
    have h1 : OP + KR = OP + 63 + (OP + 63) := by omega
    rw [← sq_pow, ← Nat.pow_add, ← h1, Nat.mul_assoc, ← Nat.pow_add]
  have e2 : 2 * (x * 2 ^ (OP + 63)) = x * 2 ^ OP * 2 ^ 64 := by
    rw [two_step, Nat.mul_assoc, ← Nat.pow_add]
  have h3 := rung_scale 0 (x * 2 ^ OP) 64
  rw [Nat.zero_add] at h3
  rw [root_units e1, e2, h3]
theorem whole_zero : wholeN 0 = 0 := by unfold wholeN; rw [Nat.zero_mul]; exact rung_tiny (Nat.zero_le _)
theorem back_root {x : Nat} (hx : x < 67108864) : rootZ (wholeN (x * x) : Nat) = (wholeN x : Nat) := by
  have xy : x * x ≤ 4503599493152769 := Nat.mul_le_mul (show x ≤ 67108863 by omega) (show x ≤ 67108863 by omega)
  obtain ⟨a1, a2, a3, a4, a5⟩ := whole_parts (show x * x < 9007199254740992 by omega)
  by_cases h0 : x = 0
  · subst h0
    rw [show (0 * 0 : Nat) = 0 from rfl, whole_zero]
    exact rootZ_self (by decide) (Or.inr (by decide))
  · have hm : mag (wholeN (x * x) : Nat) ≠ 0 := by
      intro k
      have h1 := (MZ_null a5).2 k
      rw [a4] at h1
      have := Nat.mul_pos (Nat.mul_pos (show 0 < x by omega) (show 0 < x by omega)) (Nat.two_pow_pos OP)
      omega
    rw [rootZ_fin a1 hm a3, a4, root_exact]
    unfold wholeN
    rfl

/-! Roots and order. -/
theorem root_order {a b : Int} (ha : U64 a) (hb : U64 b) (h : lessB a b = true) (hn : nanB (rootZ a) = false) : lessB (rootZ b) (rootZ a) = false := by
  unfold lessB at h
  have h1 : nanB a = false := by revert h; cases nanB a <;> simp
  have h2 : nanB b = false := by revert h; cases nanB b <;> simp
  rw [h1, h2] at h
  simp only [Bool.not_false, Bool.true_and, decide_eq_true_eq] at h
  have hbad : rootBad a = false := by
    cases k : rootBad a
    · rfl
    · rw [rootZ_bad k, nan_word] at hn; cases hn
  have ra := mag_range ha
  have rb := mag_range hb
  rw [sv_sz ha, sv_sz hb] at h
  -- a is not below 0, and b is above it
  have hpos : belowB a = false ∨ mag a = 0 := by
    unfold rootBad at hbad
    rw [h1] at hbad
    by_cases z : mag a = 0
    · exact Or.inr z
    · rw [decide_eq_true z] at hbad
      exact Or.inl (by revert hbad; cases belowB a <;> simp)
  have hb2 : belowB b = false ∧ mag a < mag b := by
    unfold sz at h
    rcases hpos with k | k
    · rw [k] at h
      revert h
      cases belowB b <;> simp <;> omega
    · rw [k] at h
      revert h
      cases belowB a <;> cases belowB b <;> simp <;> omega
  have hbb : rootBad b = false := by unfold rootBad; rw [h2, hb2.1]; rfl
  have hR : rootR (MZ b) ≤ 9218868437227405312 := rung_le _ _
  have hRa : rootR (MZ a) ≤ 9218868437227405312 := rung_le _ _
  unfold lessB
  have key : sv (rootZ a) ≤ sv (rootZ b) := by
    by_cases ib : mag b = 9218868437227405312
    · rw [rootZ_self hbb (Or.inl ib), sv_sz hb, hb2.1, ib]
      by_cases za : mag a = 0
      · rw [rootZ_self hbad (Or.inr za), sv_sz ha, za]
        unfold sz; cases belowB a <;> decide
      · have ba : belowB a = false := by rcases hpos with k | k; exact k; exact absurd k za
        rw [rootZ_fin (by omega) za ba]
        generalize rootR (MZ a) = R at *
        unfold sv sz
        rw [if_neg (by omega)]
        simp
        omega
    · have fb : mag b < 9218868437227405312 := by
        unfold nanB at h2
        have := of_decide_eq_false h2
        omega
      rw [rootZ_fin fb (by omega) hb2.1]
      have sb : sv ((rootR (MZ b) : Nat) : Int) = (rootR (MZ b) : Nat) := by
        generalize rootR (MZ b) = R at *
        unfold sv; rw [if_neg (by omega)]
      rw [sb]
      by_cases za : mag a = 0
      · rw [rootZ_self hbad (Or.inr za), sv_sz ha, za]
        unfold sz; cases belowB a <;> simp
      · have ba : belowB a = false := by rcases hpos with k | k; exact k; exact absurd k za
        rw [rootZ_fin (by omega) za ba]
        have hmono : rootR (MZ a) ≤ rootR (MZ b) := by
          refine rootR_mono ?_
          have : MZ a < MZ b := M_mono (by omega)
          omega
        generalize rootR (MZ a) = R1 at *
        generalize rootR (MZ b) = R2 at *
        unfold sv; rw [if_neg (by omega)]
        omega
  have : decide (sv (rootZ b) < sv (rootZ a)) = false := decide_eq_false (by omega)
  rw [this]
  simp

end Go.Proofs.Ytpgjibfggagbmaa
