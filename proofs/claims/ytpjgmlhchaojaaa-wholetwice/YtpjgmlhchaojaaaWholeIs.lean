/-
  The walks of layer 4: Is and ToInt.
-/
import Derived.Test.YtpjgmlhchaojaaaWholeWalk
namespace Go.Proofs.Ytpjgmlhchaojaaa
open Go.RowKit Dg Flo

theorem whole_nan {how : Nat} {a : Int} (ha : U64 a) (h : nanB a = false) : nanB (wholeZ how a) = false := by
  rcases kindsZ a with k | k | k
  · exact fin_of ha k
  · rw [wholeZ_inf (inf_inf k)]; exact h
  · rw [nan_nan k] at h; cases h
/-- A number equals its whole part just where it is whole, or infinite. -/
theorem trunc_equal {n : Nat} {a : Int} (ha : U64 a) (hc : canonZ n = wholeZ 0 a) : equalB (n : Int) a = (!nanB a && (infB a || isZ a)) := by
  rcases kindsZ a with k | k | k
  · have hn := fin_of (how := 0) ha k
    have e : (n : Int) = wholeZ 0 a := by
      rw [← hc] at hn ⊢
      unfold canonZ at hn ⊢
      cases hx : nanB (n : Int)
      · rfl
      · rw [hx, if_pos rfl] at hn; exact absurd hn (by decide)
    rw [e, fin_nan k, fin_inf k]
    obtain ⟨p1, p2, p3, p4⟩ := wh_parts (how := 0) ha k
    by_cases c : MZ a % UN = 0
    · rw [whole_stays ha k c, equalB_self, fin_nan k]
      unfold isZ
      rw [decide_eq_true k, decide_eq_true c]; rfl
    · have hi : isZ a = false := by unfold isZ; rw [decide_eq_false c, Bool.and_false]
      rw [hi]
      have hne : equalB (wholeZ 0 a) a = false := by
        cases hq : equalB (wholeZ 0 a) a
        · rfl
        · exfalso
          unfold equalB at hq
          simp only [Bool.and_eq_true, decide_eq_true_eq] at hq
          have h1 : SV (wholeZ 0 a) ≤ SV a := SV_mono (wholeZ_u64 ha) ha (by omega)
          have h2 : SV a ≤ SV (wholeZ 0 a) := SV_mono ha (wholeZ_u64 ha) (by omega)
          have h3 : SV a = SV (wholeZ 0 a) := by omega
          rw [p4] at h3
          have e0 : wcut UN 0 (belowB a) (MZ a) = MZ a / UN := rfl
          rw [e0] at h3
          unfold SV at h3
          have h4 : MZ a = MZ a / UN * UN := by
            revert h3
            generalize MZ a / UN * UN = x
            generalize MZ a = y
            cases belowB a
            · rw [sz_f, sz_f]; intro h; omega
            · rw [sz_t, sz_t]; intro h; omega
          apply c
          rw [h4]
          exact Nat.mul_mod_left _ _
      rw [hne]; rfl
  · have hn : nanB a = false := inf_nan k
    have e : (n : Int) = a := by
      rw [wholeZ_inf (inf_inf k)] at hc
      have hn2 := hn
      rw [← hc] at hn2 ⊢
      unfold canonZ at hn2 ⊢
      cases hx : nanB (n : Int)
      · rfl
      · rw [hx, if_pos rfl] at hn2; exact absurd hn2 (by decide)
    rw [e, equalB_self, hn, inf_inf k]; rfl
  · rw [nan_nan k]
    unfold equalB
    rw [nan_nan k]; simp

theorem wis_any (a : Int) (w : World) (ha : U64 a) : Calls Try.prog 10 #[.int .u64 a] w fun e w' => e = .returned (.bool (isZ a)) ∧ Below w.heap.size w w' := by
  have HT : Hid _ := fun w => mathTrunc_any a w ha
  have HK : Hid _ := fun w => kind_any a w ha
  have HE : Hid (∀ n : Nat, n < 18446744073709551616 → canonZ n = wholeZ 0 a → (FloatKind.f64.format.order n a.toNat == some .eq) = (!nanB a && (infB a || isZ a))) := by
    intro n hn hc
    have := eq_test (a := (n : Int)) (b := a) ⟨by omega, by omega⟩ ha
    rw [Int.toNat_natCast] at this
    rw [this]
    exact trunc_equal ha hc
  have cs : (decide (kindZ a < 3) = false ∧ isZ a = false) ∨ (nanB a = false ∧ infB a = false ∧ decide (kindZ a < 3) = true) := by
    rcases kindsZ a with k | k | k
    · refine Or.inr ⟨fin_nan k, fin_inf k, ?_⟩
      rcases kind_fin k (mag_range ha).1 with ⟨_, k⟩ | ⟨_, _, k⟩ | ⟨_, k⟩ <;> rw [k] <;> decide
    · refine Or.inl ⟨?_, by unfold isZ; rw [decide_eq_false (by omega)]; rfl⟩
      rw [kind_inf k]; decide
    · refine Or.inl ⟨?_, by unfold isZ; rw [decide_eq_false (by omega)]; rfl⟩
      rw [kind_nan4 k]; decide
  generalize nanB a = x at *
  generalize infB a = y at *
  generalize isZ a = z at *
  generalize kindZ a = K at *
  go_enter Try.func10, Try.ntmps10
  go_wp2_with fail
  refine (wholeFloat_any _ _).mono ?_
  rintro e w' ⟨rfl, hw'⟩
  rw [hw']
  clear hw' w'
  go_wp2_with fail
  refine (HK.out _).mono ?_
  rintro e w' ⟨rfl, hw'⟩
  rw [hw']
  clear hw' w'
  rcases cs with ⟨hk, rfl⟩ | ⟨rfl, rfl, hk⟩
  · go_wp2
    go_ret
    exact ⟨rfl, Below.refl _ _⟩
  · go_wp2_with fail
    refine (HT.out _).mono ?_
    rintro e w1 ⟨n, rfl, hn, hc, hw⟩
    have ht := HE.out n hn hc
    clear hc
    replace ht : (FloatKind.f64.format.order n a.toNat == some .eq) = z := ht
    cases z
    · go_wp2
      go_ret
      exact ⟨rfl, hw⟩
    · go_wp2
      go_ret
      exact ⟨rfl, hw⟩

/-- 2 to the 63rd as a number. -/
theorem M_top : M 4890909195324358656 = 9223372036854775808 * UN := by
  have hO : 63 + OP = 52 + 1085 := rfl
  rw [UN_eq, pow63, hO, show 4890909195324358656 = 1085 * 4503599627370496 + 4503599627370496 by decide, M_two]
theorem SV_tz {a : Int} (h : isZ a = true) : SV a = tz a * (UN : Int) := by
  obtain ⟨h1, h2⟩ := is_fin h
  have e : MZ a / UN * UN = MZ a := by
    have := Nat.div_add_mod (MZ a) UN
    rw [h2, Nat.add_zero, Nat.mul_comm] at this
    exact this
  unfold SV tz
  rw [← e, Nat.mul_div_cancel _ UN_pos]
  generalize MZ a / UN = W
  cases belowB a
  · rw [sz_f, sz_f, Int.natCast_mul]
  · rw [sz_t, sz_t, Int.natCast_mul, Int.neg_mul]
theorem SV_plus : SV 4890909195324358656 = 9223372036854775808 * (UN : Int) := by
  have e1 : belowB 4890909195324358656 = false := by decide
  have e2 : mag 4890909195324358656 = 4890909195324358656 := by decide
  unfold SV MZ
  rw [e1, e2, sz_f, show (4890909195324358656 : Int).toNat = 4890909195324358656 from rfl, M_top, Int.natCast_mul]
  rfl
theorem SV_minus : SV 14114281232179134464 = -9223372036854775808 * (UN : Int) := by
  have e1 : belowB 14114281232179134464 = true := by decide
  have e2 : mag 14114281232179134464 = 4890909195324358656 := by decide
  unfold SV MZ
  rw [e1, e2, sz_t, show (4890909195324358656 : Int).toNat = 4890909195324358656 from rfl, M_top, Int.natCast_mul, Int.neg_mul]
  rfl
theorem less_iff {a b : Int} (ha : U64 a) (hb : U64 b) (na : nanB a = false) (nb : nanB b = false) : lessB a b = decide (SV a < SV b) := by
  unfold lessB
  rw [na, nb]
  by_cases c : sv a < sv b
  · rw [decide_eq_true c, decide_eq_true (SV_strict ha hb c)]; rfl
  · have := SV_mono hb ha (by omega)
    rw [decide_eq_false c, decide_eq_false (by omega)]; rfl
theorem scaled_less {x y : Int} : decide (x * (UN : Int) < y * (UN : Int)) = decide (x < y) := by
  have hp : (0 : Int) < (UN : Int) := by have := UN_pos; omega
  by_cases c : x < y
  · rw [decide_eq_true c, decide_eq_true (Int.mul_lt_mul_of_pos_right c hp)]
  · rw [decide_eq_false c, decide_eq_false]
    intro h
    exact c (Int.lt_of_mul_lt_mul_right h (Int.le_of_lt hp))
theorem low_test {a : Int} (ha : U64 a) (h : isZ a = true) : (FloatKind.f64.format.order a.toNat 14114281232179134464 == some .lt) = decide (tz a < -9223372036854775808) := by
  have ht := lt_test ha (b := 14114281232179134464) ⟨by decide, by decide⟩
  rw [show (14114281232179134464 : Int).toNat = 14114281232179134464 from rfl] at ht
  rw [ht, less_iff ha ⟨by decide, by decide⟩ (fin_nan (is_fin h).1) (by decide), SV_tz h, SV_minus, scaled_less]
theorem high_test {a : Int} (ha : U64 a) (h : isZ a = true) : (FloatKind.f64.format.order a.toNat 4890909195324358656 == some .gt || FloatKind.f64.format.order a.toNat 4890909195324358656 == some .eq) = decide (9223372036854775808 ≤ tz a) := by
  have hb : U64 4890909195324358656 := ⟨by decide, by decide⟩
  have ht := gt_test ha hb
  have hq := eq_test ha hb
  rw [show (4890909195324358656 : Int).toNat = 4890909195324358656 from rfl] at ht hq
  have na : nanB a = false := fin_nan (is_fin h).1
  have nb : nanB 4890909195324358656 = false := by decide
  rw [ht, hq, less_iff hb ha nb na, SV_tz h, SV_plus, scaled_less]
  by_cases c : tz a = 9223372036854775808
  · have e : equalB a 4890909195324358656 = true := equal_of ha hb na nb (by rw [SV_tz h, SV_plus, c])
    rw [e, c]; decide
  · have e : equalB a 4890909195324358656 = false := by
      cases hx : equalB a 4890909195324358656
      · rfl
      · exfalso
        unfold equalB at hx
        simp only [Bool.and_eq_true, decide_eq_true_eq] at hx
        have h1 : SV a ≤ SV 4890909195324358656 := SV_mono ha hb (by omega)
        have h2 : SV 4890909195324358656 ≤ SV a := SV_mono hb ha (by omega)
        rw [SV_tz h, SV_plus] at h1 h2
        have hp : (UN : Int) ≠ 0 := by have := UN_pos; omega
        exact c (Int.eq_of_mul_eq_mul_right hp (by omega))
    rw [e, Bool.or_false]
    by_cases d : 9223372036854775808 < tz a
    · rw [decide_eq_true d, decide_eq_true (by omega)]
    · rw [decide_eq_false d, decide_eq_false (by omega)]

theorem toInt_any (a : Int) (w : World) (ha : U64 a) : Calls Try.prog 11 #[.int .u64 a] w fun e w' => e = .returned (.tuple #[.int .i64 (toI a), .bool (toB a)]) ∧ Below w.heap.size w w' := by
  have HI : Hid _ := fun w => wis_any a w ha
  cases hi : isZ a
  · obtain ⟨t1, t2⟩ := toB_not hi
    rw [t1, t2]
    rw [hi] at HI
    clear t1 t2 hi
    go_enter Try.func11, Try.ntmps11
    go_wp2_with fail
    refine (wholeFloat_any _ _).mono ?_
    rintro e w' ⟨rfl, hw'⟩
    rw [hw']
    clear hw' w'
    go_wp2_with fail
    refine (HI.out _).mono ?_
    rintro e w1 ⟨rfl, hb1⟩
    go_wp2
    go_ret2
    exact ⟨rfl, hb1⟩
  · have hl := low_test ha hi
    have hh := high_test ha hi
    have T0 : Hid (¬ (-9223372036854775808 ≤ tz a ∧ tz a ≤ 9223372036854775807) → toB a = false ∧ toI a = 0) := toB_out
    have T1 : Hid (-9223372036854775808 ≤ tz a → tz a ≤ 9223372036854775807 → toB a = true ∧ toI a = tz a) := toB_in hi
    have T2 : Hid (toB a = true → floatToIntVal .f64 a.toNat .i64 = some (toI a)) := int_of_float ha
    rw [hi] at HI
    clear hi
    generalize tz a = t at *
    generalize toB a = tb at *
    generalize toI a = ti at *
    by_cases c : t < -9223372036854775808
    · obtain ⟨rfl, rfl⟩ := T0.out (by omega)
      rw [decide_eq_true c] at hl
      clear hh T0 T1 T2 c
      go_enter Try.func11, Try.ntmps11
      go_wp2_with fail
      refine (wholeFloat_any _ _).mono ?_
      rintro e w' ⟨rfl, hw'⟩
      rw [hw']
      clear hw' w'
      go_wp2_with fail
      refine (HI.out _).mono ?_
      rintro e w1 ⟨rfl, hb1⟩
      go_wp2
      go_ret2
      exact ⟨rfl, hb1⟩
    · rw [decide_eq_false c] at hl
      by_cases d : 9223372036854775808 ≤ t
      · obtain ⟨rfl, rfl⟩ := T0.out (by omega)
        rw [decide_eq_true d] at hh
        clear T0 T1 T2 c d
        go_enter Try.func11, Try.ntmps11
        go_wp2_with fail
        refine (wholeFloat_any _ _).mono ?_
        rintro e w' ⟨rfl, hw'⟩
        rw [hw']
        clear hw' w'
        go_wp2_with fail
        refine (HI.out _).mono ?_
        rintro e w1 ⟨rfl, hb1⟩
        go_wp2
        go_ret2
        exact ⟨rfl, hb1⟩
      · obtain ⟨rfl, t2⟩ := T1.out (by omega) (by omega)
        have hv := T2.out rfl
        rw [decide_eq_false d] at hh
        have b1 : -9223372036854775808 ≤ ti := by omega
        have b2 : ti ≤ 9223372036854775807 := by omega
        have hcv : ∀ w, (convert 37 2 (.float .f64 a.toNat)).run Try.prog w = .ok (.int .i64 ti) w :=
          fun w => run_convert_float_int w 37 2 .f64 .i64 a.toNat ti (by rw [Try.underlying37]; rfl) Try.underlying2 hv
        clear T0 T1 T2 c d t2 hv
        go_enter Try.func11, Try.ntmps11
        go_wp2_with fail
        refine (wholeFloat_any _ _).mono ?_
        rintro e w' ⟨rfl, hw'⟩
        rw [hw']
        clear hw' w'
        go_wp2_with fail
        refine (HI.out _).mono ?_
        rintro e w1 ⟨rfl, hb1⟩
        go_wp2
        go_ret2
        exact ⟨rfl, hb1⟩

theorem M_three (l : Nat) : M (l * 4503599627370496 + 6755399441055744) = 3 * 2 ^ (51 + l) := by
  rw [M_at (by decide) (Or.inr (by decide)), Nat.pow_add, ← Nat.mul_assoc]
theorem three_is : isZ 4613937818241073152 = true ∧ tz 4613937818241073152 = 3 := by
  have e1 : belowB 4613937818241073152 = false := by decide
  have e2 : mag 4613937818241073152 = 4613937818241073152 := by decide
  have hm : MZ 4613937818241073152 = 3 * UN := by
    unfold MZ
    have hO : OP = 51 + 1023 := rfl
    rw [e2, show (4613937818241073152 : Int).toNat = 1023 * 4503599627370496 + 6755399441055744 by decide, M_three, UN_eq, hO]
  refine ⟨?_, ?_⟩
  · unfold isZ
    rw [hm, e2, Nat.mul_mod_left]; decide
  · unfold tz
    rw [hm, e1, Nat.mul_div_cancel _ UN_pos]; rfl
theorem three_to : toB 4613937818241073152 = true ∧ toI 4613937818241073152 = 3 := by
  obtain ⟨h1, h2⟩ := three_is
  obtain ⟨t1, t2⟩ := toB_in h1 (by rw [h2]; decide) (by rw [h2]; decide)
  exact ⟨t1, by rw [t2, h2]⟩
theorem two_from : fromZ (-2) = 13835058055282163712 := by
  have hr : rung 0 (2 * UN) = 4611686018427387904 := by
    have h : M 4611686018427387904 = 2 * UN := by
      have hO : 1 + OP = 52 + 1023 := rfl
      rw [UN_eq, show 2 * 2 ^ OP = 2 ^ (1 + OP) by rw [Nat.pow_add], hO, show 4611686018427387904 = 1023 * 4503599627370496 + 4503599627370496 by decide, M_two]
    rw [← h, rung_M (by decide)]
  unfold fromZ
  rw [show (-2 : Int).natAbs = 2 from rfl, hr]
  decide
theorem wlives_any (w : World) : Calls Try.prog 13 #[] w fun e w' => e = .returned (.bool true) ∧ Below w.heap.size w w' := by
  have h1 := fun w => toInt_any 4613937818241073152 w ⟨by decide, by decide⟩
  rw [three_to.1, three_to.2] at h1
  have h2 := fun w => fromInt_any (-2) w
  rw [two_from] at h2
  have H1 : Hid _ := h1
  have H2 : Hid _ := h2
  clear h1 h2
  go_enter Try.func13, Try.ntmps13
  go_wp2_with fail
  refine (H1.out _).mono ?_
  rintro e w1 ⟨rfl, hb1⟩
  go_wp2_with fail
  refine (H2.out _).mono ?_
  rintro e w2 ⟨rfl, hb2⟩
  go_wp2
  go_ret
  exact ⟨rfl, hb1.trans (hb2.mono hb1.size)⟩

end Go.Proofs.Ytpjgmlhchaojaaa
