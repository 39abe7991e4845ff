/-
  The statement QuoOnes.
-/
import Derived.Test.YtpgjibfggagbmaaQuoRest
namespace Go.Proofs.Ytpgjibfggagbmaa
open Go.RowKit Dg Flo

theorem div_notnan {a b : Int} (h : divBad a b = false) : nanB (divZ a b) = false := by
  have hq : quoR (MZ a) (MZ b) ≤ 9218868437227405312 := rung_le _ _
  unfold divZ
  rw [h]
  generalize quoR (MZ a) (MZ b) = R at *
  simp only [Bool.false_eq_true, if_false]
  split
  · exact (word_sv (Nat.le_refl _)).2
  · split
    · have := (word_sv (s := belowB a ^^ belowB b) (Nat.zero_le 9218868437227405312)).2
      simpa using this
    · exact (word_sv hq).2
theorem rem_notnan {a b : Int} (ha : U64 a) (hb : U64 b) (h : remBad a b = false) : nanB (remZ a b) = false := by
  rcases rem_cases ha hb with ⟨_, k⟩ | ⟨k, _⟩
  · rw [h] at k; cases k
  · exact k
theorem xor_neg {a : Int} (ha : U64 a) (h : nanB a = false) : bits .xor .u64 a 9223372036854775808 = negZ a := by
  rw [xor_sign a ha]; unfold negZ; rw [h]; rfl

set_option maxHeartbeats 2000000 in
theorem quoOnes_nan (a b : Int) (w : World) (ha : U64 a) (hb : U64 b) (h : kindZ a = 4 ∨ ((kindZ a == 4) = false ∧ kindZ b = 4)) :
    Calls Try.prog 7 #[.int .u64 a, .int .u64 b] w fun e w' => e = .returned (.bool true) ∧ Below w.heap.size w w' := by
  have hn : nanB a = true ∨ nanB b = true := by
    rcases h with k | ⟨_, k⟩
    · exact Or.inl (by rw [← kind_nan, k]; rfl)
    · exact Or.inr (by rw [← kind_nan, k]; rfl)
  have e2 := rem_nan hn
  have e3 : modZ a b = 9221120237041090560 := by rw [mod_nan (by rw [e2]; exact nan_word), e2]
  have d1 := fun w => div_any a b w ha hb
  rw [div_nan hn] at d1
  have r1 := fun w => rem_any a b w ha hb
  rw [e2] at r1
  have m1 := fun w => mod_any a b w ha hb
  rw [e3] at m1
  have HD : Hid (∀ w, _) := d1
  have HR : Hid (∀ w, _) := r1
  have HM : Hid (∀ w, _) := m1
  clear d1 r1 m1 e2 e3 hn
  rcases h with k | ⟨k, k2⟩
  · go_enter Try.func7, Try.ntmps7
    go_wp2_with fail
    refine (refKind_any _ _ ha).mono ?_
    rintro e w' ⟨rfl, hw'⟩
    rw [hw']
    clear hw' w'
    go_wp2_with fail
    refine (HD.out _).mono ?_
    rintro e w1 ⟨rfl, hb1⟩
    go_wp2_with fail
    refine (refNan_any _).mono ?_
    rintro e w' ⟨rfl, hw'⟩
    rw [hw']
    clear hw' w'
    go_wp2_with fail
    refine (HR.out _).mono ?_
    rintro e w2 ⟨rfl, hb2⟩
    replace hb2 := hb1.trans (hb2.mono hb1.size)
    go_wp2_with fail
    refine (refNan_any _).mono ?_
    rintro e w' ⟨rfl, hw'⟩
    rw [hw']
    clear hw' w'
    go_wp2_with fail
    refine (HM.out _).mono ?_
    rintro e w3 ⟨rfl, hb3⟩
    replace hb3 := hb2.trans (hb3.mono hb2.size)
    go_wp2_with fail
    refine (refNan_any _).mono ?_
    rintro e w' ⟨rfl, hw'⟩
    rw [hw']
    clear hw' w'
    go_wp2_with fail
    refine (quoLives_any _).mono ?_
    rintro e w99 ⟨rfl, hb99⟩
    go_wp2
    go_ret
    exact ⟨rfl, hb3.trans (hb99.mono hb3.size)⟩
  · go_enter Try.func7, Try.ntmps7
    go_wp2_with fail
    refine (refKind_any _ _ ha).mono ?_
    rintro e w' ⟨rfl, hw'⟩
    rw [hw']
    clear hw' w'
    go_wp2_with fail
    refine (refKind_any _ _ hb).mono ?_
    rintro e w' ⟨rfl, hw'⟩
    rw [hw']
    clear hw' w'
    go_wp2_with fail
    refine (HD.out _).mono ?_
    rintro e w1 ⟨rfl, hb1⟩
    go_wp2_with fail
    refine (refNan_any _).mono ?_
    rintro e w' ⟨rfl, hw'⟩
    rw [hw']
    clear hw' w'
    go_wp2_with fail
    refine (HR.out _).mono ?_
    rintro e w2 ⟨rfl, hb2⟩
    replace hb2 := hb1.trans (hb2.mono hb1.size)
    go_wp2_with fail
    refine (refNan_any _).mono ?_
    rintro e w' ⟨rfl, hw'⟩
    rw [hw']
    clear hw' w'
    go_wp2_with fail
    refine (HM.out _).mono ?_
    rintro e w3 ⟨rfl, hb3⟩
    replace hb3 := hb2.trans (hb3.mono hb2.size)
    go_wp2_with fail
    refine (refNan_any _).mono ?_
    rintro e w' ⟨rfl, hw'⟩
    rw [hw']
    clear hw' w'
    go_wp2_with fail
    refine (quoLives_any _).mono ?_
    rintro e w99 ⟨rfl, hb99⟩
    go_wp2
    go_ret
    exact ⟨rfl, hb3.trans (hb99.mono hb3.size)⟩

set_option maxHeartbeats 8000000 in
/-- All that the walk of the other numbers wants to know. -/
theorem quoOnes_some (a b c m n r s : Int) (w : World) (ha : U64 a) (hb : U64 b) (um : U64 m) (ur : U64 r) (a4 : (kindZ a == 4) = false) (b4 : (kindZ b == 4) = false) (hc : bits .xor .u64 a 9223372036854775808 = c)
    (hk : kindZ a = 0 ∨ kindZ a = 3 ∨ ((kindZ a != 0) = true ∧ (kindZ a != 3) = true ∧ ∀ w, Calls Try.prog 9 #[.int .u64 a, .int .u64 a] w fun e w' => e = .returned (.int .u64 4607182418800017408) ∧ Below w.heap.size w w'))
    (O : Hid (∀ w, Calls Try.prog 9 #[.int .u64 a, .int .u64 4607182418800017408] w fun e w' => e = .returned (.int .u64 a) ∧ Below w.heap.size w w'))
    (D1 : Hid (∀ w, Calls Try.prog 9 #[.int .u64 a, .int .u64 b] w fun e w' => e = .returned (.int .u64 m) ∧ Below w.heap.size w w'))
    (D2 : Hid (∀ w, Calls Try.prog 9 #[.int .u64 c, .int .u64 b] w fun e w' => e = .returned (.int .u64 n) ∧ Below w.heap.size w w'))
    (R1 : Hid (∀ w, Calls Try.prog 12 #[.int .u64 a, .int .u64 b] w fun e w' => e = .returned (.int .u64 r) ∧ Below w.heap.size w w'))
    (R2 : Hid (∀ w, Calls Try.prog 12 #[.int .u64 c, .int .u64 b] w fun e w' => e = .returned (.int .u64 s) ∧ Below w.heap.size w w'))
    (hm : (kindZ m = 4 ∧ n = m) ∨ ((kindZ m == 4) = false ∧ bits .xor .u64 m 9223372036854775808 = n)) (hr : (kindZ r = 4 ∧ s = r) ∨ ((kindZ r == 4) = false ∧ bits .xor .u64 r 9223372036854775808 = s)) :
    Calls Try.prog 7 #[.int .u64 a, .int .u64 b] w fun e w' => e = .returned (.bool true) ∧ Below w.heap.size w w' := by
  rcases hk with k | k | ⟨k, k2, k3⟩
  · clear a4
    rcases hm with ⟨x1, rfl⟩ | ⟨x1, x2⟩
    all_goals
      rcases hr with ⟨y1, rfl⟩ | ⟨y1, y2⟩
      all_goals
        go_enter Try.func7, Try.ntmps7
        go_wp2_with fail
        refine (refKind_any _ _ ha).mono ?_
        rintro e w' ⟨rfl, hw'⟩
        rw [hw']
        clear hw' w'
        go_wp2_with fail
        refine (refKind_any _ _ hb).mono ?_
        rintro e w' ⟨rfl, hw'⟩
        rw [hw']
        clear hw' w'
        go_wp2_with fail
        refine (O.out _).mono ?_
        rintro e w1 ⟨rfl, hb1⟩
        go_wp2_with fail
        refine (refKind_any _ _ ha).mono ?_
        rintro e w' ⟨rfl, hw'⟩
        rw [hw']
        clear hw' w'
        go_wp2_with fail
        refine (D1.out _).mono ?_
        rintro e w11 ⟨rfl, hb11⟩
        replace hb11 := hb1.trans (hb11.mono hb1.size)
        go_wp2_with fail
        refine (D2.out _).mono ?_
        rintro e w12 ⟨rfl, hb12⟩
        replace hb12 := hb11.trans (hb12.mono hb11.size)
        go_wp2_with fail
        refine (R1.out _).mono ?_
        rintro e w13 ⟨rfl, hb13⟩
        replace hb13 := hb12.trans (hb13.mono hb12.size)
        go_wp2_with fail
        refine (R2.out _).mono ?_
        rintro e w14 ⟨rfl, hb14⟩
        replace hb14 := hb13.trans (hb14.mono hb13.size)
        clear hb11 hb12 hb13
        go_wp2_with fail
        refine (refKind_any _ _ um).mono ?_
        rintro e w' ⟨rfl, hw'⟩
        rw [hw']
        clear hw' w'
        go_wp2_with fail
        refine (refKind_any _ _ ur).mono ?_
        rintro e w' ⟨rfl, hw'⟩
        rw [hw']
        clear hw' w'
        go_wp2_with fail
        refine (quoLives_any _).mono ?_
        rintro e w99 ⟨rfl, hb99⟩
        go_wp2
        go_ret
        exact ⟨rfl, hb14.trans (hb99.mono hb14.size)⟩
  · clear a4
    rcases hm with ⟨x1, rfl⟩ | ⟨x1, x2⟩
    all_goals
      rcases hr with ⟨y1, rfl⟩ | ⟨y1, y2⟩
      all_goals
        go_enter Try.func7, Try.ntmps7
        go_wp2_with fail
        refine (refKind_any _ _ ha).mono ?_
        rintro e w' ⟨rfl, hw'⟩
        rw [hw']
        clear hw' w'
        go_wp2_with fail
        refine (refKind_any _ _ hb).mono ?_
        rintro e w' ⟨rfl, hw'⟩
        rw [hw']
        clear hw' w'
        go_wp2_with fail
        refine (O.out _).mono ?_
        rintro e w1 ⟨rfl, hb1⟩
        go_wp2_with fail
        refine (refKind_any _ _ ha).mono ?_
        rintro e w' ⟨rfl, hw'⟩
        rw [hw']
        clear hw' w'
        go_wp2_with fail
        refine (refKind_any _ _ ha).mono ?_
        rintro e w' ⟨rfl, hw'⟩
        rw [hw']
        clear hw' w'
        go_wp2_with fail
        refine (D1.out _).mono ?_
        rintro e w11 ⟨rfl, hb11⟩
        replace hb11 := hb1.trans (hb11.mono hb1.size)
        go_wp2_with fail
        refine (D2.out _).mono ?_
        rintro e w12 ⟨rfl, hb12⟩
        replace hb12 := hb11.trans (hb12.mono hb11.size)
        go_wp2_with fail
        refine (R1.out _).mono ?_
        rintro e w13 ⟨rfl, hb13⟩
        replace hb13 := hb12.trans (hb13.mono hb12.size)
        go_wp2_with fail
        refine (R2.out _).mono ?_
        rintro e w14 ⟨rfl, hb14⟩
        replace hb14 := hb13.trans (hb14.mono hb13.size)
        clear hb11 hb12 hb13
        go_wp2_with fail
        refine (refKind_any _ _ um).mono ?_
        rintro e w' ⟨rfl, hw'⟩
        rw [hw']
        clear hw' w'
        go_wp2_with fail
        refine (refKind_any _ _ ur).mono ?_
        rintro e w' ⟨rfl, hw'⟩
        rw [hw']
        clear hw' w'
        go_wp2_with fail
        refine (quoLives_any _).mono ?_
        rintro e w99 ⟨rfl, hb99⟩
        go_wp2
        go_ret
        exact ⟨rfl, hb14.trans (hb99.mono hb14.size)⟩
  · have K3 : Hid _ := k3
    clear k3
    rcases hm with ⟨x1, rfl⟩ | ⟨x1, x2⟩
    all_goals
      rcases hr with ⟨y1, rfl⟩ | ⟨y1, y2⟩
      all_goals
        go_enter Try.func7, Try.ntmps7
        go_wp2_with fail
        refine (refKind_any _ _ ha).mono ?_
        rintro e w' ⟨rfl, hw'⟩
        rw [hw']
        clear hw' w'
        go_wp2_with fail
        refine (refKind_any _ _ hb).mono ?_
        rintro e w' ⟨rfl, hw'⟩
        rw [hw']
        clear hw' w'
        go_wp2_with fail
        refine (O.out _).mono ?_
        rintro e w1 ⟨rfl, hb1⟩
        go_wp2_with fail
        refine (refKind_any _ _ ha).mono ?_
        rintro e w' ⟨rfl, hw'⟩
        rw [hw']
        clear hw' w'
        go_wp2_with fail
        refine (refKind_any _ _ ha).mono ?_
        rintro e w' ⟨rfl, hw'⟩
        rw [hw']
        clear hw' w'
        go_wp2_with fail
        refine (K3.out _).mono ?_
        rintro e w2 ⟨rfl, hb2⟩
        replace hb2 := hb1.trans (hb2.mono hb1.size)
        go_wp2_with fail
        refine (D1.out _).mono ?_
        rintro e w11 ⟨rfl, hb11⟩
        replace hb11 := hb2.trans (hb11.mono hb2.size)
        go_wp2_with fail
        refine (D2.out _).mono ?_
        rintro e w12 ⟨rfl, hb12⟩
        replace hb12 := hb11.trans (hb12.mono hb11.size)
        go_wp2_with fail
        refine (R1.out _).mono ?_
        rintro e w13 ⟨rfl, hb13⟩
        replace hb13 := hb12.trans (hb13.mono hb12.size)
        go_wp2_with fail
        refine (R2.out _).mono ?_
        rintro e w14 ⟨rfl, hb14⟩
        replace hb14 := hb13.trans (hb14.mono hb13.size)
        clear hb11 hb12 hb13
        go_wp2_with fail
        refine (refKind_any _ _ um).mono ?_
        rintro e w' ⟨rfl, hw'⟩
        rw [hw']
        clear hw' w'
        go_wp2_with fail
        refine (refKind_any _ _ ur).mono ?_
        rintro e w' ⟨rfl, hw'⟩
        rw [hw']
        clear hw' w'
        go_wp2_with fail
        refine (quoLives_any _).mono ?_
        rintro e w99 ⟨rfl, hb99⟩
        go_wp2
        go_ret
        exact ⟨rfl, hb14.trans (hb99.mono hb14.size)⟩

theorem quoOnes_walk (a b : Int) (w : World) (ha : U64 a) (hb : U64 b) :
    Calls Try.prog 7 #[.int .u64 a, .int .u64 b] w fun e w' => e = .returned (.bool true) ∧ Below w.heap.size w w' := by
  cases na : nanB a
  · have a4 : (kindZ a == 4) = false := by rw [kind_nan, na]
    cases nb : nanB b
    · have b4 : (kindZ b == 4) = false := by rw [kind_nan, nb]
      have u1 : U64 4607182418800017408 := ⟨by decide, by decide⟩
      have uc := negZ_u64 ha
      have o1 := fun w => div_any a 4607182418800017408 w ha u1
      rw [div_one ha na] at o1
      refine quoOnes_some a b (negZ a) (divZ a b) (divZ (negZ a) b) (remZ a b) (remZ (negZ a) b) w ha hb (divZ_u64 a b) (remZ_u64 ha) a4 b4 (xor_neg ha na) ?_ o1 (fun w => div_any a b w ha hb) (fun w => div_any _ b w uc hb) (fun w => rem_any a b w ha hb) (fun w => rem_any _ b w uc hb) ?_ ?_
      · rcases kindsZ a with ka | ka | ka
        · by_cases z : mag a = 0
          · exact Or.inl (kind_zero0 z)
          · refine Or.inr (Or.inr ⟨by rw [bne, kind_z0 z]; rfl, by rw [bne, (kind_lt3 ha ka).2]; rfl, fun w => ?_⟩)
            have d := div_any a a w ha ha
            rw [div_self ha ka z] at d
            exact d
        · exact Or.inr (Or.inl (kind_inf ka))
        · rw [nan_nan ka] at na; cases na
      · cases h : divBad a b
        · have hn := div_notnan h
          refine Or.inr ⟨by rw [kind_nan, hn], ?_⟩
          rw [div_neg ha na h]
          exact xor_neg (divZ_u64 a b) hn
        · refine Or.inl ⟨?_, ?_⟩
          · rw [divZ_bad h]; decide
          · rw [divZ_bad h, divZ_bad (by rw [divBad_neg ha na]; exact h)]
      · cases h : remBad a b
        · have hn := rem_notnan ha hb h
          refine Or.inr ⟨by rw [kind_nan, hn], ?_⟩
          rw [rem_neg ha na h]
          exact xor_neg (remZ_u64 ha) hn
        · refine Or.inl ⟨?_, ?_⟩
          · rw [remZ_bad h]; decide
          · rw [remZ_bad h, remZ_bad (by rw [remBad_neg ha na]; exact h)]
    · exact quoOnes_nan a b w ha hb (Or.inr ⟨a4, by have := kind_nan b; rw [nb] at this; simpa using this⟩)
  · exact quoOnes_nan a b w ha hb (Or.inl (by have := kind_nan a; rw [na] at this; simpa using this))

end Go.Proofs.Ytpgjibfggagbmaa
