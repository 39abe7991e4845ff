/-
  The walks of layer 3: what Div and Sqrt answer.
-/
import Derived.Test.YtpgjibfggagbmaaQuoLaws
namespace Go.Proofs.Ytpgjibfggagbmaa
open Go.RowKit Flo

theorem divZ_u64 (a b : Int) : U64 (divZ a b) := by
  have h : quoR (MZ a) (MZ b) ≤ 9218868437227405312 := rung_le _ _
  generalize hr : quoR (MZ a) (MZ b) = r at h
  unfold divZ U64 sgn
  rw [hr]
  split
  · decide
  · split
    · cases belowB a ^^ belowB b <;> decide
    · split
      · cases belowB a ^^ belowB b <;> decide
      · cases belowB a ^^ belowB b <;> simp <;> omega
theorem canon_sgn (s : Bool) {r : Nat} (h : r ≤ 9218868437227405312) : canonZ (sgn s + (r : Int)) = sgn s + (r : Int) := by
  unfold canonZ
  rw [(word_sv h).2]; rfl
theorem divZ_canon (a b : Int) : canonZ (divZ a b) = divZ a b := by
  have h : quoR (MZ a) (MZ b) ≤ 9218868437227405312 := rung_le _ _
  generalize hr : quoR (MZ a) (MZ b) = r at h
  unfold divZ
  rw [hr]
  split
  · decide
  · split
    · exact canon_sgn _ (Nat.le_refl _)
    · split
      · have := canon_sgn (belowB a ^^ belowB b) (Nat.zero_le 9218868437227405312)
        simpa using this
      · exact canon_sgn _ h
theorem rootZ_canon (a : Int) : canonZ (rootZ a) = rootZ a := by
  cases h : rootBad a
  · have hn : nanB a = false := by unfold rootBad at h; revert h; cases nanB a <;> simp
    have hr : rootR (MZ a) ≤ 9218868437227405312 := rung_le _ _
    unfold rootZ
    rw [h]
    simp only [Bool.false_eq_true, if_false]
    split
    · unfold canonZ; rw [hn]; rfl
    · have := canon_sgn false hr
      unfold sgn at this
      simpa using this
  · rw [rootZ_bad h]; decide

theorem quoFloat_any (a : Int) (w : World) : Calls Try.prog 24 #[.int .u64 a] w fun e w' => e = .returned (.float .f64 a.toNat) ∧ w' = w := by
  have hf := frombits_run a
  go_enter Try.func24, Try.ntmps24
  go_wp2
  go_ret
  exact ⟨rfl, rfl⟩
theorem quoOneNaN_any (n : Nat) (w : World) (h : n < 18446744073709551616) : Calls Try.prog 23 #[.float .f64 n] w fun e w' => e = .returned (.int .u64 (canonZ n)) ∧ w' = w := by
  have hf := bits_run n
  go_enter Try.func23, Try.ntmps23
  go_wp2_with fail
  refine (canon_any _ _ ⟨by omega, by omega⟩).mono ?_
  rintro e w' ⟨rfl, rfl⟩
  go_wp2
  go_ret
  exact ⟨rfl, rfl⟩

theorem div_any (a b : Int) (w : World) (ha : U64 a) (hb : U64 b) : Calls Try.prog 9 #[.int .u64 a, .int .u64 b] w fun e w' => e = .returned (.int .u64 (divZ a b)) ∧ Below w.heap.size w w' := by
  have h : floatBits .quo .f64 a.toNat b.toNat = some (divZ a b).toNat ∨ (floatBits .quo .f64 a.toNat b.toNat = none ∧ divZ a b = 9221120237041090560) := by
    cases c : divBad a b
    · exact Or.inl (div_some ha hb c)
    · exact Or.inr ⟨div_none ha hb c, divZ_bad c⟩
  obtain ⟨n, w1, hn, hc, hw, hop⟩ := float_op .quo a.toNat b.toNat (divZ a b) w (by simp) (divZ_u64 a b) (divZ_canon a b) h
  rw [← hc]
  clear h hc
  go_enter Try.func9, Try.ntmps9
  go_wp2_with fail
  refine (quoFloat_any _ _).mono ?_
  rintro e w' ⟨rfl, hw'⟩
  rw [hw']
  clear hw' w'
  go_wp2_with fail
  refine (quoFloat_any _ _).mono ?_
  rintro e w' ⟨rfl, hw'⟩
  rw [hw']
  clear hw' w'
  go_wp2_with fail
  refine (quoOneNaN_any _ _ hn).mono ?_
  rintro e w' ⟨rfl, hw'⟩
  rw [hw']
  clear hw' w'
  go_wp2
  go_ret
  exact ⟨rfl, hw⟩

theorem sqrt_ext (x : Nat) : Extern.MathSqrt.sqrt #[.float .f64 x] = (match FloatKind.f64.format.sqrt x with | some r => pure (.float .f64 r) | none => do pure (.float .f64 (← choose (.nanBits .f64 x x)))) := rfl
/-- The root of a float, or some NaN. -/
theorem sqrt_run (a : Int) (w : World) (ha : U64 a) : ∃ (n : Nat) (w' : World), n < 18446744073709551616 ∧ canonZ n = rootZ a ∧ Below w.heap.size w w' ∧ (callFunc 56 #[.float .f64 a.toNat]).run Try.prog w = .ok (.value (.float .f64 n)) w' := by
  have hrun := run_callFunc_extern (P := Try.prog) (f := 56) (e := Extern.MathSqrt.sqrt) Try.func56 (by kernel_rfl) (by kernel_rfl) (by kernel_rfl) (by kernel_rfl) #[.float .f64 a.toNat] w
  cases h : rootBad a
  · have hs : FloatKind.f64.format.sqrt a.toNat = some (rootZ a).toNat := root_some ha h
    have hu := rootZ_u64 ha
    refine ⟨(rootZ a).toNat, w, u64_toNat hu, ?_, Below.refl _ _, ?_⟩
    · rw [show (((rootZ a).toNat : Nat) : Int) = rootZ a by have := hu.1; omega]
      exact rootZ_canon a
    · rw [hrun, sqrt_ext, hs]
      rfl
  · have hs : FloatKind.f64.format.sqrt a.toNat = none := root_none ha h
    refine ⟨(Question.nanBits .f64 a.toNat a.toNat).cut (w.tape w.drawn (.nanBits .f64 a.toNat a.toNat)), w.drew, ?_, ?_, (Below.refl _ _).drew, ?_⟩
    · simp only [Question.cut]; omega
    · rw [rootZ_bad h]
      have : nanB (((Question.nanBits .f64 a.toNat a.toNat).cut (w.tape w.drawn (.nanBits .f64 a.toNat a.toNat)) : Nat) : Int) = true := by
        simp only [Question.cut]
        generalize w.tape w.drawn (.nanBits .f64 a.toNat a.toNat) = t
        unfold nanB mag
        rw [decide_eq_true_eq]
        split <;> omega
      unfold canonZ
      rw [this]; rfl
    · have hq : (Question.nanBits .f64 a.toNat a.toNat).forced = false := rfl
      rw [hrun, sqrt_ext, hs]
      simp [hq]

theorem mathSqrt_any (a : Int) (w : World) (ha : U64 a) : Calls Try.prog 37 #[.float .f64 a.toNat] w fun e w' => ∃ n : Nat, e = .returned (.float .f64 n) ∧ n < 18446744073709551616 ∧ canonZ n = rootZ a ∧ Below w.heap.size w w' := by
  obtain ⟨n, w1, h1, h2, h3, h4⟩ := sqrt_run a w ha
  have H2 : Hid (canonZ n = rootZ a) := h2
  clear h2
  go_enter Try.func37, Try.ntmps37
  go_wp2
  go_ret
  exact ⟨n, rfl, h1, H2.out, h3⟩

theorem sqrt_any (a : Int) (w : World) (ha : U64 a) : Calls Try.prog 19 #[.int .u64 a] w fun e w' => e = .returned (.int .u64 (rootZ a)) ∧ Below w.heap.size w w' := by
  go_enter Try.func19, Try.ntmps19
  go_wp2_with fail
  refine (quoFloat_any _ _).mono ?_
  rintro e w' ⟨rfl, hw'⟩
  rw [hw']
  clear hw' w'
  go_wp2_with fail
  refine (mathSqrt_any _ _ ha).mono ?_
  rintro e w1 ⟨n, rfl, hn, hc, hw⟩
  have HC : Hid _ := hc
  clear hc
  go_wp2_with fail
  refine (quoOneNaN_any _ _ hn).mono ?_
  rintro e w' ⟨rfl, hw'⟩
  rw [hw']
  clear hw' w'
  go_wp2
  go_ret
  exact ⟨by rw [HC.out]; rfl, hw⟩

theorem lives_div : divZ 4607182418800017408 4613937818241073152 = 4599676419421066581 := by decide +kernel

theorem lives_root : rootZ 4611686018427387904 = 4609047870845172685 := by
  have hm : mag 4611686018427387904 = 4611686018427387904 := by decide
  have hz : MZ 4611686018427387904 = 4503599627370496 * 2 ^ 1023 := by
    unfold MZ
    rw [hm, show (4611686018427387904 : Int).toNat = 1023 * 4503599627370496 + 4503599627370496 by decide, M_at (by decide) (Or.inr (by decide))]
  have hx : IsRoot (4503599627370496 * 2 ^ 57) 25476206690103090 := by unfold IsRoot; decide
  have hr := root_at (m := 4503599627370496) (i := 1023) (c := 57) (g := 64) (E := 1083) (x := 25476206690103090) (by decide) hx (by decide) (by decide) (by decide)
  rw [rootZ_fin (by decide) (by decide) (by decide), hz, ← hr]
  decide +kernel

theorem quoLives_any (w : World) : Calls Try.prog 11 #[] w fun e w' => e = .returned (.bool true) ∧ Below w.heap.size w w' := by
  have h1 := fun w => div_any 4607182418800017408 4613937818241073152 w ⟨by decide, by decide⟩ ⟨by decide, by decide⟩
  rw [lives_div] at h1
  have h2 := fun w => sqrt_any 4611686018427387904 w ⟨by decide, by decide⟩
  rw [lives_root] at h2
  have H1 : Hid _ := h1
  have H2 : Hid _ := h2
  clear h1 h2
  go_enter Try.func11, Try.ntmps11
  go_wp2_with fail
  refine (H1.out _).mono ?_
  rintro e w1 ⟨rfl, hb1⟩
  go_wp2_with fail
  refine (H2.out _).mono ?_
  rintro e w2 ⟨rfl, hb2⟩
  go_wp2
  go_ret
  exact ⟨rfl, hb1.trans (hb2.mono hb1.size)⟩

end Go.Proofs.Ytpgjibfggagbmaa
