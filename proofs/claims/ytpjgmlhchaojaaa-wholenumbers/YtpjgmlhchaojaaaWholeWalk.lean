/-
  The walks of layer 4: what Trunc, Floor, Ceil, Near, Is, ToInt, FromInt answer.
-/
import Derived.Test.YtpjgmlhchaojaaaWholeModel
namespace Go.Proofs.Ytpjgmlhchaojaaa
open Go.RowKit Dg Flo

theorem wholeFloat_any (a : Int) (w : World) : Calls Try.prog 31 #[.int .u64 a] w fun e w' => e = .returned (.float .f64 a.toNat) ∧ w' = w := by
  have hf := frombits_run a
  go_enter Try.func31, Try.ntmps31
  go_wp2
  go_ret
  exact ⟨rfl, rfl⟩
theorem wholeOneNaN_any (n : Nat) (w : World) (h : n < 18446744073709551616) : Calls Try.prog 28 #[.float .f64 n] w fun e w' => e = .returned (.int .u64 (canonZ n)) ∧ w' = w := by
  have hf := bits_run n
  go_enter Try.func28, Try.ntmps28
  go_wp2_with fail
  refine (canon_any _ _ ⟨by omega, by omega⟩).mono ?_
  rintro e w' ⟨rfl, rfl⟩
  go_wp2
  go_ret
  exact ⟨rfl, rfl⟩

theorem archTrunc_run (a : Int) (w : World) (ha : U64 a) : ∃ (n : Nat) (w' : World), n < 18446744073709551616 ∧ canonZ n = wholeZ 0 a ∧ Below w.heap.size w w' ∧ (callFunc 52 #[.float .f64 a.toNat]).run Try.prog w = .ok (.value (.float .f64 n)) w' := by
  have hrun := run_callFunc_extern (P := Try.prog) (f := 52) (e := Extern.MathFloor.toIntegral "math.archTrunc" .zero) Try.func52 (by kernel_rfl) (by kernel_rfl) (by kernel_rfl) (by kernel_rfl) #[.float .f64 a.toNat] w
  obtain ⟨n, w', h1, h2, h3, h4⟩ := integral_run (how := 0) "math.archTrunc" (way := .zero) (Or.inl ⟨rfl, rfl⟩) a ha w
  refine ⟨n, w', h1, h2, h3, ?_⟩
  rw [hrun, h4]
  rfl
theorem mathTrunc_any (a : Int) (w : World) (ha : U64 a) : Calls Try.prog 33 #[.float .f64 a.toNat] w fun e w' => ∃ n : Nat, e = .returned (.float .f64 n) ∧ n < 18446744073709551616 ∧ canonZ n = wholeZ 0 a ∧ Below w.heap.size w w' := by
  obtain ⟨n, w1, h1, h2, h3, h4⟩ := archTrunc_run a w ha
  have H2 : Hid (canonZ n = wholeZ 0 a) := h2
  clear h2
  go_enter Try.func33, Try.ntmps33
  go_wp2
  go_ret
  exact ⟨n, rfl, h1, H2.out, h3⟩

theorem archFloor_run (a : Int) (w : World) (ha : U64 a) : ∃ (n : Nat) (w' : World), n < 18446744073709551616 ∧ canonZ n = wholeZ 1 a ∧ Below w.heap.size w w' ∧ (callFunc 59 #[.float .f64 a.toNat]).run Try.prog w = .ok (.value (.float .f64 n)) w' := by
  have hrun := run_callFunc_extern (P := Try.prog) (f := 59) (e := Extern.MathFloor.toIntegral "math.archFloor" .down) Try.func59 (by kernel_rfl) (by kernel_rfl) (by kernel_rfl) (by kernel_rfl) #[.float .f64 a.toNat] w
  obtain ⟨n, w', h1, h2, h3, h4⟩ := integral_run (how := 1) "math.archFloor" (way := .down) (Or.inr (Or.inl ⟨rfl, rfl⟩)) a ha w
  refine ⟨n, w', h1, h2, h3, ?_⟩
  rw [hrun, h4]
  rfl
theorem mathFloor_any (a : Int) (w : World) (ha : U64 a) : Calls Try.prog 39 #[.float .f64 a.toNat] w fun e w' => ∃ n : Nat, e = .returned (.float .f64 n) ∧ n < 18446744073709551616 ∧ canonZ n = wholeZ 1 a ∧ Below w.heap.size w w' := by
  obtain ⟨n, w1, h1, h2, h3, h4⟩ := archFloor_run a w ha
  have H2 : Hid (canonZ n = wholeZ 1 a) := h2
  clear h2
  go_enter Try.func39, Try.ntmps39
  go_wp2
  go_ret
  exact ⟨n, rfl, h1, H2.out, h3⟩

theorem archCeil_run (a : Int) (w : World) (ha : U64 a) : ∃ (n : Nat) (w' : World), n < 18446744073709551616 ∧ canonZ n = wholeZ 2 a ∧ Below w.heap.size w w' ∧ (callFunc 61 #[.float .f64 a.toNat]).run Try.prog w = .ok (.value (.float .f64 n)) w' := by
  have hrun := run_callFunc_extern (P := Try.prog) (f := 61) (e := Extern.MathFloor.toIntegral "math.archCeil" .up) Try.func61 (by kernel_rfl) (by kernel_rfl) (by kernel_rfl) (by kernel_rfl) #[.float .f64 a.toNat] w
  obtain ⟨n, w', h1, h2, h3, h4⟩ := integral_run (how := 2) "math.archCeil" (way := .up) (Or.inr (Or.inr (Or.inl ⟨rfl, rfl⟩))) a ha w
  refine ⟨n, w', h1, h2, h3, ?_⟩
  rw [hrun, h4]
  rfl
theorem mathCeil_any (a : Int) (w : World) (ha : U64 a) : Calls Try.prog 40 #[.float .f64 a.toNat] w fun e w' => ∃ n : Nat, e = .returned (.float .f64 n) ∧ n < 18446744073709551616 ∧ canonZ n = wholeZ 2 a ∧ Below w.heap.size w w' := by
  obtain ⟨n, w1, h1, h2, h3, h4⟩ := archCeil_run a w ha
  have H2 : Hid (canonZ n = wholeZ 2 a) := h2
  clear h2
  go_enter Try.func40, Try.ntmps40
  go_wp2
  go_ret
  exact ⟨n, rfl, h1, H2.out, h3⟩

theorem archRoundToEven_run (a : Int) (w : World) (ha : U64 a) : ∃ (n : Nat) (w' : World), n < 18446744073709551616 ∧ canonZ n = wholeZ 3 a ∧ Below w.heap.size w w' ∧ (callFunc 41 #[.float .f64 a.toNat]).run Try.prog w = .ok (.value (.float .f64 n)) w' := by
  have hrun := run_callFunc_extern (P := Try.prog) (f := 41) (e := Extern.MathFloor.toIntegral "math.RoundToEven" .even) Try.func41 (by kernel_rfl) (by kernel_rfl) (by kernel_rfl) (by kernel_rfl) #[.float .f64 a.toNat] w
  obtain ⟨n, w', h1, h2, h3, h4⟩ := integral_run (how := 3) "math.RoundToEven" (way := .even) (Or.inr (Or.inr (Or.inr ⟨rfl, rfl⟩))) a ha w
  refine ⟨n, w', h1, h2, h3, ?_⟩
  rw [hrun, h4]
  rfl

theorem trunc_any (a : Int) (w : World) (ha : U64 a) : Calls Try.prog 17 #[.int .u64 a] w fun e w' => e = .returned (.int .u64 (wholeZ 0 a)) ∧ Below w.heap.size w w' := by
  go_enter Try.func17, Try.ntmps17
  go_wp2_with fail
  refine (wholeFloat_any _ _).mono ?_
  rintro e w' ⟨rfl, hw'⟩
  rw [hw']
  clear hw' w'
  go_wp2_with fail
  refine (mathTrunc_any _ _ ha).mono ?_
  rintro e w1 ⟨n, rfl, hn, hc, hw⟩
  have HC : Hid _ := hc
  clear hc
  go_wp2_with fail
  refine (wholeOneNaN_any _ _ hn).mono ?_
  rintro e w' ⟨rfl, hw'⟩
  rw [hw']
  clear hw' w'
  go_wp2
  go_ret
  exact ⟨by rw [HC.out]; rfl, hw⟩
theorem floor_any (a : Int) (w : World) (ha : U64 a) : Calls Try.prog 18 #[.int .u64 a] w fun e w' => e = .returned (.int .u64 (wholeZ 1 a)) ∧ Below w.heap.size w w' := by
  go_enter Try.func18, Try.ntmps18
  go_wp2_with fail
  refine (wholeFloat_any _ _).mono ?_
  rintro e w' ⟨rfl, hw'⟩
  rw [hw']
  clear hw' w'
  go_wp2_with fail
  refine (mathFloor_any _ _ ha).mono ?_
  rintro e w1 ⟨n, rfl, hn, hc, hw⟩
  have HC : Hid _ := hc
  clear hc
  go_wp2_with fail
  refine (wholeOneNaN_any _ _ hn).mono ?_
  rintro e w' ⟨rfl, hw'⟩
  rw [hw']
  clear hw' w'
  go_wp2
  go_ret
  exact ⟨by rw [HC.out]; rfl, hw⟩
theorem ceil_any (a : Int) (w : World) (ha : U64 a) : Calls Try.prog 19 #[.int .u64 a] w fun e w' => e = .returned (.int .u64 (wholeZ 2 a)) ∧ Below w.heap.size w w' := by
  go_enter Try.func19, Try.ntmps19
  go_wp2_with fail
  refine (wholeFloat_any _ _).mono ?_
  rintro e w' ⟨rfl, hw'⟩
  rw [hw']
  clear hw' w'
  go_wp2_with fail
  refine (mathCeil_any _ _ ha).mono ?_
  rintro e w1 ⟨n, rfl, hn, hc, hw⟩
  have HC : Hid _ := hc
  clear hc
  go_wp2_with fail
  refine (wholeOneNaN_any _ _ hn).mono ?_
  rintro e w' ⟨rfl, hw'⟩
  rw [hw']
  clear hw' w'
  go_wp2
  go_ret
  exact ⟨by rw [HC.out]; rfl, hw⟩
theorem near_any (a : Int) (w : World) (ha : U64 a) : Calls Try.prog 20 #[.int .u64 a] w fun e w' => e = .returned (.int .u64 (wholeZ 3 a)) ∧ Below w.heap.size w w' := by
  obtain ⟨n, w1, hn, hc, hw, h4⟩ := archRoundToEven_run a w ha
  have HC : Hid (canonZ n = wholeZ 3 a) := hc
  clear hc
  go_enter Try.func20, Try.ntmps20
  go_wp2_with fail
  refine (wholeFloat_any _ _).mono ?_
  rintro e w' ⟨rfl, hw'⟩
  rw [hw']
  clear hw' w'
  go_wp2_with fail
  refine (wholeOneNaN_any _ _ hn).mono ?_
  rintro e w' ⟨rfl, hw'⟩
  rw [hw']
  clear hw' w'
  go_wp2
  go_ret
  exact ⟨by rw [HC.out]; rfl, hw⟩

theorem from_canon (n : Int) : canonZ (fromZ n) = fromZ n := by
  have h := rung_le 0 (n.natAbs * UN)
  unfold fromZ canonZ
  rw [(word_sv h).2]; rfl
theorem fromInt_any (n : Int) (w : World) : Calls Try.prog 8 #[.int .i64 n] w fun e w' => e = .returned (.int .u64 (fromZ n)) ∧ Below w.heap.size w w' := by
  have hu := (fromZ_u64 n).2
  have hc := from_canon n
  have hb := fun w => wholeOneNaN_any (floatOfInt .f64 n) w (by rw [← float_of_int] at hu; exact Int.ofNat_lt.mp hu)
  rw [float_of_int, hc] at hb
  have HB : Hid _ := hb
  clear hb hc hu
  generalize fromZ n = R at *
  go_enter Try.func8, Try.ntmps8
  go_wp2_with fail
  refine (HB.out _).mono ?_
  rintro e w' ⟨rfl, hw'⟩
  rw [hw']
  clear hw' w'
  go_wp2
  go_ret
  exact ⟨rfl, Below.refl _ _⟩

end Go.Proofs.Ytpjgmlhchaojaaa
