/-
  The reference's Trunc, Floor, Ceil, Near, Is, FromInt, Size, ToInt, Apart.
-/
import Derived.Test.YtpjgmlhchaojaaaWholeRef
namespace Go.Proofs.Ytpjgmlhchaojaaa
open Go.RowKit Dg Flo

theorem whole_canon {how : Nat} {a : Int} (h : ¬ mag a < 9218868437227405312) : wholeZ how a = canonZ a := by
  rcases kindsZ a with k | k | k
  · exact absurd k h
  · rw [wholeZ_inf (inf_inf k)]; unfold canonZ; rw [inf_nan k]; rfl
  · rw [wholeZ_nan (nan_nan k)]; unfold canonZ; rw [nan_nan k]; rfl
theorem kind_ge3 {a : Int} (h : ¬ mag a < 9218868437227405312) : decide (3 ≤ kindZ a) = true := by
  rcases kindsZ a with k | k | k
  · exact absurd k h
  · rw [kind_inf k]; rfl
  · rw [kind_nan4 k]; rfl
theorem round_wide (a K : Int) (w : World) (ha : U64 a) (h : ¬ mag a < 9218868437227405312) :
    Calls Try.prog 42 #[.int .u64 a, .int .i64 K] w fun e w' => e = .returned (.int .u64 (canonZ a)) ∧ Below w.heap.size w w' := by
  have hk := kind_ge3 h
  have HK : Hid _ := fun w => refKind_any a w ha
  have HC : Hid _ := fun w => refCanon_any a w ha
  generalize kindZ a = k at *
  clear h
  go_enter Try.func42, Try.ntmps42
  go_wp2_with fail
  refine (HK.out _).mono ?_
  rintro e w' ⟨rfl, hw'⟩
  rw [hw']
  clear hw' w'
  go_wp2_with fail
  refine (HC.out _).mono ?_
  rintro e w' ⟨rfl, hw'⟩
  rw [hw']
  clear hw' w'
  go_wp2
  go_ret
  exact ⟨rfl, Below.refl _ _⟩
theorem refTrunc_any (a : Int) (w : World) (ha : U64 a) : Calls Try.prog 21 #[.int .u64 a] w fun e w' => e = .returned (.int .u64 (wholeZ 0 a)) ∧ Below w.heap.size w w' := by
  have H : Hid (∀ w, Calls Try.prog 42 #[.int .u64 a, .int .i64 0] w fun e w' => e = .returned (.int .u64 (wholeZ 0 a)) ∧ Below w.heap.size w w') := by
    intro w
    by_cases h : mag a < 9218868437227405312
    · exact round_fin0 a w ha h
    · rw [whole_canon h]; exact round_wide a 0 w ha h
  generalize wholeZ 0 a = R at *
  go_enter Try.func21, Try.ntmps21
  go_wp2_with fail
  refine (H.out _).mono ?_
  rintro e w1 ⟨rfl, hb⟩
  go_wp2
  go_ret
  exact ⟨rfl, hb⟩
theorem refFloor_any (a : Int) (w : World) (ha : U64 a) : Calls Try.prog 22 #[.int .u64 a] w fun e w' => e = .returned (.int .u64 (wholeZ 1 a)) ∧ Below w.heap.size w w' := by
  have H : Hid (∀ w, Calls Try.prog 42 #[.int .u64 a, .int .i64 1] w fun e w' => e = .returned (.int .u64 (wholeZ 1 a)) ∧ Below w.heap.size w w') := by
    intro w
    by_cases h : mag a < 9218868437227405312
    · exact round_fin1 a w ha h
    · rw [whole_canon h]; exact round_wide a 1 w ha h
  generalize wholeZ 1 a = R at *
  go_enter Try.func22, Try.ntmps22
  go_wp2_with fail
  refine (H.out _).mono ?_
  rintro e w1 ⟨rfl, hb⟩
  go_wp2
  go_ret
  exact ⟨rfl, hb⟩
theorem refCeil_any (a : Int) (w : World) (ha : U64 a) : Calls Try.prog 23 #[.int .u64 a] w fun e w' => e = .returned (.int .u64 (wholeZ 2 a)) ∧ Below w.heap.size w w' := by
  have H : Hid (∀ w, Calls Try.prog 42 #[.int .u64 a, .int .i64 2] w fun e w' => e = .returned (.int .u64 (wholeZ 2 a)) ∧ Below w.heap.size w w') := by
    intro w
    by_cases h : mag a < 9218868437227405312
    · exact round_fin2 a w ha h
    · rw [whole_canon h]; exact round_wide a 2 w ha h
  generalize wholeZ 2 a = R at *
  go_enter Try.func23, Try.ntmps23
  go_wp2_with fail
  refine (H.out _).mono ?_
  rintro e w1 ⟨rfl, hb⟩
  go_wp2
  go_ret
  exact ⟨rfl, hb⟩
theorem refNear_any (a : Int) (w : World) (ha : U64 a) : Calls Try.prog 24 #[.int .u64 a] w fun e w' => e = .returned (.int .u64 (wholeZ 3 a)) ∧ Below w.heap.size w w' := by
  have H : Hid (∀ w, Calls Try.prog 42 #[.int .u64 a, .int .i64 3] w fun e w' => e = .returned (.int .u64 (wholeZ 3 a)) ∧ Below w.heap.size w w') := by
    intro w
    by_cases h : mag a < 9218868437227405312
    · exact round_fin3 a w ha h
    · rw [whole_canon h]; exact round_wide a 3 w ha h
  generalize wholeZ 3 a = R at *
  go_enter Try.func24, Try.ntmps24
  go_wp2_with fail
  refine (H.out _).mono ?_
  rintro e w1 ⟨rfl, hb⟩
  go_wp2
  go_ret
  exact ⟨rfl, hb⟩

theorem refWhole_is_any (a : Int) (w : World) (ha : U64 a) : Calls Try.prog 15 #[.int .u64 a] w fun e w' => e = .returned (.bool (isZ a)) ∧ Below w.heap.size w w' := by
  have HK : Hid _ := fun w => refKind_any a w ha
  by_cases h : mag a < 9218868437227405312
  · have hk : decide (3 ≤ kindZ a) = false := by
      rcases kind_fin h (mag_range ha).1 with ⟨_, k⟩ | ⟨_, _, k⟩ | ⟨_, k⟩ <;> rw [k] <;> decide
    have HH : Hid _ := fun w => halves_any a w ha h
    have e : isZ a = !decide (MZ a % UN ≠ 0) := by
      unfold isZ; rw [decide_eq_true h]; simp
    rw [e]
    generalize decide (MZ a % UN ≠ 0) = rs at *
    generalize cmpZ (2 * (MZ a % UN)) UN = C at *
    generalize MZ a / UN = W at *
    generalize kindZ a = k at *
    clear h e
    go_enter Try.func15, Try.ntmps15
    go_wp2_with fail
    refine (HK.out _).mono ?_
    rintro e w' ⟨rfl, hw'⟩
    rw [hw']
    clear hw' w'
    go_wp2_with fail
    refine (HH.out _).mono ?_
    rintro e w1 ⟨v1, rfl, hd1, hb1⟩
    go_wp2
    go_ret
    exact ⟨rfl, hb1⟩
  · have hk := kind_ge3 h
    have e : isZ a = false := by unfold isZ; rw [decide_eq_false h]; rfl
    rw [e]
    generalize kindZ a = k at *
    clear h e
    go_enter Try.func15, Try.ntmps15
    go_wp2_with fail
    refine (HK.out _).mono ?_
    rintro e w' ⟨rfl, hw'⟩
    rw [hw']
    clear hw' w'
    go_wp2
    go_ret
    exact ⟨rfl, Below.refl _ _⟩

theorem size_any (n : Int) (w : World) (h0 : -9223372036854775808 ≤ n) (h1 : n ≤ 9223372036854775807) : Calls Try.prog 12 #[.int .i64 n] w fun e w' => e = .returned (.int .u64 (n.natAbs : Nat)) ∧ w' = w := by
  by_cases c : n < 0
  · rw [show ((n.natAbs : Nat) : Int) = -(n + 1) + 1 by omega]
    go_enter Try.func12, Try.ntmps12
    go_wp2
    go_ret
    exact ⟨rfl, rfl⟩
  · rw [show ((n.natAbs : Nat) : Int) = n by omega]
    go_enter Try.func12, Try.ntmps12
    go_wp2
    go_ret
    exact ⟨rfl, rfl⟩

/-- The number nearest to a whole number. -/
def fromZ (n : Int) : Int := sgn (decide (n < 0)) + (rung 0 (n.natAbs * UN) : Nat)

theorem refFromInt_any (n : Int) (w : World) (h0 : -9223372036854775808 ≤ n) (h1 : n ≤ 9223372036854775807) : Calls Try.prog 9 #[.int .i64 n] w fun e w' => e = .returned (.int .u64 (fromZ n)) ∧ Below w.heap.size w w' := by
  have HS : Hid _ := fun w => size_any n w h0 h1
  have hN : n.natAbs < 18446744073709551616 := by omega
  have HR : Hid (∀ v l w, D w v n.natAbs l → l ≤ 1048576 → Calls Try.prog 29 #[.bool (decide (n < 0)), .int .i64 0, v, .bool false] w fun e w' => e = .returned (.int .u64 (fromZ n)) ∧ Below w.heap.size w w') := fun v l w hD hl => round_un v _ l _ w hD hl
  generalize fromZ n = R at *
  generalize n.natAbs = N at *
  generalize hs : decide (n < 0) = s at *
  go_enter Try.func9, Try.ntmps9
  go_wp2_with fail
  refine (HS.out _).mono ?_
  rintro e w' ⟨rfl, hw'⟩
  rw [hw']
  clear hw' w'
  go_wp2_with fail
  refine (digits_any N _ hN).mono ?_
  rintro e w1 ⟨v1, rfl, hd1, hb1⟩
  go_wp2_with fail
  refine (HR.out _ _ _ hd1 (by decide)).mono ?_
  rintro e w2 ⟨rfl, hb2⟩
  go_wp2
  go_ret
  exact ⟨rfl, hb1.trans (hb2.mono hb1.size)⟩

theorem apart_any (a b : Int) (w : World) (ha : U64 a) (hb : U64 b) : Calls Try.prog 27 #[.int .u64 a, .int .u64 b] w fun e w' => e = .returned (.int .u64 (subZ a b)) ∧ Below w.heap.size w w' := by
  have H : Hid _ := fun w => refSub_any a b w ha hb
  generalize subZ a b = R at *
  go_enter Try.func27, Try.ntmps27
  go_wp2_with fail
  refine (H.out _).mono ?_
  rintro e w1 ⟨rfl, hb⟩
  go_wp2
  go_ret
  exact ⟨rfl, hb⟩

end Go.Proofs.Ytpjgmlhchaojaaa
