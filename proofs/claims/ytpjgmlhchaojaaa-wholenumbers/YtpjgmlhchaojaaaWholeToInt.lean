/-
  The reference's ToInt.
-/
import Derived.Test.YtpjgmlhchaojaaaWholeRef2
namespace Go.Proofs.Ytpjgmlhchaojaaa
open Go.RowKit Dg Flo

/-- The whole number that a number is, or holds. -/
def tz (a : Int) : Int := sz (belowB a) (MZ a / UN)
def toB (a : Int) : Bool := isZ a && (decide (-9223372036854775808 ≤ tz a) && decide (tz a ≤ 9223372036854775807))
def toI (a : Int) : Int := if toB a then tz a else 0

theorem toB_not {a : Int} (h : isZ a = false) : toB a = false ∧ toI a = 0 := by
  have : toB a = false := by unfold toB; rw [h]; rfl
  exact ⟨this, by unfold toI; rw [this]; rfl⟩
theorem toB_out {a : Int} (h : ¬ (-9223372036854775808 ≤ tz a ∧ tz a ≤ 9223372036854775807)) : toB a = false ∧ toI a = 0 := by
  have : toB a = false := by
    unfold toB
    generalize tz a = t at *
    by_cases c : -9223372036854775808 ≤ t
    · rw [decide_eq_true c, decide_eq_false (by omega)]; simp
    · rw [decide_eq_false c]; simp
  exact ⟨this, by unfold toI; rw [this]; rfl⟩
theorem toB_in {a : Int} (h : isZ a = true) (h1 : -9223372036854775808 ≤ tz a) (h2 : tz a ≤ 9223372036854775807) : toB a = true ∧ toI a = tz a := by
  have : toB a = true := by unfold toB; rw [h, decide_eq_true h1, decide_eq_true h2]; rfl
  exact ⟨this, by unfold toI; rw [this]; rfl⟩
theorem blen_fits {n k : Nat} (h : n < 2 ^ k) : blen n ≤ k := by
  unfold blen
  split
  · omega
  · next c => exact (Nat.log2_lt c).2 h
theorem blen_gt {n k : Nat} (h : 2 ^ k ≤ n) : k < blen n := by
  have hp := Nat.two_pow_pos k
  have c : n ≠ 0 := by omega
  unfold blen
  rw [if_neg c]
  have : k ≤ n.log2 := (Nat.le_log2 c).2 h
  omega
theorem low63 {W : Nat} (h : W < 9223372036854775808) : bits .and .u64 (W : Int) 9223372036854775807 = (W : Int) := by
  rw [u64_and _ _ (by omega) (by omega) (by decide) (by decide), Int.toNat_natCast, show (9223372036854775807 : Int).toNat = 2 ^ 63 - 1 from rfl, Nat.and_two_pow_sub_one_eq_mod, Nat.mod_eq_of_lt (by omega)]

set_option maxHeartbeats 2000000 in
theorem refToInt_any (a : Int) (w : World) (ha : U64 a) : Calls Try.prog 14 #[.int .u64 a] w fun e w' => e = .returned (.tuple #[.int .i64 (toI a), .bool (toB a)]) ∧ Below w.heap.size w w' := by
  have HI : Hid _ := fun w => refWhole_is_any a w ha
  have HN : Hid _ := fun w => refNeg_any a w ha
  cases hi : isZ a
  · obtain ⟨t1, t2⟩ := toB_not hi
    rw [t1, t2]
    rw [hi] at HI
    clear t1 t2 hi
    go_enter Try.func14, Try.ntmps14
    go_wp2_with fail
    refine (HI.out _).mono ?_
    rintro e w1 ⟨rfl, hb1⟩
    go_wp2
    go_ret2
    exact ⟨rfl, hb1⟩
  · have h : mag a < 9218868437227405312 := by
      unfold isZ at hi
      simp only [Bool.and_eq_true, decide_eq_true_eq] at hi
      exact hi.1
    have HH : Hid _ := fun w => halves_any a w ha h
    have hl : dlen (MZ a / UN) ≤ 1001 := dlen_whole ha h
    have T0 : Hid (¬ (-9223372036854775808 ≤ tz a ∧ tz a ≤ 9223372036854775807) → toB a = false ∧ toI a = 0) := toB_out
    have T1 : Hid (-9223372036854775808 ≤ tz a → tz a ≤ 9223372036854775807 → toB a = true ∧ toI a = tz a) := toB_in hi
    have ht : tz a = sz (belowB a) (MZ a / UN) := rfl
    rw [hi] at HI
    clear hi h
    generalize toB a = tb at *
    generalize toI a = ti at *
    rw [ht] at T0 T1
    clear ht
    generalize decide (MZ a % UN ≠ 0) = rs at *
    generalize cmpZ (2 * (MZ a % UN)) UN = C at *
    generalize MZ a / UN = W at *
    generalize belowB a = n at *
    have HL : Hid (∀ v w, D w v W (dlen W) → Calls Try.prog 35 #[v] w fun e w' => e = .returned (.int .i64 (blen W : Nat)) ∧ w' = w) := fun v w hD => len_any v W _ w hD (by omega)
    by_cases c : 18446744073709551616 ≤ W
    · have hb := blen_gt (n := W) (k := 64) c
      obtain ⟨t1, t2⟩ := T0.out (by unfold sz; cases n <;> simp <;> omega)
      subst t1 t2
      generalize blen W = B at *
      clear T0 T1 c
      go_enter Try.func14, Try.ntmps14
      go_wp2_with fail
      refine (HI.out _).mono ?_
      rintro e w1 ⟨rfl, hb1⟩
      go_wp2_with fail
      refine (HH.out _).mono ?_
      rintro e w2 ⟨v2, rfl, hd2, hb2⟩
      replace hb2 := hb1.trans (hb2.mono hb1.size)
      go_wp2_with fail
      refine (HL.out _ _ hd2).mono ?_
      rintro e w' ⟨rfl, hw'⟩
      rw [hw']
      clear hw' w'
      go_wp2
      go_ret2
      exact ⟨rfl, hb2⟩
    · have hb := blen_fits (n := W) (k := 64) (by omega)
      have HS : Hid (∀ v w, D w v W (dlen W) → Calls Try.prog 36 #[v] w fun e w' => e = .returned (.int .u64 (W : Nat)) ∧ w' = w) := fun v w hD => small_any v W _ w hD (by omega)
      generalize blen W = B at *
      go_enter Try.func14, Try.ntmps14
      go_wp2_with fail
      refine (HI.out _).mono ?_
      rintro e w1 ⟨rfl, hb1⟩
      go_wp2_with fail
      refine (HH.out _).mono ?_
      rintro e w2 ⟨v2, rfl, hd2, hb2⟩
      replace hb2 := hb1.trans (hb2.mono hb1.size)
      go_wp2_with fail
      refine (HL.out _ _ hd2).mono ?_
      rintro e w' ⟨rfl, hw'⟩
      rw [hw']
      clear hw' w'
      go_wp2_with fail
      refine (HS.out _ _ hd2).mono ?_
      rintro e w' ⟨rfl, hw'⟩
      rw [hw']
      clear hw' w'
      go_wp2_with fail
      refine (HN.out _).mono ?_
      rintro e w' ⟨rfl, hw'⟩
      rw [hw']
      clear hw' w'
      cases n
      · by_cases d : 9223372036854775808 ≤ W
        · obtain ⟨t1, t2⟩ := T0.out (by unfold sz; simp <;> omega)
          subst t1 t2
          have d1 : decide ((9223372036854775808 : Int) ≤ (W : Int)) = true := decide_eq_true (by omega)
          clear T0 T1 c d
          go_wp2
          go_ret2
          exact ⟨rfl, hb2⟩
        · obtain ⟨t1, t2⟩ := T1.out (by unfold sz; simp <;> omega) (by unfold sz; simp <;> omega)
          subst t1
          have t3 : ti = (W : Int) := t2
          subst t3
          have d1 : decide ((9223372036854775808 : Int) ≤ (W : Int)) = false := decide_eq_false (by omega)
          have d2 : (W : Int) < 9223372036854775808 := by omega
          clear T0 T1 t2 c d
          go_wp2
          go_ret2
          exact ⟨rfl, hb2⟩
      · by_cases d : W ≤ 9223372036854775808
        · obtain ⟨t1, t2⟩ := T1.out (by unfold sz; simp <;> omega) (by unfold sz; simp <;> omega)
          subst t1
          have t3 : ti = -(W : Int) := t2
          have d1 : decide ((W : Int) ≤ 9223372036854775808) = true := decide_eq_true (by omega)
          clear T0 T1 t2 c
          by_cases f : W = 9223372036854775808
          · subst f
            subst t3
            have e1 : bits .and .u64 9223372036854775808 9223372036854775807 = 0 := by decide
            go_wp2
            go_ret2
            exact ⟨rfl, hb2⟩
          · subst t3
            have e1 := low63 (W := W) (by omega)
            have e2 : (W : Int) / 9223372036854775808 = 0 := by omega
            have d2 : (W : Int) < 9223372036854775808 := by omega
            clear d f
            go_wp2
            go_ret2
            exact ⟨rfl, hb2⟩
        · obtain ⟨t1, t2⟩ := T0.out (by unfold sz; simp <;> omega)
          subst t1 t2
          have d1 : decide ((W : Int) ≤ 9223372036854775808) = false := decide_eq_false (by omega)
          have d2 : decide ((9223372036854775808 : Int) ≤ (W : Int)) = true := decide_eq_true (by omega)
          clear T0 T1 c d
          go_wp2
          go_ret2
          exact ⟨rfl, hb2⟩

end Go.Proofs.Ytpjgmlhchaojaaa
