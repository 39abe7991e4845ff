/-
  The statement QuoRests.
-/
import Derived.Test.YtpgjibfggagbmaaQuoRest
namespace Go.Proofs.Ytpgjibfggagbmaa
open Go.RowKit Dg Flo

set_option maxHeartbeats 1000000 in
theorem quoRests_walk (a b : Int) (w : World) (ha : U64 a) (hb : U64 b) :
    Calls Try.prog 4 #[.int .u64 a, .int .u64 b] w fun e w' => e = .returned (.bool true) ∧ Below w.heap.size w w' := by
  have A1 : Hid (∀ w, _) := fun w => rem_any a b w ha hb
  have A2 : Hid (∀ w, _) := fun w => mod_any a b w ha hb
  have B1 : Hid (∀ w, _) := fun w => refRem_any a b w ha hb
  have B2 : Hid (∀ w, _) := fun w => refMod_any a b w ha hb
  have ur := remZ_u64 (b := b) ha
  have um := modZ_u64 ha hb
  have nb := andNot_sign b hb
  have nr := andNot_sign (remZ a b) ur
  have cs : (kindZ (remZ a b) = 4 ∧ modZ a b = remZ a b) ∨ ((kindZ (remZ a b) == 4) = false ∧ lessB (mag (remZ a b)) (mag b) = true ∧ belowB (modZ a b) = belowB b) := by
    cases h : nanB (remZ a b)
    · rcases rem_cases ha hb with ⟨k, _⟩ | ⟨k1, k2, k3, k4, k5, k6, k7⟩
      · rw [k, nan_word] at h; cases h
      · refine Or.inr ⟨by rw [kind_nan, h], ?_, mod_sign ha hb h⟩
        rw [less_mag ur hb h k6]
        exact decide_eq_true k3
    · exact Or.inl ⟨by have := kind_nan (remZ a b); rw [h] at this; simpa using this, mod_nan h⟩
  have HL : Hid (∀ w, _) := fun w => refLess_any (mag (remZ a b)) (mag b) w (mag_u64 ur) (mag_u64 hb)
  have N1 : Hid (∀ w, _) := fun w => refNeg_any (modZ a b) w um
  have N2 : Hid (∀ w, _) := fun w => refNeg_any b w hb
  generalize remZ a b = r at *
  generalize modZ a b = m at *
  generalize mag r = mr at *
  generalize mag b = mb at *
  rcases cs with ⟨c1, c2⟩ | ⟨c1, c2, c3⟩
  · subst c2
    go_enter Try.func4, Try.ntmps4
    go_wp2_with fail
    refine (A1.out _).mono ?_
    rintro e w1 ⟨rfl, hb1⟩
    go_wp2_with fail
    refine (A2.out _).mono ?_
    rintro e w2 ⟨rfl, hb2⟩
    replace hb2 := hb1.trans (hb2.mono hb1.size)
    go_wp2_with fail
    refine (B1.out _).mono ?_
    rintro e w3 ⟨rfl, hb3⟩
    replace hb3 := hb2.trans (hb3.mono hb2.size)
    go_wp2_with fail
    refine (B2.out _).mono ?_
    rintro e w4 ⟨rfl, hb4⟩
    replace hb4 := hb3.trans (hb4.mono hb3.size)
    clear hb1 hb2 hb3 A1 A2 B1 B2
    go_wp2_with fail
    refine (refKind_any _ _ um).mono ?_
    rintro e w' ⟨rfl, hw'⟩
    rw [hw']
    clear hw' w'
    go_wp2_with fail
    refine (quoLives_any _).mono ?_
    rintro e w7 ⟨rfl, hb7⟩
    go_wp2
    go_ret
    exact ⟨rfl, hb4.trans (hb7.mono hb4.size)⟩
  · generalize belowB m = x at *
    generalize belowB b = y at *
    subst c3
    go_enter Try.func4, Try.ntmps4
    go_wp2_with fail
    refine (A1.out _).mono ?_
    rintro e w1 ⟨rfl, hb1⟩
    go_wp2_with fail
    refine (A2.out _).mono ?_
    rintro e w2 ⟨rfl, hb2⟩
    replace hb2 := hb1.trans (hb2.mono hb1.size)
    go_wp2_with fail
    refine (B1.out _).mono ?_
    rintro e w3 ⟨rfl, hb3⟩
    replace hb3 := hb2.trans (hb3.mono hb2.size)
    go_wp2_with fail
    refine (B2.out _).mono ?_
    rintro e w4 ⟨rfl, hb4⟩
    replace hb4 := hb3.trans (hb4.mono hb3.size)
    clear hb1 hb2 hb3 A1 A2 B1 B2
    go_wp2_with fail
    refine (refKind_any _ _ ur).mono ?_
    rintro e w' ⟨rfl, hw'⟩
    rw [hw']
    clear hw' w'
    go_wp2_with fail
    refine (HL.out _).mono ?_
    rintro e w' ⟨rfl, hw'⟩
    rw [hw']
    clear hw' w'
    go_wp2_with fail
    refine (N1.out _).mono ?_
    rintro e w' ⟨rfl, hw'⟩
    rw [hw']
    clear hw' w'
    go_wp2_with fail
    refine (N2.out _).mono ?_
    rintro e w' ⟨rfl, hw'⟩
    rw [hw']
    clear hw' w'
    go_wp2_with fail
    refine (quoLives_any _).mono ?_
    rintro e w7 ⟨rfl, hb7⟩
    go_wp2
    go_ret
    exact ⟨rfl, hb4.trans (hb7.mono hb4.size)⟩

end Go.Proofs.Ytpgjibfggagbmaa
