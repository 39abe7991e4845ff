/-
  The statement QuoTwice.
-/
import Derived.Test.YtpgjibfggagbmaaQuoRest
namespace Go.Proofs.Ytpgjibfggagbmaa
open Go.RowKit Dg Flo

set_option maxHeartbeats 1000000 in
theorem quoTwice_walk (a b : Int) (w : World) (ha : U64 a) (hb : U64 b) :
    Calls Try.prog 8 #[.int .u64 a, .int .u64 b] w fun e w' => e = .returned (.bool true) ∧ Below w.heap.size w w' := by
  have A1 : Hid (∀ w, _) := fun w => rem_any a b w ha hb
  have ur := remZ_u64 (b := b) ha
  have na := andNot_sign a ha
  have nb := andNot_sign b hb
  have a2 := fun w => rem_any (remZ a b) b w ur hb
  have hself : remZ (remZ a b) b = remZ a b := by
    cases h : nanB (remZ a b)
    · exact rem_twice ha hb h
    · rcases rem_cases ha hb with ⟨k, _⟩ | ⟨k1, _⟩
      · rw [k]; exact rem_nan (Or.inl nan_word)
      · rw [k1] at h; cases h
  rw [hself] at a2
  have A2 : Hid (∀ w, _) := a2
  have cs : kindZ (remZ a b) = 4 ∨ ((kindZ (remZ a b) == 4) = false ∧ (lessB (mag a) (mag b) = false ∨ (lessB (mag a) (mag b) = true ∧ remZ a b = a))) := by
    cases h : nanB (remZ a b)
    · rcases rem_cases ha hb with ⟨k, _⟩ | ⟨k1, k2, k3, k4, k5, k6, k7⟩
      · rw [k, nan_word] at h; cases h
      · refine Or.inr ⟨by rw [kind_nan, h], ?_⟩
        have e := less_mag ha hb (fin_nan k5) k6
        by_cases c : mag a < mag b
        · rw [decide_eq_true c] at e
          exact Or.inr ⟨e, rem_small ha hb (fin_nan k5) k6 c⟩
        · rw [decide_eq_false c] at e
          exact Or.inl e
    · exact Or.inl (by have := kind_nan (remZ a b); rw [h] at this; simpa using this)
  have HL : Hid (∀ w, _) := fun w => refLess_any (mag a) (mag b) w (mag_u64 ha) (mag_u64 hb)
  clear a2 hself
  generalize remZ a b = r at *
  generalize mag a = ma at *
  generalize mag b = mb at *
  rcases cs with c1 | ⟨c1, c2 | ⟨c2, c3⟩⟩
  · go_enter Try.func8, Try.ntmps8
    go_wp2_with fail
    refine (A1.out _).mono ?_
    rintro e w1 ⟨rfl, hb1⟩
    go_wp2_with fail
    refine (refKind_any _ _ ur).mono ?_
    rintro e w' ⟨rfl, hw'⟩
    rw [hw']
    clear hw' w'
    go_wp2_with fail
    refine (A2.out _).mono ?_
    rintro e w2 ⟨rfl, hb2⟩
    replace hb2 := hb1.trans (hb2.mono hb1.size)
    go_wp2_with fail
    refine (quoLives_any _).mono ?_
    rintro e w7 ⟨rfl, hb7⟩
    go_wp2
    go_ret
    exact ⟨rfl, hb2.trans (hb7.mono hb2.size)⟩
  · go_enter Try.func8, Try.ntmps8
    go_wp2_with fail
    refine (A1.out _).mono ?_
    rintro e w1 ⟨rfl, hb1⟩
    go_wp2_with fail
    refine (refKind_any _ _ ur).mono ?_
    rintro e w' ⟨rfl, hw'⟩
    rw [hw']
    clear hw' w'
    go_wp2_with fail
    refine (HL.out _).mono ?_
    rintro e w' ⟨rfl, hw'⟩
    rw [hw']
    clear hw' w'
    go_wp2_with fail
    refine (A2.out _).mono ?_
    rintro e w2 ⟨rfl, hb2⟩
    replace hb2 := hb1.trans (hb2.mono hb1.size)
    go_wp2_with fail
    refine (quoLives_any _).mono ?_
    rintro e w7 ⟨rfl, hb7⟩
    go_wp2
    go_ret
    exact ⟨rfl, hb2.trans (hb7.mono hb2.size)⟩
  · subst c3
    go_enter Try.func8, Try.ntmps8
    go_wp2_with fail
    refine (A1.out _).mono ?_
    rintro e w1 ⟨rfl, hb1⟩
    go_wp2_with fail
    refine (refKind_any _ _ ur).mono ?_
    rintro e w' ⟨rfl, hw'⟩
    rw [hw']
    clear hw' w'
    go_wp2_with fail
    refine (HL.out _).mono ?_
    rintro e w' ⟨rfl, hw'⟩
    rw [hw']
    clear hw' w'
    go_wp2_with fail
    refine (A2.out _).mono ?_
    rintro e w2 ⟨rfl, hb2⟩
    replace hb2 := hb1.trans (hb2.mono hb1.size)
    go_wp2_with fail
    refine (quoLives_any _).mono ?_
    rintro e w7 ⟨rfl, hb7⟩
    go_wp2
    go_ret
    exact ⟨rfl, hb2.trans (hb7.mono hb2.size)⟩

end Go.Proofs.Ytpgjibfggagbmaa
