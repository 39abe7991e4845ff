/-
  The statement QuoRoots.
-/
import Derived.Test.YtpgjibfggagbmaaQuoWalk
namespace Go.Proofs.Ytpgjibfggagbmaa
open Go.RowKit Dg Flo

set_option maxHeartbeats 1000000 in
theorem quoRoots_walk (a b : Int) (w : World) (ha : U64 a) (hb : U64 b) :
    Calls Try.prog 5 #[.int .u64 a, .int .u64 b] w fun e w' => e = .returned (.bool true) ∧ Below w.heap.size w w' := by
  have A1 : Hid (∀ w, _) := fun w => sqrt_any a w ha
  have A2 : Hid (∀ w, _) := fun w => sqrt_any b w hb
  have B1 : Hid (∀ w, _) := fun w => refSqrt_any a w ha
  have B2 : Hid (∀ w, _) := fun w => refSqrt_any b w hb
  have L1 : Hid (∀ w, _) := fun w => refLess_any a b w ha hb
  have ux := rootZ_u64 ha
  have uy := rootZ_u64 hb
  have L2 : Hid (∀ w, _) := fun w => refLess_any (rootZ b) (rootZ a) w uy ux
  have K : Hid (lessB a b = true → nanB (rootZ a) = false → lessB (rootZ b) (rootZ a) = false) := fun h1 h2 => root_order ha hb h1 h2
  generalize rootZ a = x at *
  generalize rootZ b = y at *
  have cs : lessB a b = false ∨ (lessB a b = true ∧ kindZ x = 4) ∨ (lessB a b = true ∧ (kindZ x == 4) = false ∧ lessB y x = false) := by
    cases h1 : lessB a b
    · exact Or.inl rfl
    · cases h2 : nanB x
      · exact Or.inr (Or.inr ⟨rfl, by rw [kind_nan, h2], K.out h1 h2⟩)
      · exact Or.inr (Or.inl ⟨rfl, by have := kind_nan x; rw [h2] at this; simpa using this⟩)
  clear K
  rcases cs with c1 | ⟨c1, c2⟩ | ⟨c1, c2, c3⟩
  · go_enter Try.func5, Try.ntmps5
    go_wp2_with fail
    refine (A1.out _).mono ?_
    rintro e w1 ⟨rfl, hb1⟩
    go_wp2_with fail
    refine (A2.out _).mono ?_
    rintro e w2 ⟨rfl, hb2⟩
    replace hb2 := hb1.trans (hb2.mono hb1.size)
    go_wp2_with fail
    refine (B1.out _).mono ?_
    rintro e w3 ⟨rfl, hb3⟩
    replace hb3 := hb2.trans (hb3.mono hb2.size)
    go_wp2_with fail
    refine (B2.out _).mono ?_
    rintro e w4 ⟨rfl, hb4⟩
    replace hb4 := hb3.trans (hb4.mono hb3.size)
    clear hb1 hb2 hb3 A1 A2 B1 B2
    go_wp2_with fail
    refine (L1.out _).mono ?_
    rintro e w' ⟨rfl, hw'⟩
    rw [hw']
    clear hw' w'
    go_wp2_with fail
    refine (quoLives_any _).mono ?_
    rintro e w7 ⟨rfl, hb7⟩
    go_wp2
    go_ret
    exact ⟨rfl, hb4.trans (hb7.mono hb4.size)⟩
  · go_enter Try.func5, Try.ntmps5
    go_wp2_with fail
    refine (A1.out _).mono ?_
    rintro e w1 ⟨rfl, hb1⟩
    go_wp2_with fail
    refine (A2.out _).mono ?_
    rintro e w2 ⟨rfl, hb2⟩
    replace hb2 := hb1.trans (hb2.mono hb1.size)
    go_wp2_with fail
    refine (B1.out _).mono ?_
    rintro e w3 ⟨rfl, hb3⟩
    replace hb3 := hb2.trans (hb3.mono hb2.size)
    go_wp2_with fail
    refine (B2.out _).mono ?_
    rintro e w4 ⟨rfl, hb4⟩
    replace hb4 := hb3.trans (hb4.mono hb3.size)
    clear hb1 hb2 hb3 A1 A2 B1 B2
    go_wp2_with fail
    refine (L1.out _).mono ?_
    rintro e w' ⟨rfl, hw'⟩
    rw [hw']
    clear hw' w'
    go_wp2_with fail
    refine (refKind_any _ _ ux).mono ?_
    rintro e w' ⟨rfl, hw'⟩
    rw [hw']
    clear hw' w'
    go_wp2_with fail
    refine (quoLives_any _).mono ?_
    rintro e w7 ⟨rfl, hb7⟩
    go_wp2
    go_ret
    exact ⟨rfl, hb4.trans (hb7.mono hb4.size)⟩
  · go_enter Try.func5, Try.ntmps5
    go_wp2_with fail
    refine (A1.out _).mono ?_
    rintro e w1 ⟨rfl, hb1⟩
    go_wp2_with fail
    refine (A2.out _).mono ?_
    rintro e w2 ⟨rfl, hb2⟩
    replace hb2 := hb1.trans (hb2.mono hb1.size)
    go_wp2_with fail
    refine (B1.out _).mono ?_
    rintro e w3 ⟨rfl, hb3⟩
    replace hb3 := hb2.trans (hb3.mono hb2.size)
    go_wp2_with fail
    refine (B2.out _).mono ?_
    rintro e w4 ⟨rfl, hb4⟩
    replace hb4 := hb3.trans (hb4.mono hb3.size)
    clear hb1 hb2 hb3 A1 A2 B1 B2
    go_wp2_with fail
    refine (L1.out _).mono ?_
    rintro e w' ⟨rfl, hw'⟩
    rw [hw']
    clear hw' w'
    go_wp2_with fail
    refine (refKind_any _ _ ux).mono ?_
    rintro e w' ⟨rfl, hw'⟩
    rw [hw']
    clear hw' w'
    go_wp2_with fail
    refine (L2.out _).mono ?_
    rintro e w' ⟨rfl, hw'⟩
    rw [hw']
    clear hw' w'
    go_wp2_with fail
    refine (quoLives_any _).mono ?_
    rintro e w7 ⟨rfl, hb7⟩
    go_wp2
    go_ret
    exact ⟨rfl, hb4.trans (hb7.mono hb4.size)⟩

end Go.Proofs.Ytpgjibfggagbmaa
