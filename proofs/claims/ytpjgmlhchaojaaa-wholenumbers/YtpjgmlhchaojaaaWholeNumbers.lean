/-
  The statement WholeNumbers.
-/
import Derived.Test.YtpjgmlhchaojaaaWholeIs
namespace Go.Proofs.Ytpjgmlhchaojaaa
open Go.RowKit Dg Flo

set_option maxHeartbeats 1000000 in
theorem wholeNumbers_walk (a : Int) (w : World) (ha : U64 a) :
    Calls Try.prog 4 #[.int .u64 a] w fun e w' => e = .returned (.bool true) ∧ Below w.heap.size w w' := by
  have HT : Hid (∀ w, _) := fun w => toInt_any a w ha
  have HR : Hid (∀ w, _) := fun w => refToInt_any a w ha
  have HI : Hid (∀ w, _) := fun w => wis_any a w ha
  have HJ : Hid (∀ w, _) := fun w => refWhole_is_any a w ha
  have HF : Hid (∀ w, _) := fun w => fromInt_any (toI a) w
  have HE : Hid (toB a = true → ∀ w, Calls Try.prog 16 #[.int .u64 (fromZ (toI a)), .int .u64 a] w fun e w' => e = .returned (.bool true) ∧ w' = w) := by
    intro h w
    have := refEqual_any (fromZ (toI a)) a w (fromZ_u64 _) ha
    rw [back_equal ha h] at this
    exact this
  generalize fromZ (toI a) = F at *
  generalize toB a = tb at *
  generalize toI a = ti at *
  generalize isZ a = z at *
  go_enter Try.func4, Try.ntmps4
  go_wp2_with fail
  refine (HT.out _).mono ?_
  rintro e w1 ⟨rfl, hb1⟩
  go_wp2_with fail
  refine (HR.out _).mono ?_
  rintro e w2 ⟨rfl, hb2⟩
  replace hb2 := hb1.trans (hb2.mono hb1.size)
  clear hb1
  go_wp2_with fail
  refine (HI.out _).mono ?_
  rintro e w3 ⟨rfl, hb3⟩
  replace hb3 := hb2.trans (hb3.mono hb2.size)
  clear hb2
  go_wp2_with fail
  refine (HJ.out _).mono ?_
  rintro e w4 ⟨rfl, hb4⟩
  replace hb4 := hb3.trans (hb4.mono hb3.size)
  clear hb3
  cases tb
  · go_wp2_with fail
    refine (wlives_any _).mono ?_
    rintro e w7 ⟨rfl, hb7⟩
    go_wp2
    go_ret
    exact ⟨rfl, hb4.trans (hb7.mono hb4.size)⟩
  · go_wp2_with fail
    refine (HF.out _).mono ?_
    rintro e w5 ⟨rfl, hb5⟩
    replace hb5 := hb4.trans (hb5.mono hb4.size)
    clear hb4
    go_wp2_with fail
    refine (HE.out (by simp) _).mono ?_
    rintro e w' ⟨rfl, hw'⟩
    rw [hw']
    clear hw' w'
    go_wp2_with fail
    refine (wlives_any _).mono ?_
    rintro e w7 ⟨rfl, hb7⟩
    go_wp2
    go_ret
    exact ⟨rfl, hb5.trans (hb7.mono hb5.size)⟩

end Go.Proofs.Ytpjgmlhchaojaaa
