/-
  The statement WholeRises.
-/
import Derived.Test.YtpjgmlhchaojaaaWholeIs
namespace Go.Proofs.Ytpjgmlhchaojaaa
open Go.RowKit Dg Flo

set_option maxHeartbeats 4000000 in
theorem wholeRises_walk (a b : Int) (w : World) (ha : U64 a) (hb : U64 b) :
    Calls Try.prog 7 #[.int .u64 a, .int .u64 b] w fun e w' => e = .returned (.bool true) ∧ Below w.heap.size w w' := by
  have HL : Hid (∀ w, _) := fun w => refLess_any a b w ha hb
  have A0 : Hid (∀ w, _) := fun w => trunc_any a w ha
  have B0 : Hid (∀ w, _) := fun w => trunc_any b w hb
  have L0 : Hid (∀ w, _) := fun w => refLess_any (wholeZ 0 b) (wholeZ 0 a) w (wholeZ_u64 hb) (wholeZ_u64 ha)
  have R0 : Hid (lessB a b = true → lessB (wholeZ 0 b) (wholeZ 0 a) = false) := whole_rises ha hb
  have A1 : Hid (∀ w, _) := fun w => floor_any a w ha
  have B1 : Hid (∀ w, _) := fun w => floor_any b w hb
  have L1 : Hid (∀ w, _) := fun w => refLess_any (wholeZ 1 b) (wholeZ 1 a) w (wholeZ_u64 hb) (wholeZ_u64 ha)
  have R1 : Hid (lessB a b = true → lessB (wholeZ 1 b) (wholeZ 1 a) = false) := whole_rises ha hb
  have A2 : Hid (∀ w, _) := fun w => ceil_any a w ha
  have B2 : Hid (∀ w, _) := fun w => ceil_any b w hb
  have L2 : Hid (∀ w, _) := fun w => refLess_any (wholeZ 2 b) (wholeZ 2 a) w (wholeZ_u64 hb) (wholeZ_u64 ha)
  have R2 : Hid (lessB a b = true → lessB (wholeZ 2 b) (wholeZ 2 a) = false) := whole_rises ha hb
  have A3 : Hid (∀ w, _) := fun w => near_any a w ha
  have B3 : Hid (∀ w, _) := fun w => near_any b w hb
  have L3 : Hid (∀ w, _) := fun w => refLess_any (wholeZ 3 b) (wholeZ 3 a) w (wholeZ_u64 hb) (wholeZ_u64 ha)
  have R3 : Hid (lessB a b = true → lessB (wholeZ 3 b) (wholeZ 3 a) = false) := whole_rises ha hb
  generalize lessB (wholeZ 0 b) (wholeZ 0 a) = l0 at *
  generalize wholeZ 0 a = x0 at *
  generalize wholeZ 0 b = y0 at *
  generalize lessB (wholeZ 1 b) (wholeZ 1 a) = l1 at *
  generalize wholeZ 1 a = x1 at *
  generalize wholeZ 1 b = y1 at *
  generalize lessB (wholeZ 2 b) (wholeZ 2 a) = l2 at *
  generalize wholeZ 2 a = x2 at *
  generalize wholeZ 2 b = y2 at *
  generalize lessB (wholeZ 3 b) (wholeZ 3 a) = l3 at *
  generalize wholeZ 3 a = x3 at *
  generalize wholeZ 3 b = y3 at *
  generalize lessB a b = l at *
  have hb0 : Below w.heap.size w w := Below.refl _ _
  cases l
  · clear R0 R1 R2 R3 hb0
    go_enter Try.func7, Try.ntmps7
    go_wp2_with fail
    refine (HL.out _).mono ?_
    rintro e w' ⟨rfl, hw'⟩
    rw [hw']
    clear hw' w'
    go_wp2_with fail
    refine (wlives_any _).mono ?_
    rintro e w20 ⟨rfl, hb20⟩
    go_wp2
    go_ret
    exact ⟨rfl, hb20⟩
  · obtain rfl := R0.out rfl
    obtain rfl := R1.out rfl
    obtain rfl := R2.out rfl
    obtain rfl := R3.out rfl
    clear R0 R1 R2 R3
    go_enter Try.func7, Try.ntmps7
    go_wp2_with fail
    refine (HL.out _).mono ?_
    rintro e w' ⟨rfl, hw'⟩
    rw [hw']
    clear hw' w'
    go_wp2_with fail
    refine (B0.out _).mono ?_
    rintro e w1 ⟨rfl, hb1⟩
    replace hb1 := hb0.trans (hb1.mono hb0.size)
    clear hb0
    go_wp2_with fail
    refine (A0.out _).mono ?_
    rintro e w2 ⟨rfl, hb2⟩
    replace hb2 := hb1.trans (hb2.mono hb1.size)
    clear hb1
    go_wp2_with fail
    refine (L0.out _).mono ?_
    rintro e w' ⟨rfl, hw'⟩
    rw [hw']
    clear hw' w'
    go_wp2_with fail
    refine (B1.out _).mono ?_
    rintro e w3 ⟨rfl, hb3⟩
    replace hb3 := hb2.trans (hb3.mono hb2.size)
    clear hb2
    go_wp2_with fail
    refine (A1.out _).mono ?_
    rintro e w4 ⟨rfl, hb4⟩
    replace hb4 := hb3.trans (hb4.mono hb3.size)
    clear hb3
    go_wp2_with fail
    refine (L1.out _).mono ?_
    rintro e w' ⟨rfl, hw'⟩
    rw [hw']
    clear hw' w'
    go_wp2_with fail
    refine (B2.out _).mono ?_
    rintro e w5 ⟨rfl, hb5⟩
    replace hb5 := hb4.trans (hb5.mono hb4.size)
    clear hb4
    go_wp2_with fail
    refine (A2.out _).mono ?_
    rintro e w6 ⟨rfl, hb6⟩
    replace hb6 := hb5.trans (hb6.mono hb5.size)
    clear hb5
    go_wp2_with fail
    refine (L2.out _).mono ?_
    rintro e w' ⟨rfl, hw'⟩
    rw [hw']
    clear hw' w'
    go_wp2_with fail
    refine (B3.out _).mono ?_
    rintro e w7 ⟨rfl, hb7⟩
    replace hb7 := hb6.trans (hb7.mono hb6.size)
    clear hb6
    go_wp2_with fail
    refine (A3.out _).mono ?_
    rintro e w8 ⟨rfl, hb8⟩
    replace hb8 := hb7.trans (hb8.mono hb7.size)
    clear hb7
    go_wp2_with fail
    refine (L3.out _).mono ?_
    rintro e w' ⟨rfl, hw'⟩
    rw [hw']
    clear hw' w'
    go_wp2_with fail
    refine (wlives_any _).mono ?_
    rintro e w20 ⟨rfl, hb20⟩
    go_wp2
    go_ret
    exact ⟨rfl, hb8.trans (hb20.mono hb8.size)⟩

end Go.Proofs.Ytpjgmlhchaojaaa
