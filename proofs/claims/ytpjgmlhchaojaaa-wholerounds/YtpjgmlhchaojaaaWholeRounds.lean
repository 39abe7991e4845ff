/-
  The statement WholeRounds.
-/
import Derived.Test.YtpjgmlhchaojaaaWholeIs
namespace Go.Proofs.Ytpjgmlhchaojaaa
open Go.RowKit Dg Flo

set_option maxHeartbeats 4000000 in
theorem wholeRounds_walk (a : Int) (w : World) (ha : U64 a) :
    Calls Try.prog 5 #[.int .u64 a] w fun e w' => e = .returned (.bool true) ∧ Below w.heap.size w w' := by
  have A0 : Hid (∀ w, _) := fun w => trunc_any a w ha
  have A1 : Hid (∀ w, _) := fun w => floor_any a w ha
  have A2 : Hid (∀ w, _) := fun w => ceil_any a w ha
  have A3 : Hid (∀ w, _) := fun w => near_any a w ha
  have B0 : Hid (∀ w, _) := fun w => refTrunc_any a w ha
  have B1 : Hid (∀ w, _) := fun w => refFloor_any a w ha
  have B2 : Hid (∀ w, _) := fun w => refCeil_any a w ha
  have B3 : Hid (∀ w, _) := fun w => refNear_any a w ha
  have HK : Hid (∀ w, _) := fun w => refKind_any a w ha
  have L1 : Hid (∀ w, _) := fun w => refLess_any a (wholeZ 1 a) w ha (wholeZ_u64 ha)
  have L2 : Hid (∀ w, _) := fun w => refLess_any (wholeZ 2 a) a w (wholeZ_u64 ha) ha
  have HI : Hid (∀ w, _) := fun w => refWhole_is_any a w ha
  have E1 : Hid (∀ w, _) := fun w => refEqual_any (wholeZ 1 a) a w (wholeZ_u64 ha) ha
  have E2 : Hid (∀ w, _) := fun w => refEqual_any (wholeZ 2 a) a w (wholeZ_u64 ha) ha
  have E3 : Hid (∀ w, _) := fun w => refEqual_any (wholeZ 1 a) (wholeZ 2 a) w (wholeZ_u64 ha) (wholeZ_u64 ha)
  have E4 : Hid (∀ w, _) := fun w => refEqual_any (wholeZ 3 a) (wholeZ 1 a) w (wholeZ_u64 ha) (wholeZ_u64 ha)
  have E5 : Hid (∀ w, _) := fun w => refEqual_any (wholeZ 3 a) (wholeZ 2 a) w (wholeZ_u64 ha) (wholeZ_u64 ha)
  have HP : Hid (∀ w, _) := fun w => apart_any (wholeZ 2 a) (wholeZ 1 a) w (wholeZ_u64 ha) (wholeZ_u64 ha)
  have cs : (decide (3 ≤ kindZ a) = true) ∨ (decide (3 ≤ kindZ a) = false ∧ mag a < 9218868437227405312) := by
    by_cases h : mag a < 9218868437227405312
    · refine Or.inr ⟨?_, h⟩
      rcases kind_fin h (mag_range ha).1 with ⟨_, k⟩ | ⟨_, _, k⟩ | ⟨_, k⟩ <;> rw [k] <;> decide
    · exact Or.inl (kind_ge3 h)
  have C1 : Hid (mag a < 9218868437227405312 → lessB a (wholeZ 1 a) = false ∧ lessB (wholeZ 2 a) a = false ∧ (isZ a = true → equalB (wholeZ 1 a) a = true ∧ equalB (wholeZ 2 a) a = true) ∧ (equalB (wholeZ 1 a) (wholeZ 2 a) = true ∨ subZ (wholeZ 2 a) (wholeZ 1 a) = 4607182418800017408) ∧ (wholeZ 0 a = wholeZ 1 a ∨ wholeZ 0 a = wholeZ 2 a) ∧ (equalB (wholeZ 3 a) (wholeZ 1 a) = true ∨ equalB (wholeZ 3 a) (wholeZ 2 a) = true)) := by
    intro h
    obtain ⟨b1, b2, b3⟩ := about ha h
    exact ⟨floor_below ha h, ceil_above ha h, fun hi => ⟨is_stays ha hi, is_stays ha hi⟩, b1, b2, b3⟩
  generalize lessB a (wholeZ 1 a) = l1 at *
  generalize lessB (wholeZ 2 a) a = l2 at *
  generalize isZ a = z at *
  generalize equalB (wholeZ 1 a) a = e1 at *
  generalize equalB (wholeZ 2 a) a = e2 at *
  generalize equalB (wholeZ 1 a) (wholeZ 2 a) = e3 at *
  generalize equalB (wholeZ 3 a) (wholeZ 1 a) = e4 at *
  generalize equalB (wholeZ 3 a) (wholeZ 2 a) = e5 at *
  generalize subZ (wholeZ 2 a) (wholeZ 1 a) = S at *
  generalize wholeZ 0 a = T at *
  generalize wholeZ 1 a = F at *
  generalize wholeZ 2 a = C at *
  generalize wholeZ 3 a = N at *
  generalize kindZ a = K at *
  go_enter Try.func5, Try.ntmps5
  go_wp2_with fail
  refine (A0.out _).mono ?_
  rintro e w1 ⟨rfl, hb1⟩
  go_wp2_with fail
  refine (A1.out _).mono ?_
  rintro e w2 ⟨rfl, hb2⟩
  replace hb2 := hb1.trans (hb2.mono hb1.size)
  clear hb1
  go_wp2_with fail
  refine (A2.out _).mono ?_
  rintro e w3 ⟨rfl, hb3⟩
  replace hb3 := hb2.trans (hb3.mono hb2.size)
  clear hb2
  go_wp2_with fail
  refine (A3.out _).mono ?_
  rintro e w4 ⟨rfl, hb4⟩
  replace hb4 := hb3.trans (hb4.mono hb3.size)
  clear hb3
  go_wp2_with fail
  refine (B0.out _).mono ?_
  rintro e w5 ⟨rfl, hb5⟩
  replace hb5 := hb4.trans (hb5.mono hb4.size)
  clear hb4
  go_wp2_with fail
  refine (B1.out _).mono ?_
  rintro e w6 ⟨rfl, hb6⟩
  replace hb6 := hb5.trans (hb6.mono hb5.size)
  clear hb5
  go_wp2_with fail
  refine (B2.out _).mono ?_
  rintro e w7 ⟨rfl, hb7⟩
  replace hb7 := hb6.trans (hb7.mono hb6.size)
  clear hb6
  go_wp2_with fail
  refine (B3.out _).mono ?_
  rintro e w8 ⟨rfl, hb8⟩
  replace hb8 := hb7.trans (hb8.mono hb7.size)
  clear hb7
  go_wp2_with fail
  refine (HK.out _).mono ?_
  rintro e w' ⟨rfl, hw'⟩
  rw [hw']
  clear hw' w'
  rcases cs with c | ⟨c, hm⟩
  · clear C1
    go_wp2_with fail
    refine (wlives_any _).mono ?_
    rintro e w20 ⟨rfl, hb20⟩
    go_wp2
    go_ret
    exact ⟨rfl, hb8.trans (hb20.mono hb8.size)⟩
  · obtain ⟨rfl, rfl, d1, d2, d3, d4⟩ := C1.out hm
    clear C1 hm
    go_wp2_with fail
    refine (L1.out _).mono ?_
    rintro e w' ⟨rfl, hw'⟩
    rw [hw']
    clear hw' w'
    go_wp2_with fail
    refine (L2.out _).mono ?_
    rintro e w' ⟨rfl, hw'⟩
    rw [hw']
    clear hw' w'
    go_wp2_with fail
    refine (HI.out _).mono ?_
    rintro e w9 ⟨rfl, hb9⟩
    replace hb9 := hb8.trans (hb9.mono hb8.size)
    clear hb8
    cases z
    · cases e3
      · have d5 : S = 4607182418800017408 := d2.resolve_left (by simp)
        subst d5
        go_wp2_with fail
        refine (E3.out _).mono ?_
        rintro e w' ⟨rfl, hw'⟩
        rw [hw']
        clear hw' w'
        go_wp2_with fail
        refine (HP.out _).mono ?_
        rintro e w10 ⟨rfl, hb10⟩
        replace hb10 := hb9.trans (hb10.mono hb9.size)
        clear hb9
        by_cases g : T = F
        · subst g
          rcases d4 with rfl | rfl
          · go_wp2_with fail
            refine (E4.out _).mono ?_
            rintro e w' ⟨rfl, hw'⟩
            rw [hw']
            clear hw' w'
            go_wp2_with fail
            refine (wlives_any _).mono ?_
            rintro e w20 ⟨rfl, hb20⟩
            go_wp2
            go_ret
            exact ⟨rfl, hb10.trans (hb20.mono hb10.size)⟩
          · cases e4
            · go_wp2_with fail
              refine (E4.out _).mono ?_
              rintro e w' ⟨rfl, hw'⟩
              rw [hw']
              clear hw' w'
              go_wp2_with fail
              refine (E5.out _).mono ?_
              rintro e w' ⟨rfl, hw'⟩
              rw [hw']
              clear hw' w'
              go_wp2_with fail
              refine (wlives_any _).mono ?_
              rintro e w20 ⟨rfl, hb20⟩
              go_wp2
              go_ret
              exact ⟨rfl, hb10.trans (hb20.mono hb10.size)⟩
            · go_wp2_with fail
              refine (E4.out _).mono ?_
              rintro e w' ⟨rfl, hw'⟩
              rw [hw']
              clear hw' w'
              go_wp2_with fail
              refine (wlives_any _).mono ?_
              rintro e w20 ⟨rfl, hb20⟩
              go_wp2
              go_ret
              exact ⟨rfl, hb10.trans (hb20.mono hb10.size)⟩
        · have g1 : (T == F) = false := beq_false_of_ne g
          obtain rfl : T = C := d3.resolve_left g
          clear g d3
          rcases d4 with rfl | rfl
          · go_wp2_with fail
            refine (E4.out _).mono ?_
            rintro e w' ⟨rfl, hw'⟩
            rw [hw']
            clear hw' w'
            go_wp2_with fail
            refine (wlives_any _).mono ?_
            rintro e w20 ⟨rfl, hb20⟩
            go_wp2
            go_ret
            exact ⟨rfl, hb10.trans (hb20.mono hb10.size)⟩
          · cases e4
            · go_wp2_with fail
              refine (E4.out _).mono ?_
              rintro e w' ⟨rfl, hw'⟩
              rw [hw']
              clear hw' w'
              go_wp2_with fail
              refine (E5.out _).mono ?_
              rintro e w' ⟨rfl, hw'⟩
              rw [hw']
              clear hw' w'
              go_wp2_with fail
              refine (wlives_any _).mono ?_
              rintro e w20 ⟨rfl, hb20⟩
              go_wp2
              go_ret
              exact ⟨rfl, hb10.trans (hb20.mono hb10.size)⟩
            · go_wp2_with fail
              refine (E4.out _).mono ?_
              rintro e w' ⟨rfl, hw'⟩
              rw [hw']
              clear hw' w'
              go_wp2_with fail
              refine (wlives_any _).mono ?_
              rintro e w20 ⟨rfl, hb20⟩
              go_wp2
              go_ret
              exact ⟨rfl, hb10.trans (hb20.mono hb10.size)⟩
      · go_wp2_with fail
        refine (E3.out _).mono ?_
        rintro e w' ⟨rfl, hw'⟩
        rw [hw']
        clear hw' w'
        by_cases g : T = F
        · subst g
          rcases d4 with rfl | rfl
          · go_wp2_with fail
            refine (E4.out _).mono ?_
            rintro e w' ⟨rfl, hw'⟩
            rw [hw']
            clear hw' w'
            go_wp2_with fail
            refine (wlives_any _).mono ?_
            rintro e w20 ⟨rfl, hb20⟩
            go_wp2
            go_ret
            exact ⟨rfl, hb9.trans (hb20.mono hb9.size)⟩
          · cases e4
            · go_wp2_with fail
              refine (E4.out _).mono ?_
              rintro e w' ⟨rfl, hw'⟩
              rw [hw']
              clear hw' w'
              go_wp2_with fail
              refine (E5.out _).mono ?_
              rintro e w' ⟨rfl, hw'⟩
              rw [hw']
              clear hw' w'
              go_wp2_with fail
              refine (wlives_any _).mono ?_
              rintro e w20 ⟨rfl, hb20⟩
              go_wp2
              go_ret
              exact ⟨rfl, hb9.trans (hb20.mono hb9.size)⟩
            · go_wp2_with fail
              refine (E4.out _).mono ?_
              rintro e w' ⟨rfl, hw'⟩
              rw [hw']
              clear hw' w'
              go_wp2_with fail
              refine (wlives_any _).mono ?_
              rintro e w20 ⟨rfl, hb20⟩
              go_wp2
              go_ret
              exact ⟨rfl, hb9.trans (hb20.mono hb9.size)⟩
        · have g1 : (T == F) = false := beq_false_of_ne g
          obtain rfl : T = C := d3.resolve_left g
          clear g d3
          rcases d4 with rfl | rfl
          · go_wp2_with fail
            refine (E4.out _).mono ?_
            rintro e w' ⟨rfl, hw'⟩
            rw [hw']
            clear hw' w'
            go_wp2_with fail
            refine (wlives_any _).mono ?_
            rintro e w20 ⟨rfl, hb20⟩
            go_wp2
            go_ret
            exact ⟨rfl, hb9.trans (hb20.mono hb9.size)⟩
          · cases e4
            · go_wp2_with fail
              refine (E4.out _).mono ?_
              rintro e w' ⟨rfl, hw'⟩
              rw [hw']
              clear hw' w'
              go_wp2_with fail
              refine (E5.out _).mono ?_
              rintro e w' ⟨rfl, hw'⟩
              rw [hw']
              clear hw' w'
              go_wp2_with fail
              refine (wlives_any _).mono ?_
              rintro e w20 ⟨rfl, hb20⟩
              go_wp2
              go_ret
              exact ⟨rfl, hb9.trans (hb20.mono hb9.size)⟩
            · go_wp2_with fail
              refine (E4.out _).mono ?_
              rintro e w' ⟨rfl, hw'⟩
              rw [hw']
              clear hw' w'
              go_wp2_with fail
              refine (wlives_any _).mono ?_
              rintro e w20 ⟨rfl, hb20⟩
              go_wp2
              go_ret
              exact ⟨rfl, hb9.trans (hb20.mono hb9.size)⟩
    · obtain ⟨rfl, rfl⟩ := d1 rfl
      go_wp2_with fail
      refine (E1.out _).mono ?_
      rintro e w' ⟨rfl, hw'⟩
      rw [hw']
      clear hw' w'
      go_wp2_with fail
      refine (E2.out _).mono ?_
      rintro e w' ⟨rfl, hw'⟩
      rw [hw']
      clear hw' w'
      cases e3
      · have d5 : S = 4607182418800017408 := d2.resolve_left (by simp)
        subst d5
        go_wp2_with fail
        refine (E3.out _).mono ?_
        rintro e w' ⟨rfl, hw'⟩
        rw [hw']
        clear hw' w'
        go_wp2_with fail
        refine (HP.out _).mono ?_
        rintro e w10 ⟨rfl, hb10⟩
        replace hb10 := hb9.trans (hb10.mono hb9.size)
        clear hb9
        by_cases g : T = F
        · subst g
          rcases d4 with rfl | rfl
          · go_wp2_with fail
            refine (E4.out _).mono ?_
            rintro e w' ⟨rfl, hw'⟩
            rw [hw']
            clear hw' w'
            go_wp2_with fail
            refine (wlives_any _).mono ?_
            rintro e w20 ⟨rfl, hb20⟩
            go_wp2
            go_ret
            exact ⟨rfl, hb10.trans (hb20.mono hb10.size)⟩
          · cases e4
            · go_wp2_with fail
              refine (E4.out _).mono ?_
              rintro e w' ⟨rfl, hw'⟩
              rw [hw']
              clear hw' w'
              go_wp2_with fail
              refine (E5.out _).mono ?_
              rintro e w' ⟨rfl, hw'⟩
              rw [hw']
              clear hw' w'
              go_wp2_with fail
              refine (wlives_any _).mono ?_
              rintro e w20 ⟨rfl, hb20⟩
              go_wp2
              go_ret
              exact ⟨rfl, hb10.trans (hb20.mono hb10.size)⟩
            · go_wp2_with fail
              refine (E4.out _).mono ?_
              rintro e w' ⟨rfl, hw'⟩
              rw [hw']
              clear hw' w'
              go_wp2_with fail
              refine (wlives_any _).mono ?_
              rintro e w20 ⟨rfl, hb20⟩
              go_wp2
              go_ret
              exact ⟨rfl, hb10.trans (hb20.mono hb10.size)⟩
        · have g1 : (T == F) = false := beq_false_of_ne g
          obtain rfl : T = C := d3.resolve_left g
          clear g d3
          rcases d4 with rfl | rfl
          · go_wp2_with fail
            refine (E4.out _).mono ?_
            rintro e w' ⟨rfl, hw'⟩
            rw [hw']
            clear hw' w'
            go_wp2_with fail
            refine (wlives_any _).mono ?_
            rintro e w20 ⟨rfl, hb20⟩
            go_wp2
            go_ret
            exact ⟨rfl, hb10.trans (hb20.mono hb10.size)⟩
          · cases e4
            · go_wp2_with fail
              refine (E4.out _).mono ?_
              rintro e w' ⟨rfl, hw'⟩
              rw [hw']
              clear hw' w'
              go_wp2_with fail
              refine (E5.out _).mono ?_
              rintro e w' ⟨rfl, hw'⟩
              rw [hw']
              clear hw' w'
              go_wp2_with fail
              refine (wlives_any _).mono ?_
              rintro e w20 ⟨rfl, hb20⟩
              go_wp2
              go_ret
              exact ⟨rfl, hb10.trans (hb20.mono hb10.size)⟩
            · go_wp2_with fail
              refine (E4.out _).mono ?_
              rintro e w' ⟨rfl, hw'⟩
              rw [hw']
              clear hw' w'
              go_wp2_with fail
              refine (wlives_any _).mono ?_
              rintro e w20 ⟨rfl, hb20⟩
              go_wp2
              go_ret
              exact ⟨rfl, hb10.trans (hb20.mono hb10.size)⟩
      · go_wp2_with fail
        refine (E3.out _).mono ?_
        rintro e w' ⟨rfl, hw'⟩
        rw [hw']
        clear hw' w'
        by_cases g : T = F
        · subst g
          rcases d4 with rfl | rfl
          · go_wp2_with fail
            refine (E4.out _).mono ?_
            rintro e w' ⟨rfl, hw'⟩
            rw [hw']
            clear hw' w'
            go_wp2_with fail
            refine (wlives_any _).mono ?_
            rintro e w20 ⟨rfl, hb20⟩
            go_wp2
            go_ret
            exact ⟨rfl, hb9.trans (hb20.mono hb9.size)⟩
          · cases e4
            · go_wp2_with fail
              refine (E4.out _).mono ?_
              rintro e w' ⟨rfl, hw'⟩
              rw [hw']
              clear hw' w'
              go_wp2_with fail
              refine (E5.out _).mono ?_
              rintro e w' ⟨rfl, hw'⟩
              rw [hw']
              clear hw' w'
              go_wp2_with fail
              refine (wlives_any _).mono ?_
              rintro e w20 ⟨rfl, hb20⟩
              go_wp2
              go_ret
              exact ⟨rfl, hb9.trans (hb20.mono hb9.size)⟩
            · go_wp2_with fail
              refine (E4.out _).mono ?_
              rintro e w' ⟨rfl, hw'⟩
              rw [hw']
              clear hw' w'
              go_wp2_with fail
              refine (wlives_any _).mono ?_
              rintro e w20 ⟨rfl, hb20⟩
              go_wp2
              go_ret
              exact ⟨rfl, hb9.trans (hb20.mono hb9.size)⟩
        · have g1 : (T == F) = false := beq_false_of_ne g
          obtain rfl : T = C := d3.resolve_left g
          clear g d3
          rcases d4 with rfl | rfl
          · go_wp2_with fail
            refine (E4.out _).mono ?_
            rintro e w' ⟨rfl, hw'⟩
            rw [hw']
            clear hw' w'
            go_wp2_with fail
            refine (wlives_any _).mono ?_
            rintro e w20 ⟨rfl, hb20⟩
            go_wp2
            go_ret
            exact ⟨rfl, hb9.trans (hb20.mono hb9.size)⟩
          · cases e4
            · go_wp2_with fail
              refine (E4.out _).mono ?_
              rintro e w' ⟨rfl, hw'⟩
              rw [hw']
              clear hw' w'
              go_wp2_with fail
              refine (E5.out _).mono ?_
              rintro e w' ⟨rfl, hw'⟩
              rw [hw']
              clear hw' w'
              go_wp2_with fail
              refine (wlives_any _).mono ?_
              rintro e w20 ⟨rfl, hb20⟩
              go_wp2
              go_ret
              exact ⟨rfl, hb9.trans (hb20.mono hb9.size)⟩
            · go_wp2_with fail
              refine (E4.out _).mono ?_
              rintro e w' ⟨rfl, hw'⟩
              rw [hw']
              clear hw' w'
              go_wp2_with fail
              refine (wlives_any _).mono ?_
              rintro e w20 ⟨rfl, hb20⟩
              go_wp2
              go_ret
              exact ⟨rfl, hb9.trans (hb20.mono hb9.size)⟩

end Go.Proofs.Ytpjgmlhchaojaaa
