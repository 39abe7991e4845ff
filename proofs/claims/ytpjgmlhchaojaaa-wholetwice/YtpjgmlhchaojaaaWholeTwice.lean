/-
  The statement WholeTwice.
-/
import Derived.Test.YtpjgmlhchaojaaaWholeIs
namespace Go.Proofs.Ytpjgmlhchaojaaa
open Go.RowKit Dg Flo

set_option maxHeartbeats 4000000 in
theorem wholeTwice_walk (a : Int) (w : World) (ha : U64 a) :
    Calls Try.prog 6 #[.int .u64 a] w fun e w' => e = .returned (.bool true) ∧ Below w.heap.size w w' := by
  have A0 : Hid (∀ w, _) := fun w => trunc_any a w ha
  have A1 : Hid (∀ w, _) := fun w => floor_any a w ha
  have A2 : Hid (∀ w, _) := fun w => ceil_any a w ha
  have A3 : Hid (∀ w, _) := fun w => near_any a w ha
  go_enter Try.func6, Try.ntmps6
  go_wp2_with fail
  refine (A0.out _).mono ?_
  rintro e w1 ⟨rfl, hb1⟩
  go_wp2_with fail
  refine (A1.out _).mono ?_
  rintro e w2 ⟨rfl, hb2⟩
  replace hb2 := hb1.trans (hb2.mono hb1.size)
  clear hb1
  go_wp2_with fail
  refine (A2.out _).mono ?_
  rintro e w3 ⟨rfl, hb3⟩
  replace hb3 := hb2.trans (hb3.mono hb2.size)
  clear hb2
  go_wp2_with fail
  refine (A3.out _).mono ?_
  rintro e w4 ⟨rfl, hb4⟩
  replace hb4 := hb3.trans (hb4.mono hb3.size)
  clear hb3
  have hcell : ∀ j : Nat, j < 4 → (w4.alloc (.cells #[.int .u64 (wholeZ 0 a), .int .u64 (wholeZ 1 a), .int .u64 (wholeZ 2 a), .int .u64 (wholeZ 3 a)] 23)).cell? ⟨w4.heap.size, j, none⟩ = some (.int .u64 (wholeZ j a)) := by
    intro j hj
    match j, hj with
    | 0, _ => simp
    | 1, _ => simp
    | 2, _ => simp
    | 3, _ => simp
  have hb5 : Below w.heap.size w (w4.alloc (.cells #[.int .u64 (wholeZ 0 a), .int .u64 (wholeZ 1 a), .int .u64 (wholeZ 2 a), .int .u64 (wholeZ 3 a)] 23)) := hb4.alloc hb4.size _
  have HC : Hid _ := hcell
  clear hcell hb4
  go_wp2_with fail
  obtain ⟨W5, hW5⟩ : ∃ W5, W5 = w4.alloc (.cells #[.int .u64 (wholeZ 0 a), .int .u64 (wholeZ 1 a), .int .u64 (wholeZ 2 a), .int .u64 (wholeZ 3 a)] 23) := ⟨_, rfl⟩
  have hsz : w4.heap.size < W5.heap.size := by rw [hW5]; simp
  rw [← hW5] at hb5 HC ⊢
  clear hW5
  generalize w4.heap.size = g at *
  clear A0 A1 A2 A3
  go_loopw [4] (fun i wr => ∃ j : Nat, j ≤ 4 ∧ i = .int .i64 j ∧ Below W5.heap.size W5 wr) (fun i _ => 4 - (intOf i).toNat)
  case atStart => exact ⟨0, by decide, rfl, Below.refl _ _⟩
  case round =>
    obtain ⟨j, hj, rfl, hbr⟩ := hrel
    have hbw := hb5.trans (hbr.mono hb5.size)
    by_cases c : j < 4
    · have hc : wr.cell? ⟨g, j, none⟩ = some (.int .u64 (wholeZ j a)) := by
        rw [hbr.cell (p := ⟨g, j, none⟩) hsz]; exact HC.out j c
      have ux := wholeZ_u64 (how := j) ha
      have A0 : Hid (∀ w, Calls Try.prog 17 #[.int .u64 (wholeZ j a)] w fun e w' => e = .returned (.int .u64 (wholeZ j a)) ∧ Below w.heap.size w w') := fun w => by
        have := trunc_any (wholeZ j a) w ux
        rw [whole_twice ha] at this
        exact this
      have A1 : Hid (∀ w, Calls Try.prog 18 #[.int .u64 (wholeZ j a)] w fun e w' => e = .returned (.int .u64 (wholeZ j a)) ∧ Below w.heap.size w w') := fun w => by
        have := floor_any (wholeZ j a) w ux
        rw [whole_twice ha] at this
        exact this
      have A2 : Hid (∀ w, Calls Try.prog 19 #[.int .u64 (wholeZ j a)] w fun e w' => e = .returned (.int .u64 (wholeZ j a)) ∧ Below w.heap.size w w') := fun w => by
        have := ceil_any (wholeZ j a) w ux
        rw [whole_twice ha] at this
        exact this
      have A3 : Hid (∀ w, Calls Try.prog 20 #[.int .u64 (wholeZ j a)] w fun e w' => e = .returned (.int .u64 (wholeZ j a)) ∧ Below w.heap.size w w') := fun w => by
        have := near_any (wholeZ j a) w ux
        rw [whole_twice ha] at this
        exact this
      have HI : Hid (∀ w, _) := fun w => wis_any (wholeZ j a) w ux
      have HK : Hid (∀ w, _) := fun w => refKind_any (wholeZ j a) w ux
      have hk : decide (kindZ (wholeZ j a) < 3) = isZ (wholeZ j a) := by
        rw [is_whole ha]
        by_cases h : mag (wholeZ j a) < 9218868437227405312
        · rw [decide_eq_true h]
          rcases kind_fin h (mag_range ux).1 with ⟨_, k⟩ | ⟨_, _, k⟩ | ⟨_, k⟩ <;> rw [k] <;> decide
        · rw [decide_eq_false h]
          have := of_decide_eq_true (kind_ge3 h)
          exact decide_eq_false (by omega)
      generalize isZ (wholeZ j a) = z at *
      generalize kindZ (wholeZ j a) = K at *
      generalize wholeZ j a = x at *
      go_wp2_with fail
      refine (A0.out _).mono ?_
      rintro e w6 ⟨rfl, hb6⟩
      replace hb6 := hbr.trans (hb6.mono hbr.size)
      go_wp2_with fail
      refine (A1.out _).mono ?_
      rintro e w7 ⟨rfl, hb7⟩
      replace hb7 := hb6.trans (hb7.mono hb6.size)
      clear hb6
      go_wp2_with fail
      refine (A2.out _).mono ?_
      rintro e w8 ⟨rfl, hb8⟩
      replace hb8 := hb7.trans (hb8.mono hb7.size)
      clear hb7
      go_wp2_with fail
      refine (A3.out _).mono ?_
      rintro e w9 ⟨rfl, hb9⟩
      replace hb9 := hb8.trans (hb9.mono hb8.size)
      clear hb8
      go_wp2_with fail
      refine (HI.out _).mono ?_
      rintro e w10 ⟨rfl, hb10⟩
      replace hb10 := hb9.trans (hb10.mono hb9.size)
      clear hb9
      go_wp2_with fail
      refine (HK.out _).mono ?_
      rintro e w' ⟨rfl, hw'⟩
      rw [hw']
      clear hw' w'
      go_wp2
      go_roundw
      case rel => exact ⟨j + 1, by omega, by go_num, hb10⟩
      case measure => simp [intOf]; omega
    · obtain rfl : j = 4 := by omega
      go_wp2_with fail
      refine (wlives_any _).mono ?_
      rintro e w20 ⟨rfl, hb20⟩
      go_wp2
      go_ret
      exact ⟨rfl, hbw.trans (hb20.mono hbw.size)⟩

end Go.Proofs.Ytpjgmlhchaojaaa
