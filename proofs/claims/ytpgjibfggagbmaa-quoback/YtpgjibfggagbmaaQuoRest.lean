/-
  quo.Rem and quo.Mod: the walk of math.Mod.
-/
import Derived.Test.YtpgjibfggagbmaaQuoFrexp
import Derived.Test.YtpgjibfggagbmaaQuoWalk
namespace Go.Proofs.Ytpgjibfggagbmaa
open Go.RowKit Flo

def wordOf (v : Value) : Nat := match v with
  | .float _ n => n
  | _ => 0

theorem negFloat_pos {r : Nat} (h : r < 9223372036854775808) : Op.negFloat .f64 r = r + 9223372036854775808 := by
  show r ^^^ 2 ^ (11 + 52) = _
  have e : r ^^^ 2 ^ 63 = 2 ^ 63 ||| r := by
    apply Nat.eq_of_testBit_eq
    intro i
    rw [Nat.testBit_xor, Nat.testBit_or, Nat.testBit_two_pow]
    by_cases c : 63 = i
    · subst c; rw [Nat.testBit_lt_two_pow (show r < 2 ^ 63 by omega)]; rfl
    · rw [decide_eq_false c]; simp
  rw [show 11 + 52 = 63 by decide, e, nat_join 63 _ _ (by decide) (by omega)]
  omega
theorem negFloat_neg {r : Nat} (h : r < 9223372036854775808) : Op.negFloat .f64 (r + 9223372036854775808) = r := by
  rw [← negFloat_pos h]
  show r ^^^ 2 ^ (11 + 52) ^^^ 2 ^ (11 + 52) = r
  rw [Nat.xor_assoc, Nat.xor_self, Nat.xor_zero]

/-- One round of the loop. -/
theorem mod_round {r y E f k e g l : Nat} (hr : r < 9218868437227405312) (hn : NP r E f k) (hy : NP y e g l) (h : y ≤ r) :
    ∃ n x r' : Nat, ((E : Int) - 1022 - k - (if f < g then 1 else 0)) - ((e : Int) - 1022 - l) = n ∧ M y * 2 ^ n < 2 ^ TP ∧ x = rung 0 (M y * 2 ^ n) ∧ floatBits .sub .f64 r x = some r' ∧ r' < 9218868437227405312 ∧ r' < r ∧ M r' % M y = M r % M y := by
  obtain ⟨n, h1, h2, h3⟩ := mod_parts hn hy h
  have p0 := NP_pos hy
  have hlt := M_lt hr
  have h4 : M y * 2 ^ n < 2 ^ TP := Nat.lt_of_le_of_lt h2 hlt
  have hyr : Rep (M y * 2 ^ n) := by
    obtain ⟨e1, q1, _⟩ := M_parts y
    have e2 : M y * 2 ^ n = pq y * 2 ^ (pl y + n) := by rw [e1, Nat.mul_assoc, ← Nat.pow_add]
    rw [e2] at h4 ⊢
    exact rep_lt q1 h4
  obtain ⟨x1, x2⟩ := hyr.rung
  have hx0 : 0 < M y * 2 ^ n := Nat.mul_pos p0 (Nat.two_pow_pos _)
  have hs := sub_pos (r := r) hr x1 (by rw [x2]; exact h2)
  have hrep := rep_sub (r := r) (z := rung 0 (M y * 2 ^ n)) hr (by rw [x2]; exact h2) (by rw [x2]; exact h3)
  rw [x2] at hs hrep
  obtain ⟨r1, r2⟩ := hrep.rung
  refine ⟨n, _, _, h1, h4, rfl, hs, r1, ?_, ?_⟩
  · rw [← M_lt_iff, r2]; omega
  · rw [r2]
    exact Nat.sub_mul_mod h2

/-- What math.mod's guard asks, all four answered no. -/
def Plain (a b : Int) : Prop := U64 a ∧ U64 b ∧ equalB b 0 = false ∧ infB a = false ∧ nanB a = false ∧ nanB b = false

set_option maxHeartbeats 4000000 in
/-- math.mod of a finite number that is no nought, by a finite one. -/
theorem mod_fin (a b : Int) (s : Bool) (Y R : Nat) (w : World) (h : Plain a b) (hs : lessB a 0 = s) (hY : (mag b).toNat = Y) (hR : R = if s then Op.negFloat .f64 a.toNat else a.toNat) (Y0 : 0 < Y) (Y1 : Y < 9218868437227405312) (R1 : R < 9218868437227405312) :
    Calls Try.prog 51 #[.float .f64 a.toNat, .float .f64 b.toNat] w fun e w' => ∃ r : Nat, e = .returned (.float .f64 (if s then Op.negFloat .f64 r else r)) ∧ r < 9218868437227405312 ∧ M r = M R % M Y ∧ w' = w := by
  obtain ⟨ha, hb, q1, q2, q3, q4⟩ := h
  have c1 := eq_test hb (b := 0) ⟨by decide, by decide⟩
  rw [q1, show (0 : Int).toNat = 0 by decide] at c1
  have c2 := lt_test ha (b := 0) ⟨by decide, by decide⟩
  rw [hs, show (0 : Int).toNat = 0 by decide] at c2
  have HI : Hid _ := fun w => mathIsInf_any a w ha
  have HN : Hid _ := fun w => mathIsNaN_any a w ha
  have HO : Hid _ := fun w => mathIsNaN_any b w hb
  have HA : Hid _ := fun w => mathAbs_any b w hb
  rw [q2] at HI
  rw [q3] at HN
  rw [q4] at HO
  rw [hY] at HA
  obtain ⟨e, g, l, y0, hny, hy0, HF⟩ := mathFrexp_any Y Y0 Y1
  have HF' : Hid _ := HF
  have HY : Hid (y0 = 1022 * 4503599627370496 + g) := hy0
  have HP : Hid (NP Y e g l) := hny
  clear hy0 hny
  clear HF q1 q2 q3 q4 hs hY
  go_enter Try.func51, Try.ntmps51
  go_wp2_with fail
  refine (HI.out _).mono ?_
  rintro e w' ⟨rfl, hw'⟩
  rw [hw']
  clear hw' w'
  go_wp2_with fail
  refine (HN.out _).mono ?_
  rintro e w' ⟨rfl, hw'⟩
  rw [hw']
  clear hw' w'
  go_wp2_with fail
  refine (HO.out _).mono ?_
  rintro e w' ⟨rfl, hw'⟩
  rw [hw']
  clear hw' w'
  go_wp2_with fail
  refine (HA.out _).mono ?_
  rintro e w' ⟨rfl, hw'⟩
  rw [hw']
  clear hw' w'
  go_wp2_with fail
  refine (HF'.out _).mono ?_
  rintro e w' ⟨rfl, hw'⟩
  rw [hw']
  clear hw' w'
  cases s
  · rw [if_neg (by decide)] at hR
    subst hR
    go_wp2_with fail
    go_loop [7] (fun t => ∃ r : Nat, t = .float .f64 r ∧ r < 9218868437227405312 ∧ Hid (M r % M Y = M a.toNat % M Y)) (fun t => wordOf t)
    case atStart => exact ⟨_, rfl, R1, rfl⟩
    case round =>
      obtain ⟨r, rfl, hr, HM⟩ := hrel
      by_cases c : Y ≤ r
      · have hge : (FloatKind.f64.format.order r Y == some .gt || FloatKind.f64.format.order r Y == some .eq) = true := by
          rw [gt_pos (by omega) (by omega), eq_pos (by omega) (by omega)]
          simp; omega
        obtain ⟨E, f, k, y1, hn, hy1, HG⟩ := mathFrexp_any r (by omega) hr
        obtain ⟨n, x, r', hd, hp, hx, hsub, hr', hlt, hmod⟩ := mod_round hr hn HP.out c
        have hl := lt_pos (r := y1) (s := y0) (by have := hn.1; omega) (by have := HP.out.1; have := HY.out; omega)
        have hl2 : decide (y1 < y0) = decide (f < g) := by
          have := HY.out
          by_cases cc : f < g
          · rw [decide_eq_true cc, decide_eq_true (by omega)]
          · rw [decide_eq_false cc, decide_eq_false (by omega)]
        rw [hl2] at hl
        have bn := hn.2.1; have bn2 := hn.2.2.1; have bn3 := hn.2.2.2.1
        have bp := HP.out.2.1; have bp2 := HP.out.2.2.1; have bp3 := HP.out.2.2.2.1
        have HG' : Hid _ := HG
        have HL : Hid _ := mathLdexp_any Y n Y0 Y1 hp x hx
        have HM' : Hid (M r' % M Y = M a.toNat % M Y) := hmod.trans HM.out
        have hop := fun t => run_float_arith w .sub t .f64 r x r' hsub (P := Try.prog)
        clear HG hx hp hsub hmod hn hy1 hl2 HM
        by_cases cc : f < g
        · rw [if_pos cc] at hd
          rw [decide_eq_true cc] at hl
          clear cc
          go_wp2_with fail
          refine (HG'.out _).mono ?_
          rintro e w' ⟨rfl, hw'⟩
          rw [hw']
          clear hw' w'
          go_wp2_with fail
          refine (HL.out _).mono ?_
          rintro e w' ⟨rfl, hw'⟩
          rw [hw']
          clear hw' w'
          go_wp2_with fail
          go_round
          case rel => exact ⟨r', rfl, hr', HM'⟩
          case measure => exact hlt
        · rw [if_neg cc, Int.sub_zero] at hd
          rw [decide_eq_false cc] at hl
          clear cc
          go_wp2_with fail
          refine (HG'.out _).mono ?_
          rintro e w' ⟨rfl, hw'⟩
          rw [hw']
          clear hw' w'
          go_wp2_with fail
          refine (HL.out _).mono ?_
          rintro e w' ⟨rfl, hw'⟩
          rw [hw']
          clear hw' w'
          go_wp2_with fail
          go_round
          case rel => exact ⟨r', rfl, hr', HM'⟩
          case measure => exact hlt
      · have g1 := gt_pos (r := r) (s := Y) (by omega) (by omega)
        have g2 := eq_pos (r := r) (s := Y) (by omega) (by omega)
        rw [decide_eq_false (by omega)] at g1 g2
        go_wp2
        go_ret
        refine ⟨r, rfl, hr, ?_, rfl⟩
        rw [← HM.out, Nat.mod_eq_of_lt (M_mono (by omega))]
  · rw [if_pos rfl] at hR
    have hneg : ∀ w, (Op.unary .neg (.float .f64 a.toNat)).run Try.prog w = .ok (.float .f64 R) w := fun w => by rw [hR]; rfl
    clear hR
    go_wp2_with fail
    go_loop [7] (fun t => ∃ r : Nat, t = .float .f64 r ∧ r < 9218868437227405312 ∧ Hid (M r % M Y = M R % M Y)) (fun t => wordOf t)
    case atStart => exact ⟨_, rfl, R1, rfl⟩
    case round =>
      obtain ⟨r, rfl, hr, HM⟩ := hrel
      by_cases c : Y ≤ r
      · have hge : (FloatKind.f64.format.order r Y == some .gt || FloatKind.f64.format.order r Y == some .eq) = true := by
          rw [gt_pos (by omega) (by omega), eq_pos (by omega) (by omega)]
          simp; omega
        obtain ⟨E, f, k, y1, hn, hy1, HG⟩ := mathFrexp_any r (by omega) hr
        obtain ⟨n, x, r', hd, hp, hx, hsub, hr', hlt, hmod⟩ := mod_round hr hn HP.out c
        have hl := lt_pos (r := y1) (s := y0) (by have := hn.1; omega) (by have := HP.out.1; have := HY.out; omega)
        have hl2 : decide (y1 < y0) = decide (f < g) := by
          have := HY.out
          by_cases cc : f < g
          · rw [decide_eq_true cc, decide_eq_true (by omega)]
          · rw [decide_eq_false cc, decide_eq_false (by omega)]
        rw [hl2] at hl
        have bn := hn.2.1; have bn2 := hn.2.2.1; have bn3 := hn.2.2.2.1
        have bp := HP.out.2.1; have bp2 := HP.out.2.2.1; have bp3 := HP.out.2.2.2.1
        have HG' : Hid _ := HG
        have HL : Hid _ := mathLdexp_any Y n Y0 Y1 hp x hx
        have HM' : Hid (M r' % M Y = M R % M Y) := hmod.trans HM.out
        have hop := fun t => run_float_arith w .sub t .f64 r x r' hsub (P := Try.prog)
        clear HG hx hp hsub hmod hn hy1 hl2 HM
        by_cases cc : f < g
        · rw [if_pos cc] at hd
          rw [decide_eq_true cc] at hl
          clear cc
          go_wp2_with fail
          refine (HG'.out _).mono ?_
          rintro e w' ⟨rfl, hw'⟩
          rw [hw']
          clear hw' w'
          go_wp2_with fail
          refine (HL.out _).mono ?_
          rintro e w' ⟨rfl, hw'⟩
          rw [hw']
          clear hw' w'
          go_wp2_with fail
          go_round
          case rel => exact ⟨r', rfl, hr', HM'⟩
          case measure => exact hlt
        · rw [if_neg cc, Int.sub_zero] at hd
          rw [decide_eq_false cc] at hl
          clear cc
          go_wp2_with fail
          refine (HG'.out _).mono ?_
          rintro e w' ⟨rfl, hw'⟩
          rw [hw']
          clear hw' w'
          go_wp2_with fail
          refine (HL.out _).mono ?_
          rintro e w' ⟨rfl, hw'⟩
          rw [hw']
          clear hw' w'
          go_wp2_with fail
          go_round
          case rel => exact ⟨r', rfl, hr', HM'⟩
          case measure => exact hlt
      · have g1 := gt_pos (r := r) (s := Y) (by omega) (by omega)
        have g2 := eq_pos (r := r) (s := Y) (by omega) (by omega)
        rw [decide_eq_false (by omega)] at g1 g2
        have hneg2 : ∀ w, (Op.unary .neg (.float .f64 r)).run Try.prog w = .ok (.float .f64 (Op.negFloat .f64 r)) w := fun _ => rfl
        go_wp2
        go_ret
        refine ⟨r, rfl, hr, ?_, rfl⟩
        rw [← HM.out, Nat.mod_eq_of_lt (M_mono (by omega))]

theorem frexp_inf (w : World) : Calls Try.prog 68 #[.float .f64 9218868437227405312] w fun e w' => e = .returned (.tuple #[.float .f64 9218868437227405312, .int .i64 0]) ∧ w' = w := by
  have hq := eq_pos (r := 9218868437227405312) (s := 0) (by omega) (by decide)
  rw [decide_eq_false (by omega)] at hq
  have H : Hid _ := fun w => mathIsInf_any 9218868437227405312 w ⟨by decide, by decide⟩
  rw [show infB 9218868437227405312 = true by decide, show (9218868437227405312 : Int).toNat = 9218868437227405312 by decide] at H
  go_enter Try.func68, Try.ntmps68
  go_wp2_with fail
  refine (H.out _).mono ?_
  rintro e w' ⟨rfl, hw'⟩
  rw [hw']
  clear hw' w'
  go_wp2
  go_ret2
  exact ⟨rfl, rfl⟩
theorem mathFrexp_inf (w : World) : Calls Try.prog 64 #[.float .f64 9218868437227405312] w fun e w' => e = .returned (.tuple #[.float .f64 9218868437227405312, .int .i64 0]) ∧ w' = w := by
  go_enter Try.func64, Try.ntmps64
  go_wp2_with fail
  refine (frexp_inf _).mono ?_
  rintro e w' ⟨rfl, hw'⟩
  rw [hw']
  clear hw' w'
  go_wp2
  go_ret2
  exact ⟨rfl, rfl⟩
theorem mathFrexp_some (Y : Nat) (h0 : 0 < Y) (h1 : Y ≤ 9218868437227405312) : ∃ (y : Nat) (z : Int), ∀ w, Calls Try.prog 64 #[.float .f64 Y] w fun e w' => e = .returned (.tuple #[.float .f64 y, .int .i64 z]) ∧ w' = w := by
  by_cases c : Y = 9218868437227405312
  · subst c; exact ⟨_, _, mathFrexp_inf⟩
  · obtain ⟨E, f, k, y, _, _, H⟩ := mathFrexp_any Y h0 (by omega)
    exact ⟨_, _, H⟩

set_option maxHeartbeats 1000000 in
/-- math.mod where the number lies below the divisor, or is a nought. -/
theorem mod_short (a b : Int) (s : Bool) (Y R : Nat) (w : World) (h : Plain a b) (hs : lessB a 0 = s) (hY : (mag b).toNat = Y) (hR : R = if s then Op.negFloat .f64 a.toNat else a.toNat) (Y0 : 0 < Y) (Y1 : Y ≤ 9218868437227405312)
    (g1 : (FloatKind.f64.format.order R Y == some .gt) = false) (g2 : (FloatKind.f64.format.order R Y == some .eq) = false) :
    Calls Try.prog 51 #[.float .f64 a.toNat, .float .f64 b.toNat] w fun e w' => e = .returned (.float .f64 (if s then Op.negFloat .f64 R else R)) ∧ w' = w := by
  obtain ⟨ha, hb, q1, q2, q3, q4⟩ := h
  have c1 := eq_test hb (b := 0) ⟨by decide, by decide⟩
  rw [q1, show (0 : Int).toNat = 0 by decide] at c1
  have c2 := lt_test ha (b := 0) ⟨by decide, by decide⟩
  rw [hs, show (0 : Int).toNat = 0 by decide] at c2
  have HI : Hid _ := fun w => mathIsInf_any a w ha
  have HN : Hid _ := fun w => mathIsNaN_any a w ha
  have HO : Hid _ := fun w => mathIsNaN_any b w hb
  have HA : Hid _ := fun w => mathAbs_any b w hb
  rw [q2] at HI
  rw [q3] at HN
  rw [q4] at HO
  rw [hY] at HA
  obtain ⟨y0, z0, HF⟩ := mathFrexp_some Y Y0 Y1
  have HF' : Hid _ := HF
  clear HF q1 q2 q3 q4 hs hY
  go_enter Try.func51, Try.ntmps51
  go_wp2_with fail
  refine (HI.out _).mono ?_
  rintro e w' ⟨rfl, hw'⟩
  rw [hw']
  clear hw' w'
  go_wp2_with fail
  refine (HN.out _).mono ?_
  rintro e w' ⟨rfl, hw'⟩
  rw [hw']
  clear hw' w'
  go_wp2_with fail
  refine (HO.out _).mono ?_
  rintro e w' ⟨rfl, hw'⟩
  rw [hw']
  clear hw' w'
  go_wp2_with fail
  refine (HA.out _).mono ?_
  rintro e w' ⟨rfl, hw'⟩
  rw [hw']
  clear hw' w'
  go_wp2_with fail
  refine (HF'.out _).mono ?_
  rintro e w' ⟨rfl, hw'⟩
  rw [hw']
  clear hw' w'
  cases s
  · rw [if_neg (by decide)] at hR
    subst hR
    go_wp2_with fail
    go_loop [7] (fun t => t = .float .f64 a.toNat) (fun t => wordOf t)
    case atStart => rfl
    case round =>
      rw [hrel]
      clear hrel
      go_wp2
      go_ret
      exact ⟨rfl, rfl⟩
  · rw [if_pos rfl] at hR
    have hneg : ∀ w, (Op.unary .neg (.float .f64 a.toNat)).run Try.prog w = .ok (.float .f64 R) w := fun w => by rw [hR]; rfl
    clear hR
    go_wp2_with fail
    go_loop [7] (fun t => t = .float .f64 R) (fun t => wordOf t)
    case atStart => rfl
    case round =>
      rw [hrel]
      clear hrel
      have hneg2 : ∀ w, (Op.unary .neg (.float .f64 R)).run Try.prog w = .ok (.float .f64 (Op.negFloat .f64 R)) w := fun _ => rfl
      go_wp2
      go_ret
      exact ⟨rfl, rfl⟩

/-- math.mod of what has no rest. -/
theorem mod_bad (a b : Int) (w : World) (ha : U64 a) (hb : U64 b) (h : equalB b 0 = true ∨ infB a = true ∨ nanB a = true ∨ nanB b = true) :
    Calls Try.prog 51 #[.float .f64 a.toNat, .float .f64 b.toNat] w fun e w' => e = .returned (.float .f64 9221120237041090561) ∧ w' = w := by
  have c1 := eq_test hb (b := 0) ⟨by decide, by decide⟩
  rw [show (0 : Int).toNat = 0 by decide] at c1
  have HI : Hid _ := fun w => mathIsInf_any a w ha
  have HN : Hid _ := fun w => mathIsNaN_any a w ha
  have HO : Hid _ := fun w => mathIsNaN_any b w hb
  have HM : Hid _ := mathNaN_any
  generalize equalB b 0 = q at *
  generalize infB a = i at *
  generalize nanB a = m at *
  generalize nanB b = o at *
  go_enter Try.func51, Try.ntmps51
  cases q
  · go_wp2_with fail
    refine (HI.out _).mono ?_
    rintro e w' ⟨rfl, hw'⟩
    rw [hw']
    clear hw' w'
    cases i
    · go_wp2_with fail
      refine (HN.out _).mono ?_
      rintro e w' ⟨rfl, hw'⟩
      rw [hw']
      clear hw' w'
      cases m
      · go_wp2_with fail
        refine (HO.out _).mono ?_
        rintro e w' ⟨rfl, hw'⟩
        rw [hw']
        clear hw' w'
        cases o
        · simp at h
        · clear h
          go_wp2_with fail
          refine (HM.out _).mono ?_
          rintro e w' ⟨rfl, hw'⟩
          rw [hw']
          clear hw' w'
          go_wp2
          go_ret
          exact ⟨rfl, rfl⟩
      · clear h
        go_wp2_with fail
        refine (HM.out _).mono ?_
        rintro e w' ⟨rfl, hw'⟩
        rw [hw']
        clear hw' w'
        go_wp2
        go_ret
        exact ⟨rfl, rfl⟩
    · clear h
      go_wp2_with fail
      refine (HM.out _).mono ?_
      rintro e w' ⟨rfl, hw'⟩
      rw [hw']
      clear hw' w'
      go_wp2
      go_ret
      exact ⟨rfl, rfl⟩
  · clear h
    go_wp2_with fail
    refine (HM.out _).mono ?_
    rintro e w' ⟨rfl, hw'⟩
    rw [hw']
    clear hw' w'
    go_wp2
    go_ret
    exact ⟨rfl, rfl⟩

theorem equal_nought {b : Int} (hn : nanB b = false) (hb : U64 b) : equalB b 0 = decide (mag b = 0) := by
  unfold equalB
  rw [hn, show nanB 0 = false by decide, show sv 0 = 0 by decide]
  have : sv b = 0 ↔ mag b = 0 := by
    obtain ⟨h0, h1⟩ := hb
    unfold sv mag; split <;> omega
  simp [this]
theorem less_nought {a : Int} (hn : nanB a = false) (ha : U64 a) : lessB a 0 = (belowB a && !decide (mag a = 0)) := by
  unfold lessB
  rw [hn, show nanB 0 = false by decide, show sv 0 = 0 by decide]
  obtain ⟨h0, h1⟩ := ha
  unfold belowB sv mag
  by_cases c : 9223372036854775808 ≤ a
  · rw [if_pos c, if_pos c, decide_eq_true c]
    by_cases d : a = 9223372036854775808
    · rw [d]; decide
    · rw [decide_eq_true (by omega), decide_eq_false (by omega)]; decide
  · rw [if_neg c, if_neg c, decide_eq_false c, decide_eq_false (by omega)]; rfl
theorem rem_guard {a b : Int} (hb : U64 b) (h : remBad a b = true) : equalB b 0 = true ∨ infB a = true ∨ nanB a = true ∨ nanB b = true := by
  cases hn : nanB b
  · rw [equal_nought hn hb]
    unfold remBad at h
    rw [hn] at h
    revert h
    cases nanB a <;> cases infB a <;> simp
  · simp
theorem rem_plain {a b : Int} (ha : U64 a) (hb : U64 b) (h : remBad a b = false) : Plain a b ∧ mag b ≠ 0 := by
  unfold remBad at h
  simp only [Bool.or_eq_false_iff] at h
  obtain ⟨h1, h2, h3, h4⟩ := h
  refine ⟨⟨ha, hb, ?_, h3, h1, h2⟩, of_decide_eq_false h4⟩
  rw [equal_nought h2 hb, h4]
theorem word_split {a : Int} (ha : U64 a) : a.toNat = (if belowB a then 9223372036854775808 else 0) + (mag a).toNat ∧ a = sgn (belowB a) + mag a := by
  obtain ⟨h0, h1⟩ := ha
  unfold belowB mag sgn
  by_cases c : 9223372036854775808 ≤ a
  · rw [decide_eq_true c, if_pos c, if_pos rfl, if_pos rfl]; omega
  · rw [decide_eq_false c, if_neg c, if_neg (by decide), if_neg (by decide)]; omega

theorem mathmod_any (a b : Int) (w : World) (ha : U64 a) (hb : U64 b) :
    Calls Try.prog 51 #[.float .f64 a.toNat, .float .f64 b.toNat] w fun e w' => ∃ n : Nat, e = .returned (.float .f64 n) ∧ n < 18446744073709551616 ∧ canonZ n = remZ a b ∧ w' = w := by
  cases hbad : remBad a b
  · obtain ⟨hp, hb0⟩ := rem_plain ha hb hbad
    obtain ⟨_, _, q1, q2, q3, q4⟩ := id hp
    have la := less_nought q3 ha
    obtain ⟨wa, wa2⟩ := word_split ha
    have ra := mag_range ha
    have rb := mag_range hb
    have fa : mag a < 9218868437227405312 := by
      unfold nanB at q3; unfold infB at q2
      have := of_decide_eq_false q3
      have := of_decide_eq_false q2
      omega
    have fb : mag b ≤ 9218868437227405312 := by
      unfold nanB at q4
      have := of_decide_eq_false q4
      omega
    have ca : canonZ ((a.toNat : Nat) : Int) = a := by
      rw [show ((a.toNat : Nat) : Int) = a by have := ha.1; omega]
      unfold canonZ; rw [q3]; rfl
    by_cases c : mag a = 0
    · rw [decide_eq_true c, Bool.not_true, Bool.and_false] at la
      have uY : U64 (mag b) := ⟨by omega, by omega⟩
      have sY : sv (mag b) = mag b := by
        generalize mag b = m at *
        unfold sv; split <;> omega
      have sa : sv a = 0 := by
        have := ha.1
        unfold mag at c; unfold sv
        split <;> split at c <;> omega
      have g1 := gt_test ha uY
      have g2 := eq_test ha uY
      have z1 : lessB (mag b) a = false := by
        unfold lessB
        rw [sa, sY, decide_eq_false (p := mag b < 0) (by omega)]; simp
      have z2 : equalB a (mag b) = false := by
        unfold equalB
        rw [sa, sY, decide_eq_false (p := (0 : Int) = mag b) (by omega)]; simp
      rw [z1] at g1
      rw [z2] at g2
      refine (mod_short a b false _ _ w hp la rfl rfl (by omega) (by omega) g1 g2).mono ?_
      rintro e w' ⟨rfl, hw'⟩
      refine ⟨a.toNat, rfl, by have := ha.2; omega, ?_, hw'⟩
      rw [ca]
      cases hi : infB b
      · have fb2 : mag b < 9218868437227405312 := by
          unfold infB at hi
          have := of_decide_eq_false hi
          omega
        rw [remZ_fin fa fb2 hb0]
        have : MZ a = 0 := by unfold MZ; rw [c]; exact M_zero
        rw [this, Nat.zero_mod, rung_tiny (Nat.zero_le _)]
        rw [c] at wa2
        exact wa2
      · rw [remZ_inf hbad hi]
    · rw [decide_eq_false c, Bool.not_false, Bool.and_true] at la
      obtain ⟨X, hX⟩ : ∃ X, X = (mag a).toNat := ⟨_, rfl⟩
      have hR : X = if belowB a then Op.negFloat .f64 a.toNat else a.toNat := by
        cases hs : belowB a
        · rw [hs] at wa
          rw [if_neg (by decide)] at wa ⊢
          omega
        · rw [hs, if_pos rfl] at wa
          rw [if_pos rfl, wa, ← hX, Nat.add_comm, negFloat_neg (by omega)]
      have back : (if belowB a then Op.negFloat .f64 X else X) = a.toNat := by
        cases hs : belowB a
        · rw [hs] at wa
          rw [if_neg (by decide)] at wa ⊢
          omega
        · rw [hs, if_pos rfl] at wa
          rw [if_pos rfl, wa, ← hX, Nat.add_comm, negFloat_pos (by omega)]
      cases hi : infB b
      · have fb2 : mag b < 9218868437227405312 := by
          unfold infB at hi
          have := of_decide_eq_false hi
          omega
        refine (mod_fin a b _ _ X w hp la rfl hR (by omega) (by omega) (by omega)).mono ?_
        rintro e w' ⟨r, rfl, hr, hM, hw'⟩
        have hn : (if belowB a then Op.negFloat .f64 r else r) = (if belowB a then r + 9223372036854775808 else r) := by
          rw [negFloat_pos (by omega)]
        rw [hn]
        refine ⟨_, rfl, by split <;> omega, ?_, hw'⟩
        have e1 : MZ a % MZ b = M r := by
          rw [hM, hX]; rfl
        rw [remZ_fin fa fb2 hb0, e1, rung_M (by omega), ← canon_sgn (belowB a) (by omega)]
        congr 1
        cases belowB a
        · show (r : Int) = 0 + (r : Int)
          omega
        · show ((r + 9223372036854775808 : Nat) : Int) = 9223372036854775808 + (r : Int)
          omega
      · have hI : (mag b).toNat = 9218868437227405312 := by
          unfold infB at hi
          rw [of_decide_eq_true hi]; decide
        have g1 := gt_pos (r := X) (s := 9218868437227405312) (by omega) (by omega)
        have g2 := eq_pos (r := X) (s := 9218868437227405312) (by omega) (by omega)
        rw [decide_eq_false (by omega)] at g1 g2
        refine (mod_short a b _ _ X w hp la hI hR (by omega) (by omega) g1 g2).mono ?_
        rintro e w' ⟨rfl, hw'⟩
        rw [back]
        exact ⟨a.toNat, rfl, by have := ha.2; omega, by rw [ca, remZ_inf hbad hi], hw'⟩
  · refine (mod_bad a b w ha hb (rem_guard hb hbad)).mono ?_
    rintro e w' ⟨rfl, hw'⟩
    exact ⟨_, rfl, by decide, by rw [remZ_bad hbad]; decide, hw'⟩

theorem mathMod_any (a b : Int) (w : World) (ha : U64 a) (hb : U64 b) :
    Calls Try.prog 32 #[.float .f64 a.toNat, .float .f64 b.toNat] w fun e w' => ∃ n : Nat, e = .returned (.float .f64 n) ∧ n < 18446744073709551616 ∧ canonZ n = remZ a b ∧ w' = w := by
  go_enter Try.func32, Try.ntmps32
  go_wp2_with fail
  refine (mathmod_any _ _ _ ha hb).mono ?_
  rintro e w' ⟨n, rfl, hn, hc, hw'⟩
  rw [hw']
  clear hw' w'
  have HC : Hid _ := hc
  clear hc
  go_wp2
  go_ret
  exact ⟨n, rfl, hn, HC.out, rfl⟩

theorem rem_any (a b : Int) (w : World) (ha : U64 a) (hb : U64 b) : Calls Try.prog 12 #[.int .u64 a, .int .u64 b] w fun e w' => e = .returned (.int .u64 (remZ a b)) ∧ Below w.heap.size w w' := by
  go_enter Try.func12, Try.ntmps12
  go_wp2_with fail
  refine (quoFloat_any _ _).mono ?_
  rintro e w' ⟨rfl, hw'⟩
  rw [hw']
  clear hw' w'
  go_wp2_with fail
  refine (quoFloat_any _ _).mono ?_
  rintro e w' ⟨rfl, hw'⟩
  rw [hw']
  clear hw' w'
  go_wp2_with fail
  refine (mathMod_any _ _ _ ha hb).mono ?_
  rintro e w' ⟨n, rfl, hn, hc, hw'⟩
  rw [hw']
  clear hw' w'
  have HC : Hid _ := hc
  clear hc
  go_wp2_with fail
  refine (quoOneNaN_any _ _ hn).mono ?_
  rintro e w' ⟨rfl, hw'⟩
  rw [hw']
  clear hw' w'
  go_wp2
  go_ret
  exact ⟨by rw [HC.out]; rfl, Below.refl _ _⟩

theorem top_bit {x : Nat} (h : x < 18446744073709551616) : x.testBit 63 = decide (9223372036854775808 ≤ x) := by
  rw [Nat.testBit_eq_decide_div_mod_eq, show (2 : Nat) ^ 63 = 9223372036854775808 by decide]
  by_cases c : 9223372036854775808 ≤ x
  · rw [decide_eq_true c, decide_eq_true (by omega)]
  · rw [decide_eq_false c, decide_eq_false (by omega)]
theorem signs_apart {r b : Int} (hr : U64 r) (hb : U64 b) : (bits .and .u64 (bits .xor .u64 r b) 9223372036854775808 == 0) = (belowB r == belowB b) := by
  obtain ⟨R, rfl⟩ := Int.eq_ofNat_of_zero_le hr.1
  obtain ⟨B, rfl⟩ := Int.eq_ofNat_of_zero_le hb.1
  have r1 := hr.2
  have b1 := hb.2
  rw [u64_xor_nat R B (by omega) (by omega)]
  have hx : R ^^^ B < 2 ^ 64 := Nat.xor_lt_two_pow (by omega) (by omega)
  rw [and_sign _ ⟨by omega, by omega⟩]
  have ht : (R ^^^ B).testBit 63 = (R.testBit 63 ^^ B.testBit 63) := Nat.testBit_xor ..
  rw [top_bit (by omega), top_bit (by omega), top_bit (by omega)] at ht
  unfold belowB
  have e1 : decide ((9223372036854775808 : Int) ≤ (R : Int)) = decide (9223372036854775808 ≤ R) := by
    by_cases c : 9223372036854775808 ≤ R
    · rw [decide_eq_true c, decide_eq_true (by omega)]
    · rw [decide_eq_false c, decide_eq_false (by omega)]
  have e2 : decide ((9223372036854775808 : Int) ≤ (B : Int)) = decide (9223372036854775808 ≤ B) := by
    by_cases c : 9223372036854775808 ≤ B
    · rw [decide_eq_true c, decide_eq_true (by omega)]
    · rw [decide_eq_false c, decide_eq_false (by omega)]
  rw [e1, e2]
  generalize decide (9223372036854775808 ≤ R) = u at *
  generalize decide (9223372036854775808 ≤ B) = v at *
  by_cases c : 9223372036854775808 ≤ R ^^^ B
  · rw [decide_eq_true c] at ht
    rw [if_pos (by omega)]
    revert ht; cases u <;> cases v <;> simp
  · rw [decide_eq_false c] at ht
    rw [if_neg (by omega)]
    revert ht; cases u <;> cases v <;> simp
theorem sign_of {b : Int} (hb : U64 b) : bits .and .u64 b 9223372036854775808 = sgn (belowB b) := by
  rw [and_sign b hb]
  unfold sgn belowB
  by_cases c : 9223372036854775808 ≤ b
  · rw [if_pos c, decide_eq_true c]; rfl
  · rw [if_neg c, decide_eq_false c]; rfl

theorem mod_any (a b : Int) (w : World) (ha : U64 a) (hb : U64 b) : Calls Try.prog 13 #[.int .u64 a, .int .u64 b] w fun e w' => e = .returned (.int .u64 (modZ a b)) ∧ Below w.heap.size w w' := by
  have hr := remZ_u64 (b := b) ha
  have HR : Hid _ := fun w => rem_any a b w ha hb
  unfold modZ
  generalize remZ a b = r at *
  have HK : Hid _ := fun w => kind_any r w hr
  have HA : Hid _ := fun w => add_any r b w hr hb
  have hs := signs_apart hr hb
  have hg := sign_of hb
  generalize addZ r b = S at *
  cases hn : nanB r
  · rw [if_neg (by decide)]
    by_cases c : mag r = 0
    · rw [if_pos c]
      have hk : kindZ r = 0 := by
        unfold kindZ; rw [if_neg (by omega), if_pos c]
      rw [hk] at HK
      rw [← hg]
      clear hs hg hk c hn
      go_enter Try.func13, Try.ntmps13
      go_wp2_with fail
      refine (HR.out _).mono ?_
      rintro e w1 ⟨rfl, hb1⟩
      go_wp2_with fail
      refine (HK.out _).mono ?_
      rintro e w' ⟨rfl, hw'⟩
      rw [hw']
      clear hw' w'
      go_wp2
      go_ret
      exact ⟨rfl, hb1⟩
    · rw [if_neg c]
      have hk : (kindZ r == 0) = false ∧ (kindZ r == 4) = false := by
        unfold nanB at hn
        have := of_decide_eq_false hn
        unfold kindZ; rw [if_neg (by omega), if_neg c]
        split
        · decide
        · split <;> decide
      obtain ⟨k1, k2⟩ := hk
      generalize kindZ r = K at *
      clear hn c hg
      by_cases d : belowB r = belowB b
      · rw [if_pos d]
        rw [d, beq_self_eq_true] at hs
        clear d
        go_enter Try.func13, Try.ntmps13
        go_wp2_with fail
        refine (HR.out _).mono ?_
        rintro e w1 ⟨rfl, hb1⟩
        go_wp2_with fail
        refine (HK.out _).mono ?_
        rintro e w' ⟨rfl, hw'⟩
        rw [hw']
        clear hw' w'
        go_wp2
        go_ret
        exact ⟨rfl, hb1⟩
      · rw [if_neg d]
        rw [beq_false_of_ne d] at hs
        clear d
        go_enter Try.func13, Try.ntmps13
        go_wp2_with fail
        refine (HR.out _).mono ?_
        rintro e w1 ⟨rfl, hb1⟩
        go_wp2_with fail
        refine (HK.out _).mono ?_
        rintro e w' ⟨rfl, hw'⟩
        rw [hw']
        clear hw' w'
        go_wp2_with fail
        refine (HA.out _).mono ?_
        rintro e w2 ⟨rfl, hb2⟩
        go_wp2
        go_ret
        exact ⟨rfl, hb1.trans (hb2.mono hb1.size)⟩
  · rw [if_pos rfl]
    have hk : kindZ r = 4 := by
      unfold nanB at hn
      have := of_decide_eq_true hn
      unfold kindZ; rw [if_pos (by omega)]
    rw [hk] at HK
    clear hs hg hk hn
    go_enter Try.func13, Try.ntmps13
    go_wp2_with fail
    refine (HR.out _).mono ?_
    rintro e w1 ⟨rfl, hb1⟩
    go_wp2_with fail
    refine (HK.out _).mono ?_
    rintro e w' ⟨rfl, hw'⟩
    rw [hw']
    clear hw' w'
    go_wp2
    go_ret
    exact ⟨rfl, hb1⟩

end Go.Proofs.Ytpgjibfggagbmaa
