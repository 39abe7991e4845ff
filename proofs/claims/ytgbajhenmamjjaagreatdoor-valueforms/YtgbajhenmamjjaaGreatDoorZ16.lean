/-
  Prt4, Prt5, Prt6
-/
import Derived.Laws.IdiomStrings
import Derived.Test.YtgbajhenmamjjaaGreatDoorZ15

/-
  The landed scale, walked.
-/
namespace Go.Proofs.YtgbajhenmamjjaaGreatDoor
set_option maxRecDepth 100000
open Go.RowKit Pt Flo

/-- A block that is not one of the room's, to stand for the caller's. -/
theorem sep_five {w : World} {b g0 g1 g2 g3 bx : Nat} (h : Sep w (b :: bx :: g0 :: g1 :: g2 :: g3 :: [])) : [b, g0, g1, g2, g3].Nodup := by
  have := (Sep.sub (p := [b]) h).1
  exact this
theorem Sep.hfacts {w : World} {b bx g0 g1 g2 g3 : Nat} {ss : List Nat} (h : Sep w (b :: bx :: g0 :: g1 :: g2 :: g3 :: ss)) :
    Hid ((b ≠ bx ∧ b ≠ g0 ∧ b ≠ g1 ∧ b ≠ g2 ∧ b ≠ g3) ∧ (bx ≠ g0 ∧ bx ≠ g1 ∧ bx ≠ g2 ∧ bx ≠ g3) ∧ (g0 ≠ g1 ∧ g0 ≠ g2 ∧ g0 ≠ g3) ∧ (g1 ≠ g2 ∧ g1 ≠ g3) ∧ g2 ≠ g3 ∧ (b < w.heap.size ∧ bx < w.heap.size)) := h.facts

theorem below_gb {w w' : World} (h : Below w.heap.size w w') (r : Option Nat) : w.grownBy w' r := ⟨h.os, h.tape, h.output, h.size, fun k hk _ => h.block k hk⟩
theorem under_le {X n j K : Nat} (h : X * 10 ^ n * 10 < 2 ^ K) (hj : j ≤ n) : X * 10 ^ j < 2 ^ K := by
  have h1 : X * 10 ^ j ≤ X * 10 ^ n := Nat.mul_le_mul_left _ (Nat.pow_le_pow_right (by decide) hj)
  omega

set_option maxHeartbeats 4000000 in
theorem scale_any (b bx g0 g1 g2 g3 T U L A n a c K B0 : Nat) (v0 v1 v2 v3 : Value) (ed : Bool) (place : Int) (w : World) (hM : RM w b g0 g1 g2 g3 v0 v1 v2 v3 T U L A ed)
    (hS : Sep w (b :: bx :: g0 :: g1 :: g2 :: g3 :: [])) (hB : B0 ≤ b ∧ B0 ≤ g0 ∧ B0 ≤ g1 ∧ B0 ≤ g2 ∧ B0 ≤ g3) (hBw : B0 ≤ w.heap.size)
    (hp1 : -1000 ≤ place) (hp2 : place ≤ 1000) (ha : (a : Int) = max (-place) 0) (hc : (c : Int) = max place 0) (hn : n ≤ 1000) (hK : K ≤ 100000)
    (HK : Hid (T * 10 ^ a < 2 ^ K ∧ L * 10 ^ a < 2 ^ K ∧ A * 10 ^ a < 2 ^ K ∧ U * 10 ^ c < 2 ^ K ∧ U * 10 ^ c * 10 ^ n * 10 < 2 ^ K)) (hU : 0 < U)
    (HN : Hid (T * 10 ^ a < 10 * (U * 10 ^ c * 10 ^ n) ∧ ∀ j, j < n → 10 * (U * 10 ^ c * 10 ^ j) ≤ T * 10 ^ a)) :
    Calls Tryz.prog 42 #[.pointer (some ⟨b, 0, none⟩), .int .i64 place] w fun e w' => e = .returned (.int .i64 (place + n)) ∧ ∃ h0 h1 h2 h3 u0 u1 u2 u3, RM w' b h0 h1 h2 h3 u0 u1 u2 u3 (T * 10 ^ a) (U * 10 ^ c * 10 ^ n) (L * 10 ^ a) (A * 10 ^ a) ed ∧ Sep w' (b :: bx :: h0 :: h1 :: h2 :: h3 :: []) ∧ Below B0 w w' ∧ (B0 ≤ h0 ∧ B0 ≤ h1 ∧ B0 ≤ h2 ∧ B0 ≤ h3) := by
  have F0 := hS.hfacts
  have hbel0 : Below B0 w w := Below.refl _ _
  have c00 := hM.c0
  have ha2 : a ≤ 1000 := by omega
  have hc2 : c ≤ 1000 := by omega
  have HAC : Hid ((a : Int) = max (-place) 0 ∧ (c : Int) = max place 0) := ⟨ha, hc⟩
  clear ha hc
  have hcs2 : place < 0 ∨ place = 0 ∨ 0 < place := by omega
  rcases hcs2 with q1 | q1 | q1
  all_goals
    go_enter Tryz.func42, Tryz.ntmps42
    go_wp2_with fail
    have c1 := hM.c0
    have f1 := hM.fz 0
    refine (timesTens_at _ a (by have := HAC.out; omega) v0 g0 T K _ hM.p0 HK.out.1 (by omega) (by omega)).mono ?_
    rintro e x1 ⟨v1', q1, rfl, hR1, hm1⟩
    obtain ⟨l1, p1, rfl, _⟩ := hR1.form
    have k1 : x1.cell? ⟨b, 0, none⟩ = some v0 := by rw [gb_cell hm1.1 F0.out.2.2.2.2.2.1 F0.out.1.2.1]; exact c1
    have k2 : x1.frozen? ⟨b, 0, none⟩ = false := by rw [gb_frozen hm1.1 F0.out.2.2.2.2.2.1 F0.out.1.2.1]; exact f1
    have hM1 := hM.put0 hS hm1 hR1
    obtain ⟨w1, hw1⟩ : ∃ w1, w1 = x1.setCell ⟨b, 0, none⟩ (.slice (some ⟨q1, 0, none⟩) l1 p1) := ⟨_, rfl⟩
    have gS1 : x1.grownBy w1 (some b) := by rw [hw1]; exact gb_set _ _ _ _
    rw [← hw1] at hM1
    have k3 := hM1.c2
    have k4 := hM1.c0
    rw [hw1] at k3 k4
    have hS1 := (Sep.mv (p := [b, bx]) hS hm1 hR1.lt).size gS1.size
    have hbel1 : Below B0 w w1 := (hbel0.trans (hm1.below (by have := hbel0.size; omega) hB.2.1)).grown gS1 (by have := hm1.1.size; have := hbel0.size; omega) (by intro s hs; simp at hs; omega)
    have he1 : B0 ≤ q1 := hm1.ge (by have := hbel0.size; omega) hB.2.1
    have F1 := hS1.hfacts
    go_wp2_with fail
    rw [← hw1]
    clear k1 k2 k3 k4 hw1 gS1 c1 f1
    have c2 := hM1.c2
    have f2 := hM1.fz 2
    refine (timesTens_at _ a (by have := HAC.out; omega) v2 g2 L K _ hM1.p2 HK.out.2.1 (by omega) (by omega)).mono ?_
    rintro e x2 ⟨v2', q2, rfl, hR2, hm2⟩
    obtain ⟨l2, p2, rfl, _⟩ := hR2.form
    have k1 : x2.cell? ⟨b, 2, none⟩ = some v2 := by rw [gb_cell hm2.1 F1.out.2.2.2.2.2.1 F1.out.1.2.2.2.1]; exact c2
    have k2 : x2.frozen? ⟨b, 2, none⟩ = false := by rw [gb_frozen hm2.1 F1.out.2.2.2.2.2.1 F1.out.1.2.2.2.1]; exact f2
    have hM2 := hM1.put2 hS1 hm2 hR2
    obtain ⟨w2, hw2⟩ : ∃ w2, w2 = x2.setCell ⟨b, 2, none⟩ (.slice (some ⟨q2, 0, none⟩) l2 p2) := ⟨_, rfl⟩
    have gS2 : x2.grownBy w2 (some b) := by rw [hw2]; exact gb_set _ _ _ _
    rw [← hw2] at hM2
    have k3 := hM2.c3
    have k4 := hM2.c0
    rw [hw2] at k3 k4
    have hS2 := (Sep.mv (p := [b, bx, q1, g1]) hS1 hm2 hR2.lt).size gS2.size
    have hbel2 : Below B0 w w2 := (hbel1.trans (hm2.below (by have := hbel1.size; omega) hB.2.2.2.1)).grown gS2 (by have := hm2.1.size; have := hbel1.size; omega) (by intro s hs; simp at hs; omega)
    have he2 : B0 ≤ q2 := hm2.ge (by have := hbel1.size; omega) hB.2.2.2.1
    have F2 := hS2.hfacts
    go_wp2_with fail
    rw [← hw2]
    clear k1 k2 k3 k4 hw2 gS2 c2 f2
    have c3 := hM2.c3
    have f3 := hM2.fz 3
    refine (timesTens_at _ a (by have := HAC.out; omega) v3 g3 A K _ hM2.p3 HK.out.2.2.1 (by omega) (by omega)).mono ?_
    rintro e x3 ⟨v3', q3, rfl, hR3, hm3⟩
    obtain ⟨l3, p3, rfl, _⟩ := hR3.form
    have k1 : x3.cell? ⟨b, 3, none⟩ = some v3 := by rw [gb_cell hm3.1 F2.out.2.2.2.2.2.1 F2.out.1.2.2.2.2]; exact c3
    have k2 : x3.frozen? ⟨b, 3, none⟩ = false := by rw [gb_frozen hm3.1 F2.out.2.2.2.2.2.1 F2.out.1.2.2.2.2]; exact f3
    have hM3 := hM2.put3 hS2 hm3 hR3
    obtain ⟨w3, hw3⟩ : ∃ w3, w3 = x3.setCell ⟨b, 3, none⟩ (.slice (some ⟨q3, 0, none⟩) l3 p3) := ⟨_, rfl⟩
    have gS3 : x3.grownBy w3 (some b) := by rw [hw3]; exact gb_set _ _ _ _
    rw [← hw3] at hM3
    have k3 := hM3.c1
    have k4 := hM3.c0
    rw [hw3] at k3 k4
    have hS3 := (Sep.mv (p := [b, bx, q1, g1, q2]) hS2 hm3 hR3.lt).size gS3.size
    have hbel3 : Below B0 w w3 := (hbel2.trans (hm3.below (by have := hbel2.size; omega) hB.2.2.2.2)).grown gS3 (by have := hm3.1.size; have := hbel2.size; omega) (by intro s hs; simp at hs; omega)
    have he3 : B0 ≤ q3 := hm3.ge (by have := hbel2.size; omega) hB.2.2.2.2
    have F3 := hS3.hfacts
    go_wp2_with fail
    rw [← hw3]
    clear k1 k2 k3 k4 hw3 gS3 c3 f3
    have c4 := hM3.c1
    have f4 := hM3.fz 1
    refine (timesTens_at _ c (by have := HAC.out; omega) v1 g1 U K _ hM3.p1 HK.out.2.2.2.1 (by omega) (by omega)).mono ?_
    rintro e x4 ⟨v4', q4, rfl, hR4, hm4⟩
    obtain ⟨l4, p4, rfl, _⟩ := hR4.form
    have k1 : x4.cell? ⟨b, 1, none⟩ = some v1 := by rw [gb_cell hm4.1 F3.out.2.2.2.2.2.1 F3.out.1.2.2.1]; exact c4
    have k2 : x4.frozen? ⟨b, 1, none⟩ = false := by rw [gb_frozen hm4.1 F3.out.2.2.2.2.2.1 F3.out.1.2.2.1]; exact f4
    have hM4 := hM3.put1 hS3 hm4 hR4
    obtain ⟨w4, hw4⟩ : ∃ w4, w4 = x4.setCell ⟨b, 1, none⟩ (.slice (some ⟨q4, 0, none⟩) l4 p4) := ⟨_, rfl⟩
    have gS4 : x4.grownBy w4 (some b) := by rw [hw4]; exact gb_set _ _ _ _
    rw [← hw4] at hM4
    have k3 := hM4.c1
    have k4 := hM4.c0
    rw [hw4] at k3 k4
    have hS4 := (Sep.mv (p := [b, bx, q1]) hS3 hm4 hR4.lt).size gS4.size
    have hbel4 : Below B0 w w4 := (hbel3.trans (hm4.below (by have := hbel3.size; omega) hB.2.2.1)).grown gS4 (by have := hm4.1.size; have := hbel3.size; omega) (by intro s hs; simp at hs; omega)
    have he4 : B0 ≤ q4 := hm4.ge (by have := hbel3.size; omega) hB.2.2.1
    have F4 := hS4.hfacts
    go_wp2_with fail
    rw [← hw4]
    clear k1 k2 k3 k4 hw4 gS4 c4 f4
    go_loopw [1] (fun t1 wr => ∃ (j h1 : Nat) (u1 : Value), j ≤ n ∧ t1 = .int .i64 (place + j) ∧ RM wr b q1 h1 q2 q3 (.slice (some ⟨q1, 0, none⟩) l1 p1) u1 (.slice (some ⟨q2, 0, none⟩) l2 p2) (.slice (some ⟨q3, 0, none⟩) l3 p3) (T * 10 ^ a) (U * 10 ^ c * 10 ^ j) (L * 10 ^ a) (A * 10 ^ a) ed ∧ Sep wr (b :: bx :: q1 :: h1 :: q2 :: q3 :: []) ∧ Below B0 w wr ∧ B0 ≤ h1) (fun t1 _ => (place + n - intOf t1).toNat)
    case atStart => exact ⟨0, q4, _, Nat.zero_le _, by go_num, by rw [Nat.pow_zero, Nat.mul_one]; exact hM4, hS4, hbel4, he4⟩
    case round =>
      obtain ⟨j, h1, u1', hj, rfl, hMr, hSr, hbelr, hh1⟩ := hrel
      have Fr := hSr.hfacts
      have HX : Hid (0 < U * 10 ^ c * 10 ^ j ∧ U * 10 ^ c * 10 ^ j < 2 ^ K) := ⟨Nat.mul_pos (Nat.mul_pos hU (Nat.pow_pos (by decide))) (Nat.pow_pos (by decide)), under_le HK.out.2.2.2.2 hj⟩
      have c1 := hMr.c1
      have f1 := hMr.fz 1
      have hB0r : B0 ≤ wr.heap.size := by have := hbelr.size; omega
      have HSt : Hid (U * 10 ^ c * 10 ^ j * 10 = U * 10 ^ c * 10 ^ (j + 1)) := by show _ = _; rw [Nat.pow_succ, Nat.mul_assoc (U * 10 ^ c)]
      have HCm : Hid ((j = n → cmpI (T * 10 ^ a) (U * 10 ^ c * 10 ^ j * 10) < 0) ∧ (j < n → 0 ≤ cmpI (T * 10 ^ a) (U * 10 ^ c * 10 ^ j * 10))) := by
        constructor
        · intro e
          rw [cmpI_lt (by rw [e, Nat.mul_comm _ 10]; exact HN.out.1)]; decide
        · intro h
          have := HN.out.2 j h
          rw [Nat.mul_comm 10] at this
          rcases Nat.lt_or_ge (U * 10 ^ c * 10 ^ j * 10) (T * 10 ^ a) with d | d
          · rw [cmpI_gt d]; decide
          · rw [cmpI_eq (by omega)]; decide
      obtain ⟨X, hX⟩ : ∃ X, X = U * 10 ^ c * 10 ^ j := ⟨_, rfl⟩
      obtain ⟨T1, hT1⟩ : ∃ T1, T1 = T * 10 ^ a := ⟨_, rfl⟩
      rw [← hX] at hMr HX HSt HCm
      rw [← hT1] at hMr HCm
      have HXe : Hid (X = U * 10 ^ c * 10 ^ j) := hX
      have HTe : Hid (T1 = T * 10 ^ a) := hT1
      clear hX hT1
      go_wp2_with fail
      refine (clone_any u1' h1 X K _ hMr.p1 HX.out.2 (by omega) HX.out.1).mono ?_
      rintro e x1 ⟨vc, gc, rfl, hRc, hbc, hgc⟩
      go_wp2_with fail
      refine (times_lit 10 _ rfl _ gc X K _ hRc HX.out.2 (by omega) (by decide) (by decide)).mono ?_
      rintro e x2 ⟨vt, gt, rfl, hRt, hmt⟩
      obtain ⟨lt, pt, rfl, _⟩ := hRt.form
      have hB2 : Below wr.heap.size wr x2 := hbc.trans (hmt.below hbc.size hgc)
      have hgt : wr.heap.size ≤ gt := hmt.ge hbc.size hgc
      have hM2' := hMr.below hB2 Fr.out.2.2.2.2.2.1
      have d0 := hM2'.c0
      have d1 := hM2'.c1
      have e1 := hM2'.fz 1
      clear hRc hbc hgc hmt c1 f1
      go_wp2_with fail
      refine (compare_any _ _ q1 gt T1 (X * 10) _ hM2'.p0 hRt).mono ?_
      rintro e x3 ⟨rfl, q, hq⟩
      have hB3 : Below wr.heap.size wr x3 := by rw [hq]; exact below_drewN hB2 q
      have hR3' : PR x3 gt (.slice (some ⟨gt, 0, none⟩) lt pt) (X * 10) := by rw [hq]; exact hRt
      have d1' : x3.cell? ⟨b, 1, none⟩ = some u1' := by rw [hq]; exact d1
      have e1' : x3.frozen? ⟨b, 1, none⟩ = false := by rw [hq]; exact e1
      clear hq hM2' d0 d1 e1 hRt hB2
      by_cases cj : j = n
      · have hci := HCm.out.1 cj
        go_wp2
        go_ret
        have hME := hMr.below hB3 Fr.out.2.2.2.2.2.1
        rw [HXe.out, HTe.out, cj] at hME
        exact ⟨ret_i64 (by omega), q1, h1, q2, q3, _, _, _, _, hME, hSr.size hB3.size, hbelr.trans (hB3.mono hB0r), he1, hh1, he2, he3⟩
      · have hci0 := HCm.out.2 (by omega)
        have hci : ¬ cmpI T1 (X * 10) < 0 := by omega
        clear hci0
        have hmv : Mv wr x3 h1 gt := ⟨below_gb hB3 _, Or.inr hgt⟩
        have hM5 := hMr.put1 hSr hmv hR3'
        have hS5 := (Sep.mv (p := [b, bx, q1]) hSr hmv hR3'.lt).size (w' := x3.setCell ⟨b, 1, none⟩ (.slice (some ⟨gt, 0, none⟩) lt pt)) (by simp)
        go_wp2
        rw [HSt.out, HTe.out] at hM5
        have hB5 : Below B0 w (x3.setCell ⟨b, 1, none⟩ (.slice (some ⟨gt, 0, none⟩) lt pt)) := (hbelr.trans (hB3.mono hB0r)).setCell (p := ⟨b, 1, none⟩) hB.1 _
        have hj1 : j + 1 ≤ n := by omega
        have hgt0 : B0 ≤ gt := by omega
        refine And.intro (Exists.intro (j + 1) (Exists.intro gt (Exists.intro _ (And.intro hj1 (And.intro ?_ (And.intro hM5 (And.intro hS5 (And.intro hB5 hgt0)))))))) ?_
        · exact int_eq (by omega)
        · simp only [intOf]; omega

end Go.Proofs.YtgbajhenmamjjaaGreatDoor

/-
  The landed leastPlaceOf and roomOf, walked.
-/
namespace Go.Proofs.YtgbajhenmamjjaaGreatDoor
set_option maxRecDepth 100000
open Go.RowKit Pt Flo

set_option maxHeartbeats 400000 in
theorem least_any (exp : Int) (f l : Nat) (w : World) (hf : f < 18446744073709551616) (hl : Lib.bitLen f = l) (hl2 : l ≤ 64) (h1 : -2000 ≤ exp) (h2 : exp ≤ 2000) :
    Calls Tryz.prog 43 #[.int .i64 exp, .int .u64 f] w fun e w' => e = .returned (.int .i64 ((exp + l - 1) * 1233 / 4096 - 1)) ∧ w' = w := by
  go_enter Tryz.func43, Tryz.ntmps43
  go_wp2_with (go_at_call 67; refine (len64_nat f l _ hf hl).mono ?_; rintro e w' ⟨rfl, rfl⟩)
  go_ret
  exact ⟨rfl, rfl⟩

theorem PR.set5 {w : World} {B g n : Nat} {v : Value} (h : PR w g v n) (hg : g ≠ B) (a b c d e : Value) : PR (((((w.setCell ⟨B, 0, none⟩ a).setCell ⟨B, 1, none⟩ b).setCell ⟨B, 2, none⟩ c).setCell ⟨B, 3, none⟩ d).setCell ⟨B, 4, none⟩ e) g v n :=
  ((((h.other (gb_set _ _ _ _) hg).other (gb_set _ _ _ _) hg).other (gb_set _ _ _ _) hg).other (gb_set _ _ _ _) hg).other (gb_set _ _ _ _) hg

set_option maxHeartbeats 4000000 in
theorem roomOf_low (exp : Int) (f up down : Nat) (ed : Bool) (w : World) (hf : f < 18446744073709551616) (h1 : -2000 ≤ exp) (h2 : exp ≤ 2000) (hb1 : ((f : Int) == 4503599627370496) = false) (q1 : exp - 2 < 0) (HE : Hid (((f : Int) % 2 == 0) = ed))
    (hu : up = 0) (hd : (down : Int) = -(exp - 2)) (HP : Hid (f * 2 ^ (up + 2) < 2 ^ (64 + (up + 2)) ∧ 1 * 2 ^ down < 2 ^ (1 + down) ∧ 2 * 2 ^ up < 2 ^ (2 + up) ∧ 2 * 2 ^ up < 2 ^ (2 + up))) :
    Calls Tryz.prog 41 #[.int .i64 exp, .int .u64 f] w fun e w' => ∃ g0 g1 g2 g3 v0 v1 v2 v3, e = .returned (.agg #[v0, v1, v2, v3, .bool ed]) ∧ PR w' g0 v0 (f * 2 ^ (up + 2)) ∧ PR w' g1 v1 (1 * 2 ^ down) ∧ PR w' g2 v2 (2 * 2 ^ up) ∧ PR w' g3 v3 (2 * 2 ^ up) ∧
      (g0 < g1 ∧ g1 < g2 ∧ g2 < g3 ∧ w.heap.size < g0) ∧ Below w.heap.size w w' := by
  obtain ⟨w0, hw0⟩ : ∃ w0, w0 = w.alloc (.cells #[.slice none 0 0, .slice none 0 0, .slice none 0 0, .slice none 0 0, .bool false] 61) := ⟨_, rfl⟩
  have HW0 : Hid (w0 = w.alloc (.cells #[.slice none 0 0, .slice none 0 0, .slice none 0 0, .slice none 0 0, .bool false] 61)) := hw0
  have hsz0 : w0.heap.size = w.heap.size + 1 := by rw [hw0]; simp
  have hdn : down ≤ 2100 := by omega
  go_enter Tryz.func41, Tryz.ntmps41
  go_wp2_with fail
  rw [← hw0]
  clear hw0
  refine (partsOf_any f _ hf).mono ?_
  rintro e y0 ⟨a0, rfl, hA0, hBa0⟩
  have sA0 := hA0.lt
  have zA0 := hBa0.size
  go_wp2_with fail
  refine (timesTwos_at _ (up + 2) (by omega) a0 w0.heap.size f _ _ hA0 HP.out.1 (by omega) (by omega)).mono ?_
  rintro e x0 ⟨b0, g0, rfl, h0, hm0⟩
  have sB0 := h0.lt
  have zB0 := hm0.1.size
  have gB0 := hm0.ge (B := w0.heap.size) (by omega) (Nat.le_refl _)
  obtain ⟨l0, p0, rfl, _⟩ := h0.form
  have B0' : Below w0.heap.size w0 x0 := hBa0.trans (hm0.below (by omega) (Nat.le_refl _))
  go_wp2_with fail
  refine (partsOf_any 1 _ (by decide)).mono ?_
  rintro e y1 ⟨a1, rfl, hA1, hBa1⟩
  have sA1 := hA1.lt
  have zA1 := hBa1.size
  have h0_1 := h0.below hBa1 h0.lt
  go_wp2_with fail
  refine (timesTwos_at _ down (by omega) a1 x0.heap.size 1 _ _ hA1 HP.out.2.1 (by omega) (by omega)).mono ?_
  rintro e x1 ⟨b1, g1, rfl, h1, hm1⟩
  have sB1 := h1.lt
  have zB1 := hm1.1.size
  have gB1 := hm1.ge (B := x0.heap.size) (by omega) (Nat.le_refl _)
  have h0_1' := hm1.pr h0_1 (by omega)
  obtain ⟨l1, p1, rfl, _⟩ := h1.form
  have B1' : Below w0.heap.size w0 x1 := B0'.trans ((hBa1.trans (hm1.below (by omega) (Nat.le_refl _))).mono (by omega))
  go_wp2_with fail
  refine (partsOf_any 2 _ (by decide)).mono ?_
  rintro e y2 ⟨a2, rfl, hA2, hBa2⟩
  have sA2 := hA2.lt
  have zA2 := hBa2.size
  have h0_2 := h0_1'.below hBa2 h0_1'.lt
  have h1_2 := h1.below hBa2 h1.lt
  go_wp2_with fail
  refine (timesTwos_at _ up (by omega) a2 x1.heap.size 2 _ _ hA2 HP.out.2.2.2 (by omega) (by omega)).mono ?_
  rintro e x2 ⟨b2, g2, rfl, h2, hm2⟩
  have sB2 := h2.lt
  have zB2 := hm2.1.size
  have gB2 := hm2.ge (B := x1.heap.size) (by omega) (Nat.le_refl _)
  have h0_2' := hm2.pr h0_2 (by omega)
  have h1_2' := hm2.pr h1_2 (by omega)
  obtain ⟨l2, p2, rfl, _⟩ := h2.form
  have B2' : Below w0.heap.size w0 x2 := B1'.trans ((hBa2.trans (hm2.below (by omega) (Nat.le_refl _))).mono (by omega))
  go_wp2_with fail
  refine (partsOf_any 2 _ (by decide)).mono ?_
  rintro e y3 ⟨a3, rfl, hA3, hBa3⟩
  have sA3 := hA3.lt
  have zA3 := hBa3.size
  have h0_3 := h0_2'.below hBa3 h0_2'.lt
  have h1_3 := h1_2'.below hBa3 h1_2'.lt
  have h2_3 := h2.below hBa3 h2.lt
  go_wp2_with fail
  refine (timesTwos_at _ up (by omega) a3 x2.heap.size 2 _ _ hA3 HP.out.2.2.2 (by omega) (by omega)).mono ?_
  rintro e x3 ⟨b3, g3, rfl, h3, hm3⟩
  have sB3 := h3.lt
  have zB3 := hm3.1.size
  have gB3 := hm3.ge (B := x2.heap.size) (by omega) (Nat.le_refl _)
  have h0_3' := hm3.pr h0_3 (by omega)
  have h1_3' := hm3.pr h1_3 (by omega)
  have h2_3' := hm3.pr h2_3 (by omega)
  obtain ⟨l3, p3, rfl, _⟩ := h3.form
  have B3' : Below w0.heap.size w0 x3 := B2'.trans ((hBa3.trans (hm3.below (by omega) (Nat.le_refl _))).mono (by omega))
  have k0 : x3.cell? ⟨w.heap.size, 0, none⟩ = some (.slice none 0 0) := by rw [B3'.cell (p := ⟨w.heap.size, 0, none⟩) (by show w.heap.size < _; omega), HW0.out]; simp
  have k1 : x3.cell? ⟨w.heap.size, 1, none⟩ = some (.slice none 0 0) := by rw [B3'.cell (p := ⟨w.heap.size, 1, none⟩) (by show w.heap.size < _; omega), HW0.out]; simp
  have k2 : x3.cell? ⟨w.heap.size, 2, none⟩ = some (.slice none 0 0) := by rw [B3'.cell (p := ⟨w.heap.size, 2, none⟩) (by show w.heap.size < _; omega), HW0.out]; simp
  have k3 : x3.cell? ⟨w.heap.size, 3, none⟩ = some (.slice none 0 0) := by rw [B3'.cell (p := ⟨w.heap.size, 3, none⟩) (by show w.heap.size < _; omega), HW0.out]; simp
  have k4 : x3.cell? ⟨w.heap.size, 4, none⟩ = some (.bool false) := by rw [B3'.cell (p := ⟨w.heap.size, 4, none⟩) (by show w.heap.size < _; omega), HW0.out]; simp
  have fz0 : x3.frozen? ⟨w.heap.size, 0, none⟩ = false := by rw [B3'.frozen (p := ⟨w.heap.size, 0, none⟩) (by show w.heap.size < _; omega), HW0.out]; simp
  have fz1 : x3.frozen? ⟨w.heap.size, 1, none⟩ = false := by rw [B3'.frozen (p := ⟨w.heap.size, 1, none⟩) (by show w.heap.size < _; omega), HW0.out]; simp
  have fz2 : x3.frozen? ⟨w.heap.size, 2, none⟩ = false := by rw [B3'.frozen (p := ⟨w.heap.size, 2, none⟩) (by show w.heap.size < _; omega), HW0.out]; simp
  have fz3 : x3.frozen? ⟨w.heap.size, 3, none⟩ = false := by rw [B3'.frozen (p := ⟨w.heap.size, 3, none⟩) (by show w.heap.size < _; omega), HW0.out]; simp
  have fz4 : x3.frozen? ⟨w.heap.size, 4, none⟩ = false := by rw [B3'.frozen (p := ⟨w.heap.size, 4, none⟩) (by show w.heap.size < _; omega), HW0.out]; simp
  clear hm0 hm1 hm2 hm3 hBa0 hBa1 hBa2 hBa3 hA0 hA1 hA2 hA3
  go_wp2_with fail
  refine bodyPost_ret (v := .agg #[.slice (some ⟨g0, 0, none⟩) l0 p0, .slice (some ⟨g1, 0, none⟩) l1 p1, .slice (some ⟨g2, 0, none⟩) l2 p2, .slice (some ⟨g3, 0, none⟩) l3 p3, .bool ((f : Int) % 2 == 0)]) (by simp [results, Tryz.results41, go_sem, k0, k1, k2, k3, k4]) rfl ⟨g0, g1, g2, g3, _, _, _, _, by rw [HE.out], h0_3'.set5 (by omega) _ _ _ _ _, h1_3'.set5 (by omega) _ _ _ _ _, h2_3'.set5 (by omega) _ _ _ _ _, h3.set5 (by omega) _ _ _ _ _, by omega, ?_⟩
  have hB : Below w.heap.size w x3 := by
    have : Below w.heap.size w w0 := by rw [HW0.out]; exact (Below.refl _ _).alloc (Nat.le_refl _) _
    exact this.trans (B3'.mono (by omega))
  exact ((((hB.setCell (p := ⟨w.heap.size, 0, none⟩) (Nat.le_refl _) _).setCell (p := ⟨w.heap.size, 1, none⟩) (Nat.le_refl _) _).setCell (p := ⟨w.heap.size, 2, none⟩) (Nat.le_refl _) _).setCell (p := ⟨w.heap.size, 3, none⟩) (Nat.le_refl _) _).setCell (p := ⟨w.heap.size, 4, none⟩) (Nat.le_refl _) _

set_option maxHeartbeats 400000 in
theorem withDot_same (s : ByteArray) (n : Nat) (w : World) (hs : s.size = n) (hn : n ≤ 1000000) :
    Calls Tryz.prog 45 #[.string s, .int .i64 n] w fun e w' => e = .returned (.string s) ∧ w' = w := by
  have h1 : ((s.size : Int) == (n : Int)) = true := by rw [beq_iff_eq]; omega
  have hs2 : s.size ≤ 1000000 := by omega
  clear hs
  go_enter Tryz.func45, Tryz.ntmps45
  go_wp2
  go_ret
  exact ⟨rfl, rfl⟩
set_option maxHeartbeats 400000 in
theorem laidOut_same (s : ByteArray) (n : Nat) (w : World) (hs : s.size = n + 1) (hn : n ≤ 20) :
    Calls Tryz.prog 33 #[.string s, .int .i64 n] w fun e w' => e = .returned (.string s) ∧ w' = w := by
  have HW : Hid (∀ w, Calls Tryz.prog 45 #[.string s, .int .i64 ((n : Int) + 1)] w fun e w' => e = .returned (.string s) ∧ w' = w) := fun w => by
    have := withDot_same s (n + 1) w hs (by omega)
    rw [Int.natCast_add] at this
    exact this
  have h1 : ¬ (s.size : Int) < (n : Int) + 1 := by omega
  have h2 : s.size ≤ 21 := by omega
  have h3 : ¬ (n : Int) < -7 := by omega
  have h4 : ¬ (20 : Int) < (n : Int) := by omega
  have h5 : ¬ (n : Int) < 0 := by omega
  clear hs
  go_enter Tryz.func33, Tryz.ntmps33
  go_wp2_with (go_at_call 45; refine (HW.out _).mono ?_; rintro e w' ⟨rfl, rfl⟩)
  go_ret
  exact ⟨rfl, rfl⟩

end Go.Proofs.YtgbajhenmamjjaaGreatDoor

/-
  The landed shortest, walked.
-/
namespace Go.Proofs.YtgbajhenmamjjaaGreatDoor
set_option maxRecDepth 100000
open Go.RowKit Pt Flo

/-- Digits as their letters. -/
def dtx (ds : List Nat) : List UInt8 := ds.map fun d => UInt8.ofNat (48 + d)
theorem c8_set (ds : List Nat) (j d : Nat) : (c8 ds).set j (.int .u8 (d : Int)) = c8 (ds.set j d) := by unfold c8; rw [List.map_set]
theorem c8_get (ds : List Nat) (j : Nat) (h : j < ds.length) : (c8 ds)[j]? = some (.int .u8 (ds.getD j 0 : Nat)) := by
  unfold c8
  rw [List.getElem?_map, List.getElem?_eq_getElem h, List.getD_eq_getElem?_getD, List.getElem?_eq_getElem h]; rfl
theorem dtx_get (ds : List Nat) (j : Nat) (h : j < (dtx ds).length) (h9 : ds.getD j 0 ≤ 9) : (dtx ds)[j].toNat = ds.getD j 0 + 48 := by
  have hj : j < ds.length := by unfold dtx at h; simpa using h
  have e : (dtx ds)[j] = UInt8.ofNat (48 + ds[j]) := by simp [dtx]
  have e2 : ds.getD j 0 = ds[j] := by rw [List.getD_eq_getElem?_getD, List.getElem?_eq_getElem hj]; rfl
  rw [e2] at h9 ⊢
  rw [e]
  simp
  omega
theorem getD_set_same (rs : List Nat) (k y : Nat) (h : k < rs.length) : (rs.set k y).getD k 0 = y := by
  rw [List.getD_eq_getElem?_getD, List.getElem?_set_self h]; rfl

set_option maxHeartbeats 4000000 in
theorem shortest_low (exp : Int) (f l a c n K down : Nat) (ed : Bool) (DS : List Nat) (w : World) (hf : f < 18446744073709551616) (h1 : -1074 ≤ exp) (h2 : exp ≤ 1) (hb1 : ((f : Int) == 4503599627370496) = false) (HE : Hid (((f : Int) % 2 == 0) = ed))
    (hl : Lib.bitLen f = l) (hl2 : l ≤ 64) (hd : (down : Int) = -(exp - 2)) (place : Int) (hpl : place = (exp + l - 1) * 1233 / 4096 - 1) (ha : (a : Int) = max (-place) 0) (hc : (c : Int) = max place 0) (hn : n ≤ 1000) (hK : K ≤ 100000)
    (HK : Hid (f * 2 ^ 2 * 10 ^ a < 2 ^ K ∧ 2 * 2 ^ 0 * 10 ^ a < 2 ^ K ∧ 2 * 2 ^ 0 * 10 ^ a < 2 ^ K ∧ 1 * 2 ^ down * 10 ^ c < 2 ^ K ∧ 1 * 2 ^ down * 10 ^ c * 10 ^ n * 10 < 2 ^ K))
    (HN : Hid (f * 2 ^ 2 * 10 ^ a < 10 * (1 * 2 ^ down * 10 ^ c * 10 ^ n) ∧ ∀ j, j < n → 10 * (1 * 2 ^ down * 10 ^ c * 10 ^ j) ≤ f * 2 ^ 2 * 10 ^ a))
    (D0 : Nat) (HD0 : Hid (DS[0]? = some D0)) (hD0 : D0 ≤ 9) (HDS : Hid (∀ j, DS.getD j 0 ≤ 9)) (hDSl : 0 < DS.length) (hDSm : DS.length ≤ 100) (HD : Hid (digF (1 * 2 ^ down * 10 ^ c * 10 ^ n) ed 20 (f * 2 ^ 2 * 10 ^ a) (2 * 2 ^ 0 * 10 ^ a) (2 * 2 ^ 0 * 10 ^ a) = some DS)) :
    Calls Tryz.prog 32 #[.int .i64 exp, .int .u64 f] w fun e w' => e = .returned (.tuple #[.string (Txt.bs (dtx DS)), .int .i64 (place + n)]) ∧ Below w.heap.size w w' := by
  have HP : Hid (f * 2 ^ (0 + 2) < 2 ^ (64 + (0 + 2)) ∧ 1 * 2 ^ down < 2 ^ (1 + down) ∧ 2 * 2 ^ 0 < 2 ^ (2 + 0) ∧ 2 * 2 ^ 0 < 2 ^ (2 + 0)) := by
    refine ⟨by rw [Nat.pow_add 2 64]; exact Nat.mul_lt_mul_of_pos_right (by omega) (by decide), by rw [Nat.pow_add 2 1]; exact Nat.mul_lt_mul_of_pos_right (by decide) (Nat.two_pow_pos down), by decide, by decide⟩
  have HR : Hid (∀ w, Calls Tryz.prog 41 #[.int .i64 exp, .int .u64 f] w fun e w' => ∃ g0 g1 g2 g3 v0 v1 v2 v3, e = .returned (.agg #[v0, v1, v2, v3, .bool ed]) ∧ PR w' g0 v0 (f * 2 ^ (0 + 2)) ∧ PR w' g1 v1 (1 * 2 ^ down) ∧ PR w' g2 v2 (2 * 2 ^ 0) ∧ PR w' g3 v3 (2 * 2 ^ 0) ∧ (g0 < g1 ∧ g1 < g2 ∧ g2 < g3 ∧ w.heap.size < g0) ∧ Below w.heap.size w w') := fun w =>
    roomOf_low exp f 0 down ed w hf (by omega) (by omega) hb1 (by omega) HE rfl hd HP
  have HL : Hid (∀ w, Calls Tryz.prog 43 #[.int .i64 exp, .int .u64 f] w fun e w' => e = .returned (.int .i64 place) ∧ w' = w) := fun w => by rw [hpl]; exact least_any exp f l w hf hl hl2 (by omega) (by omega)
  have hpb : -1000 ≤ place ∧ place ≤ 1000 := by omega
  obtain ⟨hp1, hp2⟩ := hpb
  clear hpl
  go_enter Tryz.func32, Tryz.ntmps32
  go_wp2_with fail
  refine (HR.out _).mono ?_
  rintro e w1 ⟨g0, g1, g2, g3, v0, v1, v2, v3, rfl, p0, p1, p2, p3, hord, hb1'⟩
  obtain ⟨l0, q0, rfl, _⟩ := p0.form
  obtain ⟨l1, q1, rfl, _⟩ := p1.form
  obtain ⟨l2, q2, rfl, _⟩ := p2.form
  obtain ⟨l3, q3, rfl, _⟩ := p3.form
  go_wp2_with fail
  refine (HL.out _).mono ?_
  rintro e w' ⟨rfl, rfl⟩
  go_wp2_with fail
  obtain ⟨wB, hwB⟩ : ∃ wB, wB = w1.alloc (.cells #[.slice (some ⟨g0, 0, none⟩) l0 q0, .slice (some ⟨g1, 0, none⟩) l1 q1, .slice (some ⟨g2, 0, none⟩) l2 q2, .slice (some ⟨g3, 0, none⟩) l3 q3, .bool ed] 61) := ⟨_, rfl⟩
  obtain ⟨br, hbr⟩ : ∃ br, br = w1.heap.size := ⟨_, rfl⟩
  have hBB : Below w1.heap.size w1 wB := by rw [hwB]; exact (Below.refl _ _).alloc (Nat.le_refl _) _
  have sz1 := hb1'.size
  have szB : wB.heap.size = w1.heap.size + 1 := by rw [hwB]; simp
  have s0 := p0.lt
  have s1 := p1.lt
  have s2 := p2.lt
  have s3 := p3.lt
  have hM : RM wB br g0 g1 g2 g3 (.slice (some ⟨g0, 0, none⟩) l0 q0) (.slice (some ⟨g1, 0, none⟩) l1 q1) (.slice (some ⟨g2, 0, none⟩) l2 q2) (.slice (some ⟨g3, 0, none⟩) l3 q3) (f * 2 ^ 2) (1 * 2 ^ down) (2 * 2 ^ 0) (2 * 2 ^ 0) ed := by
    refine ⟨?_, ?_, ?_, ?_, ?_, ?_, p0.below hBB s0, p1.below hBB s1, p2.below hBB s2, p3.below hBB s3⟩
    · rw [hwB, hbr]; simp
    · rw [hwB, hbr]; simp
    · rw [hwB, hbr]; simp
    · rw [hwB, hbr]; simp
    · rw [hwB, hbr]; simp
    · intro i; rw [hwB, hbr]; simp
  have hS : Sep wB (br :: w.heap.size :: g0 :: g1 :: g2 :: g3 :: []) := by
    refine ⟨?_, ?_⟩
    · simp only [List.nodup_cons, List.mem_cons, not_or, List.not_mem_nil]
      refine ⟨⟨by omega, by omega, by omega, by omega, by omega, by simp⟩, ⟨by omega, by omega, by omega, by omega, by simp⟩, ⟨by omega, by omega, by omega, by simp⟩, ⟨by omega, by omega, by simp⟩, ⟨by omega, by simp⟩, by simp, by simp⟩
    · intro x hx
      simp only [List.mem_cons, List.not_mem_nil, or_false] at hx
      omega
  rw [← hwB, ← hbr]
  have hbelB : Below w.heap.size w wB := hb1'.trans (hBB.mono sz1)
  have hord2 : w.heap.size ≤ br ∧ w.heap.size ≤ g0 ∧ w.heap.size ≤ g1 ∧ w.heap.size ≤ g2 ∧ w.heap.size ≤ g3 := by omega
  clear hwB hbr hBB p0 p1 p2 p3
  refine (scale_any br w.heap.size g0 g1 g2 g3 (f * 2 ^ 2) (1 * 2 ^ down) (2 * 2 ^ 0) (2 * 2 ^ 0) n a c K w.heap.size _ _ _ _ ed place wB hM hS hord2 (by omega) (by omega) (by omega) ha hc hn hK HK (by have := Nat.two_pow_pos down; omega) HN).mono ?_
  rintro e w2 ⟨rfl, h0, h1', h2', h3, u0, u1, u2, u3, hM2, hS2, hbel2, hg0, hg1, hg2, hg3⟩
  go_wp2_with fail
  refine (digits_any2 br h0 h1' h2' h3 _ _ _ _ 20 K w.heap.size u0 u1 u2 u3 ed DS w2 hM2 HD.out HN.out.1 (by omega) hK (under_le HK.out.2.2.2.2 (Nat.le_refl _)) HK.out.2.1 HK.out.2.2.1 (sep_five hS2) ⟨hord2.1, hg0, hg1, hg2, hg3⟩ (hS2.2 br (by simp))).mono ?_
  rintro e w3 ⟨v3', rfl, hrow, hbel3⟩
  have hlen : 0 < DS.length := hDSl
  obtain ⟨gd, cd, rfl, hgd, hgl⟩ := hrow.form hlen
  have hcm : DS.length ≤ cd ∧ cd ≤ 9223372036854775807 := by
    rcases hrow.2 with ⟨q, _⟩ | ⟨_, _, _, e, _, _, r1, r2, _⟩
    · simp at q
    · simp at e
      unfold maxLen at r2
      omega
  have hc0 : w3.cell? ⟨gd, 0, none⟩ = some (.int .u8 (D0 : Int)) := by
    rw [hrow.cellAt 0 (by omega)]
    unfold c8
    rw [List.getElem?_map, HD0.out]; rfl
  clear hM hS hM2 hS2
  have hbel4 : Below w.heap.size w w3 := hbelB.trans (hbel2.trans hbel3)
  obtain ⟨m, hm⟩ : ∃ m, m = DS.length := ⟨_, rfl⟩
  have HM : Hid (m = DS.length) := hm
  rw [← hm] at hrow hlen hcm hDSm ⊢
  clear hm hDSl HK HN HD HP
  go_wp2_with fail
  go_loopw [26] (fun t wr => ∃ (k : Nat) (rs : List Nat), k ≤ m ∧ t = .int .i64 k ∧ rs.length = m ∧ wr.ownsRow w.heap.size 5 1 (.slice (some ⟨gd, 0, none⟩) m cd) m (c8 rs) ∧ Hid (∀ j, j < k → rs.getD j 0 = DS.getD j 0 + 48) ∧ Hid (∀ j, k ≤ j → rs.getD j 0 = DS.getD j 0) ∧ Below w.heap.size w wr) (fun t _ => m - (intOf t).toNat)
  case atStart => exact ⟨0, DS, Nat.zero_le _, rfl, HM.out.symm, hrow, fun j hj => by omega, fun j _ => rfl, hbel4⟩
  case round =>
    obtain ⟨k, rs, hk, rfl, hrl, hr, HA, HB', hbr'⟩ := hrel
    have HRL : Hid (rs.length = m) := hrl
    by_cases c' : k < m
    · have hd9 := HDS.out k
      have hcell : wr.cell? ⟨gd, k, none⟩ = some (.int .u8 (DS.getD k 0 : Nat)) := by
        rw [hr.cellAt k (by omega), c8_get rs k (by omega), HB'.out k (Nat.le_refl _)]
      have hfr := hr.frozenAt k
      obtain ⟨d, hd'⟩ : ∃ d, d = DS.getD k 0 := ⟨_, rfl⟩
      rw [← hd'] at hd9 hcell
      have HDK : Hid (d = DS.getD k 0) := hd'
      have hst := (hr.stored k (.int .u8 ((d + 48 : Nat) : Int))).1
      rw [c8_set] at hst
      clear hd' hrl
      go_wp2
      go_roundw
      case rel =>
        refine ⟨k + 1, rs.set k (d + 48), by omega, by go_num, by rw [List.length_set]; exact HRL.out, hst, ?_, ?_, hbr'.setCell (p := ⟨gd, k, none⟩) hgd _⟩
        · intro j hj
          by_cases e : j = k
          · subst e; rw [getD_set_same _ _ _ (by rw [HRL.out]; exact c'), HDK.out]
          · rw [pget_set (by omega)]; exact HA.out j (by omega)
        · intro j hj
          rw [pget_set (by omega)]; exact HB'.out j (by omega)
      case measure => simp [intOf]; omega
    · have hke : k = m := by omega
      have hL : (dtx DS).length = m := by unfold dtx; rw [List.length_map]; exact HM.out.symm
      have hcv : (convert 65 9 (.slice (some ⟨gd, 0, none⟩) m cd)).run Tryz.prog wr = .ok (.string (Txt.bs (dtx DS))) wr := by
        have := run_convert_bytes_back (P := Tryz.prog) wr 65 9 5 ⟨gd, 0, none⟩ cd (dtx DS) Tryz.underlying65 Tryz.underlying5 Tryz.underlying9 (by
          intro j hj
          have hjl : j < DS.length := by have := HM.out; omega
          refine hr.cells (g := gd) rfl j _ ?_
          rw [c8_get rs j (by omega), HA.out j (by omega), dtx_get DS j hj (HDS.out j)])
        rw [hL] at this
        exact this
      go_wp2
      go_ret2
      exact ⟨rfl, hbr'⟩

end Go.Proofs.YtgbajhenmamjjaaGreatDoor
