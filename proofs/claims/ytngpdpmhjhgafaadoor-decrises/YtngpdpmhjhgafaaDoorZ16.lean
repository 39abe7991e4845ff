/-
  Prt4, Prt5, Prt6, PrtLives, DigDivide, RfNear2
-/
import Derived.Laws.IdiomStrings
import Derived.Test.YtngpdpmhjhgafaaDoorZ15

/-
  The landed scale, walked.
-/
namespace Go.Proofs.YtngpdpmhjhgafaaDoor
set_option maxRecDepth 100000
open Go.RowKit Pt Flo

/-- A block that is not one of the room's, to stand for the caller's. -/
theorem sep_five {w : World} {b g0 g1 g2 g3 bx : Nat} (h : Sep w (b :: bx :: g0 :: g1 :: g2 :: g3 :: [])) : [b, g0, g1, g2, g3].Nodup := by
  have := (Sep.sub (p := [b]) h).1
  exact this
theorem Sep.hfacts {w : World} {b bx g0 g1 g2 g3 : Nat} {ss : List Nat} (h : Sep w (b :: bx :: g0 :: g1 :: g2 :: g3 :: ss)) :
    Hid ((b ≠ bx ∧ b ≠ g0 ∧ b ≠ g1 ∧ b ≠ g2 ∧ b ≠ g3) ∧ (bx ≠ g0 ∧ bx ≠ g1 ∧ bx ≠ g2 ∧ bx ≠ g3) ∧ (g0 ≠ g1 ∧ g0 ≠ g2 ∧ g0 ≠ g3) ∧ (g1 ≠ g2 ∧ g1 ≠ g3) ∧ g2 ≠ g3 ∧ (b < w.heap.size ∧ bx < w.heap.size)) := h.facts

theorem below_gb {w w' : World} (h : Below w.heap.size w w') (r : Option Nat) : w.grownBy w' r := ⟨h.os, h.tape, h.output, h.size, fun k hk _ => h.block k hk⟩
theorem under_le {X n j K : Nat} (h : X * 10 ^ n * 10 < 2 ^ K) (hj : j ≤ n) : X * 10 ^ j < 2 ^ K := by
  have h1 : X * 10 ^ j ≤ X * 10 ^ n := Nat.mul_le_mul_left _ (Nat.pow_le_pow_right (by decide) hj)
  omega

set_option maxHeartbeats 4000000 in
theorem scale_any (b bx g0 g1 g2 g3 T U L A n a c K B0 : Nat) (v0 v1 v2 v3 : Value) (ed : Bool) (place : Int) (w : World) (hM : RM w b g0 g1 g2 g3 v0 v1 v2 v3 T U L A ed)
    (hS : Sep w (b :: bx :: g0 :: g1 :: g2 :: g3 :: [])) (hB : B0 ≤ b ∧ B0 ≤ g0 ∧ B0 ≤ g1 ∧ B0 ≤ g2 ∧ B0 ≤ g3) (hBw : B0 ≤ w.heap.size)
    (hp1 : -1000 ≤ place) (hp2 : place ≤ 1000) (ha : (a : Int) = max (-place) 0) (hc : (c : Int) = max place 0) (hn : n ≤ 1000) (hK : K ≤ 100000)
    (HK : Hid (T * 10 ^ a < 2 ^ K ∧ L * 10 ^ a < 2 ^ K ∧ A * 10 ^ a < 2 ^ K ∧ U * 10 ^ c < 2 ^ K ∧ U * 10 ^ c * 10 ^ n * 10 < 2 ^ K)) (hU : 0 < U)
    (HN : Hid (T * 10 ^ a < 10 * (U * 10 ^ c * 10 ^ n) ∧ ∀ j, j < n → 10 * (U * 10 ^ c * 10 ^ j) ≤ T * 10 ^ a)) :
    Calls Tryd.prog 42 #[.pointer (some ⟨b, 0, none⟩), .int .i64 place] w fun e w' => e = .returned (.int .i64 (place + n)) ∧ ∃ h0 h1 h2 h3 u0 u1 u2 u3, RM w' b h0 h1 h2 h3 u0 u1 u2 u3 (T * 10 ^ a) (U * 10 ^ c * 10 ^ n) (L * 10 ^ a) (A * 10 ^ a) ed ∧ Sep w' (b :: bx :: h0 :: h1 :: h2 :: h3 :: []) ∧ Below B0 w w' ∧ (B0 ≤ h0 ∧ B0 ≤ h1 ∧ B0 ≤ h2 ∧ B0 ≤ h3) := by
  have F0 := hS.hfacts
  have hbel0 : Below B0 w w := Below.refl _ _
  have c00 := hM.c0
  have ha2 : a ≤ 1000 := by omega
  have hc2 : c ≤ 1000 := by omega
  have HAC : Hid ((a : Int) = max (-place) 0 ∧ (c : Int) = max place 0) := ⟨ha, hc⟩
  clear ha hc
  have hcs2 : place < 0 ∨ place = 0 ∨ 0 < place := by omega
  rcases hcs2 with q1 | q1 | q1
  all_goals
    go_enter Tryd.func42, Tryd.ntmps42
    go_wp2_with fail
    have c1 := hM.c0
    have f1 := hM.fz 0
    refine (timesTens_at _ a (by have := HAC.out; omega) v0 g0 T K _ hM.p0 HK.out.1 (by omega) (by omega)).mono ?_
    rintro e x1 ⟨v1', q1, rfl, hR1, hm1⟩
    obtain ⟨l1, p1, rfl, _⟩ := hR1.form
    have k1 : x1.cell? ⟨b, 0, none⟩ = some v0 := by rw [gb_cell hm1.1 F0.out.2.2.2.2.2.1 F0.out.1.2.1]; exact c1
    have k2 : x1.frozen? ⟨b, 0, none⟩ = false := by rw [gb_frozen hm1.1 F0.out.2.2.2.2.2.1 F0.out.1.2.1]; exact f1
    have hM1 := hM.put0 hS hm1 hR1
    obtain ⟨w1, hw1⟩ : ∃ w1, w1 = x1.setCell ⟨b, 0, none⟩ (.slice (some ⟨q1, 0, none⟩) l1 p1) := ⟨_, rfl⟩
    have gS1 : x1.grownBy w1 (some b) := by rw [hw1]; exact gb_set _ _ _ _
    rw [← hw1] at hM1
    have k3 := hM1.c2
    have k4 := hM1.c0
    rw [hw1] at k3 k4
    have hS1 := (Sep.mv (p := [b, bx]) hS hm1 hR1.lt).size gS1.size
    have hbel1 : Below B0 w w1 := (hbel0.trans (hm1.below (by have := hbel0.size; omega) hB.2.1)).grown gS1 (by have := hm1.1.size; have := hbel0.size; omega) (by intro s hs; simp at hs; omega)
    have he1 : B0 ≤ q1 := hm1.ge (by have := hbel0.size; omega) hB.2.1
    have F1 := hS1.hfacts
    go_wp2_with fail
    rw [← hw1]
    clear k1 k2 k3 k4 hw1 gS1 c1 f1
    have c2 := hM1.c2
    have f2 := hM1.fz 2
    refine (timesTens_at _ a (by have := HAC.out; omega) v2 g2 L K _ hM1.p2 HK.out.2.1 (by omega) (by omega)).mono ?_
    rintro e x2 ⟨v2', q2, rfl, hR2, hm2⟩
    obtain ⟨l2, p2, rfl, _⟩ := hR2.form
    have k1 : x2.cell? ⟨b, 2, none⟩ = some v2 := by rw [gb_cell hm2.1 F1.out.2.2.2.2.2.1 F1.out.1.2.2.2.1]; exact c2
    have k2 : x2.frozen? ⟨b, 2, none⟩ = false := by rw [gb_frozen hm2.1 F1.out.2.2.2.2.2.1 F1.out.1.2.2.2.1]; exact f2
    have hM2 := hM1.put2 hS1 hm2 hR2
    obtain ⟨w2, hw2⟩ : ∃ w2, w2 = x2.setCell ⟨b, 2, none⟩ (.slice (some ⟨q2, 0, none⟩) l2 p2) := ⟨_, rfl⟩
    have gS2 : x2.grownBy w2 (some b) := by rw [hw2]; exact gb_set _ _ _ _
    rw [← hw2] at hM2
    have k3 := hM2.c3
    have k4 := hM2.c0
    rw [hw2] at k3 k4
    have hS2 := (Sep.mv (p := [b, bx, q1, g1]) hS1 hm2 hR2.lt).size gS2.size
    have hbel2 : Below B0 w w2 := (hbel1.trans (hm2.below (by have := hbel1.size; omega) hB.2.2.2.1)).grown gS2 (by have := hm2.1.size; have := hbel1.size; omega) (by intro s hs; simp at hs; omega)
    have he2 : B0 ≤ q2 := hm2.ge (by have := hbel1.size; omega) hB.2.2.2.1
    have F2 := hS2.hfacts
    go_wp2_with fail
    rw [← hw2]
    clear k1 k2 k3 k4 hw2 gS2 c2 f2
    have c3 := hM2.c3
    have f3 := hM2.fz 3
    refine (timesTens_at _ a (by have := HAC.out; omega) v3 g3 A K _ hM2.p3 HK.out.2.2.1 (by omega) (by omega)).mono ?_
    rintro e x3 ⟨v3', q3, rfl, hR3, hm3⟩
    obtain ⟨l3, p3, rfl, _⟩ := hR3.form
    have k1 : x3.cell? ⟨b, 3, none⟩ = some v3 := by rw [gb_cell hm3.1 F2.out.2.2.2.2.2.1 F2.out.1.2.2.2.2]; exact c3
    have k2 : x3.frozen? ⟨b, 3, none⟩ = false := by rw [gb_frozen hm3.1 F2.out.2.2.2.2.2.1 F2.out.1.2.2.2.2]; exact f3
    have hM3 := hM2.put3 hS2 hm3 hR3
    obtain ⟨w3, hw3⟩ : ∃ w3, w3 = x3.setCell ⟨b, 3, none⟩ (.slice (some ⟨q3, 0, none⟩) l3 p3) := ⟨_, rfl⟩
    have gS3 : x3.grownBy w3 (some b) := by rw [hw3]; exact gb_set _ _ _ _
    rw [← hw3] at hM3
    have k3 := hM3.c1
    have k4 := hM3.c0
    rw [hw3] at k3 k4
    have hS3 := (Sep.mv (p := [b, bx, q1, g1, q2]) hS2 hm3 hR3.lt).size gS3.size
    have hbel3 : Below B0 w w3 := (hbel2.trans (hm3.below (by have := hbel2.size; omega) hB.2.2.2.2)).grown gS3 (by have := hm3.1.size; have := hbel2.size; omega) (by intro s hs; simp at hs; omega)
    have he3 : B0 ≤ q3 := hm3.ge (by have := hbel2.size; omega) hB.2.2.2.2
    have F3 := hS3.hfacts
    go_wp2_with fail
    rw [← hw3]
    clear k1 k2 k3 k4 hw3 gS3 c3 f3
    have c4 := hM3.c1
    have f4 := hM3.fz 1
    refine (timesTens_at _ c (by have := HAC.out; omega) v1 g1 U K _ hM3.p1 HK.out.2.2.2.1 (by omega) (by omega)).mono ?_
    rintro e x4 ⟨v4', q4, rfl, hR4, hm4⟩
    obtain ⟨l4, p4, rfl, _⟩ := hR4.form
    have k1 : x4.cell? ⟨b, 1, none⟩ = some v1 := by rw [gb_cell hm4.1 F3.out.2.2.2.2.2.1 F3.out.1.2.2.1]; exact c4
    have k2 : x4.frozen? ⟨b, 1, none⟩ = false := by rw [gb_frozen hm4.1 F3.out.2.2.2.2.2.1 F3.out.1.2.2.1]; exact f4
    have hM4 := hM3.put1 hS3 hm4 hR4
    obtain ⟨w4, hw4⟩ : ∃ w4, w4 = x4.setCell ⟨b, 1, none⟩ (.slice (some ⟨q4, 0, none⟩) l4 p4) := ⟨_, rfl⟩
    have gS4 : x4.grownBy w4 (some b) := by rw [hw4]; exact gb_set _ _ _ _
    rw [← hw4] at hM4
    have k3 := hM4.c1
    have k4 := hM4.c0
    rw [hw4] at k3 k4
    have hS4 := (Sep.mv (p := [b, bx, q1]) hS3 hm4 hR4.lt).size gS4.size
    have hbel4 : Below B0 w w4 := (hbel3.trans (hm4.below (by have := hbel3.size; omega) hB.2.2.1)).grown gS4 (by have := hm4.1.size; have := hbel3.size; omega) (by intro s hs; simp at hs; omega)
    have he4 : B0 ≤ q4 := hm4.ge (by have := hbel3.size; omega) hB.2.2.1
    have F4 := hS4.hfacts
    go_wp2_with fail
    rw [← hw4]
    clear k1 k2 k3 k4 hw4 gS4 c4 f4
    go_loopw [1] (fun t1 wr => ∃ (j h1 : Nat) (u1 : Value), j ≤ n ∧ t1 = .int .i64 (place + j) ∧ RM wr b q1 h1 q2 q3 (.slice (some ⟨q1, 0, none⟩) l1 p1) u1 (.slice (some ⟨q2, 0, none⟩) l2 p2) (.slice (some ⟨q3, 0, none⟩) l3 p3) (T * 10 ^ a) (U * 10 ^ c * 10 ^ j) (L * 10 ^ a) (A * 10 ^ a) ed ∧ Sep wr (b :: bx :: q1 :: h1 :: q2 :: q3 :: []) ∧ Below B0 w wr ∧ B0 ≤ h1) (fun t1 _ => (place + n - intOf t1).toNat)
    case atStart => exact ⟨0, q4, _, Nat.zero_le _, by go_num, by rw [Nat.pow_zero, Nat.mul_one]; exact hM4, hS4, hbel4, he4⟩
    case round =>
      obtain ⟨j, h1, u1', hj, rfl, hMr, hSr, hbelr, hh1⟩ := hrel
      have Fr := hSr.hfacts
      have HX : Hid (0 < U * 10 ^ c * 10 ^ j ∧ U * 10 ^ c * 10 ^ j < 2 ^ K) := ⟨Nat.mul_pos (Nat.mul_pos hU (Nat.pow_pos (by decide))) (Nat.pow_pos (by decide)), under_le HK.out.2.2.2.2 hj⟩
      have c1 := hMr.c1
      have f1 := hMr.fz 1
      have hB0r : B0 ≤ wr.heap.size := by have := hbelr.size; omega
      have HSt : Hid (U * 10 ^ c * 10 ^ j * 10 = U * 10 ^ c * 10 ^ (j + 1)) := by show _ = _; rw [Nat.pow_succ, Nat.mul_assoc (U * 10 ^ c)]
      have HCm : Hid ((j = n → cmpI (T * 10 ^ a) (U * 10 ^ c * 10 ^ j * 10) < 0) ∧ (j < n → 0 ≤ cmpI (T * 10 ^ a) (U * 10 ^ c * 10 ^ j * 10))) := by
        constructor
        · intro e
          rw [cmpI_lt (by rw [e, Nat.mul_comm _ 10]; exact HN.out.1)]; decide
        · intro h
          have := HN.out.2 j h
          rw [Nat.mul_comm 10] at this
          rcases Nat.lt_or_ge (U * 10 ^ c * 10 ^ j * 10) (T * 10 ^ a) with d | d
          · rw [cmpI_gt d]; decide
          · rw [cmpI_eq (by omega)]; decide
      obtain ⟨X, hX⟩ : ∃ X, X = U * 10 ^ c * 10 ^ j := ⟨_, rfl⟩
      obtain ⟨T1, hT1⟩ : ∃ T1, T1 = T * 10 ^ a := ⟨_, rfl⟩
      rw [← hX] at hMr HX HSt HCm
      rw [← hT1] at hMr HCm
      have HXe : Hid (X = U * 10 ^ c * 10 ^ j) := hX
      have HTe : Hid (T1 = T * 10 ^ a) := hT1
      clear hX hT1
      go_wp2_with fail
      refine (clone_any u1' h1 X K _ hMr.p1 HX.out.2 (by omega) HX.out.1).mono ?_
      rintro e x1 ⟨vc, gc, rfl, hRc, hbc, hgc⟩
      go_wp2_with fail
      refine (times_lit 10 _ rfl _ gc X K _ hRc HX.out.2 (by omega) (by decide) (by decide)).mono ?_
      rintro e x2 ⟨vt, gt, rfl, hRt, hmt⟩
      obtain ⟨lt, pt, rfl, _⟩ := hRt.form
      have hB2 : Below wr.heap.size wr x2 := hbc.trans (hmt.below hbc.size hgc)
      have hgt : wr.heap.size ≤ gt := hmt.ge hbc.size hgc
      have hM2' := hMr.below hB2 Fr.out.2.2.2.2.2.1
      have d0 := hM2'.c0
      have d1 := hM2'.c1
      have e1 := hM2'.fz 1
      clear hRc hbc hgc hmt c1 f1
      go_wp2_with fail
      refine (compare_any _ _ q1 gt T1 (X * 10) _ hM2'.p0 hRt).mono ?_
      rintro e x3 ⟨rfl, q, hq⟩
      have hB3 : Below wr.heap.size wr x3 := by rw [hq]; exact below_drewN hB2 q
      have hR3' : PR x3 gt (.slice (some ⟨gt, 0, none⟩) lt pt) (X * 10) := by rw [hq]; exact hRt
      have d1' : x3.cell? ⟨b, 1, none⟩ = some u1' := by rw [hq]; exact d1
      have e1' : x3.frozen? ⟨b, 1, none⟩ = false := by rw [hq]; exact e1
      clear hq hM2' d0 d1 e1 hRt hB2
      by_cases cj : j = n
      · have hci := HCm.out.1 cj
        go_wp2
        go_ret
        have hME := hMr.below hB3 Fr.out.2.2.2.2.2.1
        rw [HXe.out, HTe.out, cj] at hME
        exact ⟨ret_i64 (by omega), q1, h1, q2, q3, _, _, _, _, hME, hSr.size hB3.size, hbelr.trans (hB3.mono hB0r), he1, hh1, he2, he3⟩
      · have hci0 := HCm.out.2 (by omega)
        have hci : ¬ cmpI T1 (X * 10) < 0 := by omega
        clear hci0
        have hmv : Mv wr x3 h1 gt := ⟨below_gb hB3 _, Or.inr hgt⟩
        have hM5 := hMr.put1 hSr hmv hR3'
        have hS5 := (Sep.mv (p := [b, bx, q1]) hSr hmv hR3'.lt).size (w' := x3.setCell ⟨b, 1, none⟩ (.slice (some ⟨gt, 0, none⟩) lt pt)) (by simp)
        go_wp2
        rw [HSt.out, HTe.out] at hM5
        have hB5 : Below B0 w (x3.setCell ⟨b, 1, none⟩ (.slice (some ⟨gt, 0, none⟩) lt pt)) := (hbelr.trans (hB3.mono hB0r)).setCell (p := ⟨b, 1, none⟩) hB.1 _
        have hj1 : j + 1 ≤ n := by omega
        have hgt0 : B0 ≤ gt := by omega
        refine And.intro (Exists.intro (j + 1) (Exists.intro gt (Exists.intro _ (And.intro hj1 (And.intro ?_ (And.intro hM5 (And.intro hS5 (And.intro hB5 hgt0)))))))) ?_
        · exact int_eq (by omega)
        · simp only [intOf]; omega

end Go.Proofs.YtngpdpmhjhgafaaDoor

/-
  The landed leastPlaceOf and roomOf, walked.
-/
namespace Go.Proofs.YtngpdpmhjhgafaaDoor
set_option maxRecDepth 100000
open Go.RowKit Pt Flo

set_option maxHeartbeats 400000 in
theorem least_any (exp : Int) (f l : Nat) (w : World) (hf : f < 18446744073709551616) (hl : Lib.bitLen f = l) (hl2 : l ≤ 64) (h1 : -2000 ≤ exp) (h2 : exp ≤ 2000) :
    Calls Tryd.prog 43 #[.int .i64 exp, .int .u64 f] w fun e w' => e = .returned (.int .i64 ((exp + l - 1) * 1233 / 4096 - 1)) ∧ w' = w := by
  go_enter Tryd.func43, Tryd.ntmps43
  go_wp2_with (go_at_call 66; refine (len64_nat f l _ hf hl).mono ?_; rintro e w' ⟨rfl, rfl⟩)
  go_ret
  exact ⟨rfl, rfl⟩

theorem PR.set5 {w : World} {B g n : Nat} {v : Value} (h : PR w g v n) (hg : g ≠ B) (a b c d e : Value) : PR (((((w.setCell ⟨B, 0, none⟩ a).setCell ⟨B, 1, none⟩ b).setCell ⟨B, 2, none⟩ c).setCell ⟨B, 3, none⟩ d).setCell ⟨B, 4, none⟩ e) g v n :=
  ((((h.other (gb_set _ _ _ _) hg).other (gb_set _ _ _ _) hg).other (gb_set _ _ _ _) hg).other (gb_set _ _ _ _) hg).other (gb_set _ _ _ _) hg

set_option maxHeartbeats 4000000 in
theorem roomOf_low (exp : Int) (f up down : Nat) (ed : Bool) (w : World) (hf : f < 18446744073709551616) (h1 : -2000 ≤ exp) (h2 : exp ≤ 2000) (hb1 : ((f : Int) == 4503599627370496) = false) (q1 : exp - 2 < 0) (HE : Hid (((f : Int) % 2 == 0) = ed))
    (hu : up = 0) (hd : (down : Int) = -(exp - 2)) (HP : Hid (f * 2 ^ (up + 2) < 2 ^ (64 + (up + 2)) ∧ 1 * 2 ^ down < 2 ^ (1 + down) ∧ 2 * 2 ^ up < 2 ^ (2 + up) ∧ 2 * 2 ^ up < 2 ^ (2 + up))) :
    Calls Tryd.prog 41 #[.int .i64 exp, .int .u64 f] w fun e w' => ∃ g0 g1 g2 g3 v0 v1 v2 v3, e = .returned (.agg #[v0, v1, v2, v3, .bool ed]) ∧ PR w' g0 v0 (f * 2 ^ (up + 2)) ∧ PR w' g1 v1 (1 * 2 ^ down) ∧ PR w' g2 v2 (2 * 2 ^ up) ∧ PR w' g3 v3 (2 * 2 ^ up) ∧
      (g0 < g1 ∧ g1 < g2 ∧ g2 < g3 ∧ w.heap.size < g0) ∧ Below w.heap.size w w' := by
  obtain ⟨w0, hw0⟩ : ∃ w0, w0 = w.alloc (.cells #[.slice none 0 0, .slice none 0 0, .slice none 0 0, .slice none 0 0, .bool false] 81) := ⟨_, rfl⟩
  have HW0 : Hid (w0 = w.alloc (.cells #[.slice none 0 0, .slice none 0 0, .slice none 0 0, .slice none 0 0, .bool false] 81)) := hw0
  have hsz0 : w0.heap.size = w.heap.size + 1 := by rw [hw0]; simp
  have hdn : down ≤ 2100 := by omega
  go_enter Tryd.func41, Tryd.ntmps41
  go_wp2_with fail
  rw [← hw0]
  clear hw0
  refine (partsOf_any f _ hf).mono ?_
  rintro e y0 ⟨a0, rfl, hA0, hBa0⟩
  have sA0 := hA0.lt
  have zA0 := hBa0.size
  go_wp2_with fail
  refine (timesTwos_at _ (up + 2) (by omega) a0 w0.heap.size f _ _ hA0 HP.out.1 (by omega) (by omega)).mono ?_
  rintro e x0 ⟨b0, g0, rfl, h0, hm0⟩
  have sB0 := h0.lt
  have zB0 := hm0.1.size
  have gB0 := hm0.ge (B := w0.heap.size) (by omega) (Nat.le_refl _)
  obtain ⟨l0, p0, rfl, _⟩ := h0.form
  have B0' : Below w0.heap.size w0 x0 := hBa0.trans (hm0.below (by omega) (Nat.le_refl _))
  go_wp2_with fail
  refine (partsOf_any 1 _ (by decide)).mono ?_
  rintro e y1 ⟨a1, rfl, hA1, hBa1⟩
  have sA1 := hA1.lt
  have zA1 := hBa1.size
  have h0_1 := h0.below hBa1 h0.lt
  go_wp2_with fail
  refine (timesTwos_at _ down (by omega) a1 x0.heap.size 1 _ _ hA1 HP.out.2.1 (by omega) (by omega)).mono ?_
  rintro e x1 ⟨b1, g1, rfl, h1, hm1⟩
  have sB1 := h1.lt
  have zB1 := hm1.1.size
  have gB1 := hm1.ge (B := x0.heap.size) (by omega) (Nat.le_refl _)
  have h0_1' := hm1.pr h0_1 (by omega)
  obtain ⟨l1, p1, rfl, _⟩ := h1.form
  have B1' : Below w0.heap.size w0 x1 := B0'.trans ((hBa1.trans (hm1.below (by omega) (Nat.le_refl _))).mono (by omega))
  go_wp2_with fail
  refine (partsOf_any 2 _ (by decide)).mono ?_
  rintro e y2 ⟨a2, rfl, hA2, hBa2⟩
  have sA2 := hA2.lt
  have zA2 := hBa2.size
  have h0_2 := h0_1'.below hBa2 h0_1'.lt
  have h1_2 := h1.below hBa2 h1.lt
  go_wp2_with fail
  refine (timesTwos_at _ up (by omega) a2 x1.heap.size 2 _ _ hA2 HP.out.2.2.2 (by omega) (by omega)).mono ?_
  rintro e x2 ⟨b2, g2, rfl, h2, hm2⟩
  have sB2 := h2.lt
  have zB2 := hm2.1.size
  have gB2 := hm2.ge (B := x1.heap.size) (by omega) (Nat.le_refl _)
  have h0_2' := hm2.pr h0_2 (by omega)
  have h1_2' := hm2.pr h1_2 (by omega)
  obtain ⟨l2, p2, rfl, _⟩ := h2.form
  have B2' : Below w0.heap.size w0 x2 := B1'.trans ((hBa2.trans (hm2.below (by omega) (Nat.le_refl _))).mono (by omega))
  go_wp2_with fail
  refine (partsOf_any 2 _ (by decide)).mono ?_
  rintro e y3 ⟨a3, rfl, hA3, hBa3⟩
  have sA3 := hA3.lt
  have zA3 := hBa3.size
  have h0_3 := h0_2'.below hBa3 h0_2'.lt
  have h1_3 := h1_2'.below hBa3 h1_2'.lt
  have h2_3 := h2.below hBa3 h2.lt
  go_wp2_with fail
  refine (timesTwos_at _ up (by omega) a3 x2.heap.size 2 _ _ hA3 HP.out.2.2.2 (by omega) (by omega)).mono ?_
  rintro e x3 ⟨b3, g3, rfl, h3, hm3⟩
  have sB3 := h3.lt
  have zB3 := hm3.1.size
  have gB3 := hm3.ge (B := x2.heap.size) (by omega) (Nat.le_refl _)
  have h0_3' := hm3.pr h0_3 (by omega)
  have h1_3' := hm3.pr h1_3 (by omega)
  have h2_3' := hm3.pr h2_3 (by omega)
  obtain ⟨l3, p3, rfl, _⟩ := h3.form
  have B3' : Below w0.heap.size w0 x3 := B2'.trans ((hBa3.trans (hm3.below (by omega) (Nat.le_refl _))).mono (by omega))
  have k0 : x3.cell? ⟨w.heap.size, 0, none⟩ = some (.slice none 0 0) := by rw [B3'.cell (p := ⟨w.heap.size, 0, none⟩) (by show w.heap.size < _; omega), HW0.out]; simp
  have k1 : x3.cell? ⟨w.heap.size, 1, none⟩ = some (.slice none 0 0) := by rw [B3'.cell (p := ⟨w.heap.size, 1, none⟩) (by show w.heap.size < _; omega), HW0.out]; simp
  have k2 : x3.cell? ⟨w.heap.size, 2, none⟩ = some (.slice none 0 0) := by rw [B3'.cell (p := ⟨w.heap.size, 2, none⟩) (by show w.heap.size < _; omega), HW0.out]; simp
  have k3 : x3.cell? ⟨w.heap.size, 3, none⟩ = some (.slice none 0 0) := by rw [B3'.cell (p := ⟨w.heap.size, 3, none⟩) (by show w.heap.size < _; omega), HW0.out]; simp
  have k4 : x3.cell? ⟨w.heap.size, 4, none⟩ = some (.bool false) := by rw [B3'.cell (p := ⟨w.heap.size, 4, none⟩) (by show w.heap.size < _; omega), HW0.out]; simp
  have fz0 : x3.frozen? ⟨w.heap.size, 0, none⟩ = false := by rw [B3'.frozen (p := ⟨w.heap.size, 0, none⟩) (by show w.heap.size < _; omega), HW0.out]; simp
  have fz1 : x3.frozen? ⟨w.heap.size, 1, none⟩ = false := by rw [B3'.frozen (p := ⟨w.heap.size, 1, none⟩) (by show w.heap.size < _; omega), HW0.out]; simp
  have fz2 : x3.frozen? ⟨w.heap.size, 2, none⟩ = false := by rw [B3'.frozen (p := ⟨w.heap.size, 2, none⟩) (by show w.heap.size < _; omega), HW0.out]; simp
  have fz3 : x3.frozen? ⟨w.heap.size, 3, none⟩ = false := by rw [B3'.frozen (p := ⟨w.heap.size, 3, none⟩) (by show w.heap.size < _; omega), HW0.out]; simp
  have fz4 : x3.frozen? ⟨w.heap.size, 4, none⟩ = false := by rw [B3'.frozen (p := ⟨w.heap.size, 4, none⟩) (by show w.heap.size < _; omega), HW0.out]; simp
  clear hm0 hm1 hm2 hm3 hBa0 hBa1 hBa2 hBa3 hA0 hA1 hA2 hA3
  go_wp2_with fail
  refine bodyPost_ret (v := .agg #[.slice (some ⟨g0, 0, none⟩) l0 p0, .slice (some ⟨g1, 0, none⟩) l1 p1, .slice (some ⟨g2, 0, none⟩) l2 p2, .slice (some ⟨g3, 0, none⟩) l3 p3, .bool ((f : Int) % 2 == 0)]) (by simp [results, Tryd.results41, go_sem, k0, k1, k2, k3, k4]) rfl ⟨g0, g1, g2, g3, _, _, _, _, by rw [HE.out], h0_3'.set5 (by omega) _ _ _ _ _, h1_3'.set5 (by omega) _ _ _ _ _, h2_3'.set5 (by omega) _ _ _ _ _, h3.set5 (by omega) _ _ _ _ _, by omega, ?_⟩
  have hB : Below w.heap.size w x3 := by
    have : Below w.heap.size w w0 := by rw [HW0.out]; exact (Below.refl _ _).alloc (Nat.le_refl _) _
    exact this.trans (B3'.mono (by omega))
  exact ((((hB.setCell (p := ⟨w.heap.size, 0, none⟩) (Nat.le_refl _) _).setCell (p := ⟨w.heap.size, 1, none⟩) (Nat.le_refl _) _).setCell (p := ⟨w.heap.size, 2, none⟩) (Nat.le_refl _) _).setCell (p := ⟨w.heap.size, 3, none⟩) (Nat.le_refl _) _).setCell (p := ⟨w.heap.size, 4, none⟩) (Nat.le_refl _) _

set_option maxHeartbeats 400000 in
theorem withDot_same (s : ByteArray) (n : Nat) (w : World) (hs : s.size = n) (hn : n ≤ 1000000) :
    Calls Tryd.prog 45 #[.string s, .int .i64 n] w fun e w' => e = .returned (.string s) ∧ w' = w := by
  have h1 : ((s.size : Int) == (n : Int)) = true := by rw [beq_iff_eq]; omega
  have hs2 : s.size ≤ 1000000 := by omega
  clear hs
  go_enter Tryd.func45, Tryd.ntmps45
  go_wp2
  go_ret
  exact ⟨rfl, rfl⟩
set_option maxHeartbeats 400000 in
theorem laidOut_same (s : ByteArray) (n : Nat) (w : World) (hs : s.size = n + 1) (hn : n ≤ 20) :
    Calls Tryd.prog 21 #[.string s, .int .i64 n] w fun e w' => e = .returned (.string s) ∧ w' = w := by
  have HW : Hid (∀ w, Calls Tryd.prog 45 #[.string s, .int .i64 ((n : Int) + 1)] w fun e w' => e = .returned (.string s) ∧ w' = w) := fun w => by
    have := withDot_same s (n + 1) w hs (by omega)
    rw [Int.natCast_add] at this
    exact this
  have h1 : ¬ (s.size : Int) < (n : Int) + 1 := by omega
  have h2 : s.size ≤ 21 := by omega
  have h3 : ¬ (n : Int) < -7 := by omega
  have h4 : ¬ (20 : Int) < (n : Int) := by omega
  have h5 : ¬ (n : Int) < 0 := by omega
  clear hs
  go_enter Tryd.func21, Tryd.ntmps21
  go_wp2_with (go_at_call 45; refine (HW.out _).mono ?_; rintro e w' ⟨rfl, rfl⟩)
  go_ret
  exact ⟨rfl, rfl⟩

end Go.Proofs.YtngpdpmhjhgafaaDoor

/-
  The landed shortest, walked.
-/
namespace Go.Proofs.YtngpdpmhjhgafaaDoor
set_option maxRecDepth 100000
open Go.RowKit Pt Flo

/-- Digits as their letters. -/
def dtx (ds : List Nat) : List UInt8 := ds.map fun d => UInt8.ofNat (48 + d)
theorem c8_set (ds : List Nat) (j d : Nat) : (c8 ds).set j (.int .u8 (d : Int)) = c8 (ds.set j d) := by unfold c8; rw [List.map_set]
theorem c8_get (ds : List Nat) (j : Nat) (h : j < ds.length) : (c8 ds)[j]? = some (.int .u8 (ds.getD j 0 : Nat)) := by
  unfold c8
  rw [List.getElem?_map, List.getElem?_eq_getElem h, List.getD_eq_getElem?_getD, List.getElem?_eq_getElem h]; rfl
theorem dtx_get (ds : List Nat) (j : Nat) (h : j < (dtx ds).length) (h9 : ds.getD j 0 ≤ 9) : (dtx ds)[j].toNat = ds.getD j 0 + 48 := by
  have hj : j < ds.length := by unfold dtx at h; simpa using h
  have e : (dtx ds)[j] = UInt8.ofNat (48 + ds[j]) := by simp [dtx]
  have e2 : ds.getD j 0 = ds[j] := by rw [List.getD_eq_getElem?_getD, List.getElem?_eq_getElem hj]; rfl
  rw [e2] at h9 ⊢
  rw [e]
  simp
  omega
theorem getD_set_same (rs : List Nat) (k y : Nat) (h : k < rs.length) : (rs.set k y).getD k 0 = y := by
  rw [List.getD_eq_getElem?_getD, List.getElem?_set_self h]; rfl

set_option maxHeartbeats 4000000 in
theorem shortest_low (exp : Int) (f l a c n K down : Nat) (ed : Bool) (DS : List Nat) (w : World) (hf : f < 18446744073709551616) (h1 : -1074 ≤ exp) (h2 : exp ≤ 1) (hb1 : ((f : Int) == 4503599627370496) = false) (HE : Hid (((f : Int) % 2 == 0) = ed))
    (hl : Lib.bitLen f = l) (hl2 : l ≤ 64) (hd : (down : Int) = -(exp - 2)) (place : Int) (hpl : place = (exp + l - 1) * 1233 / 4096 - 1) (ha : (a : Int) = max (-place) 0) (hc : (c : Int) = max place 0) (hn : n ≤ 1000) (hK : K ≤ 100000)
    (HK : Hid (f * 2 ^ 2 * 10 ^ a < 2 ^ K ∧ 2 * 2 ^ 0 * 10 ^ a < 2 ^ K ∧ 2 * 2 ^ 0 * 10 ^ a < 2 ^ K ∧ 1 * 2 ^ down * 10 ^ c < 2 ^ K ∧ 1 * 2 ^ down * 10 ^ c * 10 ^ n * 10 < 2 ^ K))
    (HN : Hid (f * 2 ^ 2 * 10 ^ a < 10 * (1 * 2 ^ down * 10 ^ c * 10 ^ n) ∧ ∀ j, j < n → 10 * (1 * 2 ^ down * 10 ^ c * 10 ^ j) ≤ f * 2 ^ 2 * 10 ^ a))
    (D0 : Nat) (HD0 : Hid (DS[0]? = some D0)) (hD0 : D0 ≤ 9) (HDS : Hid (∀ j, DS.getD j 0 ≤ 9)) (hDSl : 0 < DS.length) (hDSm : DS.length ≤ 100) (HD : Hid (digF (1 * 2 ^ down * 10 ^ c * 10 ^ n) ed 20 (f * 2 ^ 2 * 10 ^ a) (2 * 2 ^ 0 * 10 ^ a) (2 * 2 ^ 0 * 10 ^ a) = some DS)) :
    Calls Tryd.prog 20 #[.int .i64 exp, .int .u64 f] w fun e w' => e = .returned (.tuple #[.string (Txt.bs (dtx DS)), .int .i64 (place + n)]) ∧ Below w.heap.size w w' := by
  have HP : Hid (f * 2 ^ (0 + 2) < 2 ^ (64 + (0 + 2)) ∧ 1 * 2 ^ down < 2 ^ (1 + down) ∧ 2 * 2 ^ 0 < 2 ^ (2 + 0) ∧ 2 * 2 ^ 0 < 2 ^ (2 + 0)) := by
    refine ⟨by rw [Nat.pow_add 2 64]; exact Nat.mul_lt_mul_of_pos_right (by omega) (by decide), by rw [Nat.pow_add 2 1]; exact Nat.mul_lt_mul_of_pos_right (by decide) (Nat.two_pow_pos down), by decide, by decide⟩
  have HR : Hid (∀ w, Calls Tryd.prog 41 #[.int .i64 exp, .int .u64 f] w fun e w' => ∃ g0 g1 g2 g3 v0 v1 v2 v3, e = .returned (.agg #[v0, v1, v2, v3, .bool ed]) ∧ PR w' g0 v0 (f * 2 ^ (0 + 2)) ∧ PR w' g1 v1 (1 * 2 ^ down) ∧ PR w' g2 v2 (2 * 2 ^ 0) ∧ PR w' g3 v3 (2 * 2 ^ 0) ∧ (g0 < g1 ∧ g1 < g2 ∧ g2 < g3 ∧ w.heap.size < g0) ∧ Below w.heap.size w w') := fun w =>
    roomOf_low exp f 0 down ed w hf (by omega) (by omega) hb1 (by omega) HE rfl hd HP
  have HL : Hid (∀ w, Calls Tryd.prog 43 #[.int .i64 exp, .int .u64 f] w fun e w' => e = .returned (.int .i64 place) ∧ w' = w) := fun w => by rw [hpl]; exact least_any exp f l w hf hl hl2 (by omega) (by omega)
  have hpb : -1000 ≤ place ∧ place ≤ 1000 := by omega
  obtain ⟨hp1, hp2⟩ := hpb
  clear hpl
  go_enter Tryd.func20, Tryd.ntmps20
  go_wp2_with fail
  refine (HR.out _).mono ?_
  rintro e w1 ⟨g0, g1, g2, g3, v0, v1, v2, v3, rfl, p0, p1, p2, p3, hord, hb1'⟩
  obtain ⟨l0, q0, rfl, _⟩ := p0.form
  obtain ⟨l1, q1, rfl, _⟩ := p1.form
  obtain ⟨l2, q2, rfl, _⟩ := p2.form
  obtain ⟨l3, q3, rfl, _⟩ := p3.form
  go_wp2_with fail
  refine (HL.out _).mono ?_
  rintro e w' ⟨rfl, rfl⟩
  go_wp2_with fail
  obtain ⟨wB, hwB⟩ : ∃ wB, wB = w1.alloc (.cells #[.slice (some ⟨g0, 0, none⟩) l0 q0, .slice (some ⟨g1, 0, none⟩) l1 q1, .slice (some ⟨g2, 0, none⟩) l2 q2, .slice (some ⟨g3, 0, none⟩) l3 q3, .bool ed] 81) := ⟨_, rfl⟩
  obtain ⟨br, hbr⟩ : ∃ br, br = w1.heap.size := ⟨_, rfl⟩
  have hBB : Below w1.heap.size w1 wB := by rw [hwB]; exact (Below.refl _ _).alloc (Nat.le_refl _) _
  have sz1 := hb1'.size
  have szB : wB.heap.size = w1.heap.size + 1 := by rw [hwB]; simp
  have s0 := p0.lt
  have s1 := p1.lt
  have s2 := p2.lt
  have s3 := p3.lt
  have hM : RM wB br g0 g1 g2 g3 (.slice (some ⟨g0, 0, none⟩) l0 q0) (.slice (some ⟨g1, 0, none⟩) l1 q1) (.slice (some ⟨g2, 0, none⟩) l2 q2) (.slice (some ⟨g3, 0, none⟩) l3 q3) (f * 2 ^ 2) (1 * 2 ^ down) (2 * 2 ^ 0) (2 * 2 ^ 0) ed := by
    refine ⟨?_, ?_, ?_, ?_, ?_, ?_, p0.below hBB s0, p1.below hBB s1, p2.below hBB s2, p3.below hBB s3⟩
    · rw [hwB, hbr]; simp
    · rw [hwB, hbr]; simp
    · rw [hwB, hbr]; simp
    · rw [hwB, hbr]; simp
    · rw [hwB, hbr]; simp
    · intro i; rw [hwB, hbr]; simp
  have hS : Sep wB (br :: w.heap.size :: g0 :: g1 :: g2 :: g3 :: []) := by
    refine ⟨?_, ?_⟩
    · simp only [List.nodup_cons, List.mem_cons, not_or, List.not_mem_nil]
      refine ⟨⟨by omega, by omega, by omega, by omega, by omega, by simp⟩, ⟨by omega, by omega, by omega, by omega, by simp⟩, ⟨by omega, by omega, by omega, by simp⟩, ⟨by omega, by omega, by simp⟩, ⟨by omega, by simp⟩, by simp, by simp⟩
    · intro x hx
      simp only [List.mem_cons, List.not_mem_nil, or_false] at hx
      omega
  rw [← hwB, ← hbr]
  have hbelB : Below w.heap.size w wB := hb1'.trans (hBB.mono sz1)
  have hord2 : w.heap.size ≤ br ∧ w.heap.size ≤ g0 ∧ w.heap.size ≤ g1 ∧ w.heap.size ≤ g2 ∧ w.heap.size ≤ g3 := by omega
  clear hwB hbr hBB p0 p1 p2 p3
  refine (scale_any br w.heap.size g0 g1 g2 g3 (f * 2 ^ 2) (1 * 2 ^ down) (2 * 2 ^ 0) (2 * 2 ^ 0) n a c K w.heap.size _ _ _ _ ed place wB hM hS hord2 (by omega) (by omega) (by omega) ha hc hn hK HK (by have := Nat.two_pow_pos down; omega) HN).mono ?_
  rintro e w2 ⟨rfl, h0, h1', h2', h3, u0, u1, u2, u3, hM2, hS2, hbel2, hg0, hg1, hg2, hg3⟩
  go_wp2_with fail
  refine (digits_any2 br h0 h1' h2' h3 _ _ _ _ 20 K w.heap.size u0 u1 u2 u3 ed DS w2 hM2 HD.out HN.out.1 (by omega) hK (under_le HK.out.2.2.2.2 (Nat.le_refl _)) HK.out.2.1 HK.out.2.2.1 (sep_five hS2) ⟨hord2.1, hg0, hg1, hg2, hg3⟩ (hS2.2 br (by simp))).mono ?_
  rintro e w3 ⟨v3', rfl, hrow, hbel3⟩
  have hlen : 0 < DS.length := hDSl
  obtain ⟨gd, cd, rfl, hgd, hgl⟩ := hrow.form hlen
  have hcm : DS.length ≤ cd ∧ cd ≤ 9223372036854775807 := by
    rcases hrow.2 with ⟨q, _⟩ | ⟨_, _, _, e, _, _, r1, r2, _⟩
    · simp at q
    · simp at e
      unfold maxLen at r2
      omega
  have hc0 : w3.cell? ⟨gd, 0, none⟩ = some (.int .u8 (D0 : Int)) := by
    rw [hrow.cellAt 0 (by omega)]
    unfold c8
    rw [List.getElem?_map, HD0.out]; rfl
  clear hM hS hM2 hS2
  have hbel4 : Below w.heap.size w w3 := hbelB.trans (hbel2.trans hbel3)
  obtain ⟨m, hm⟩ : ∃ m, m = DS.length := ⟨_, rfl⟩
  have HM : Hid (m = DS.length) := hm
  rw [← hm] at hrow hlen hcm hDSm ⊢
  clear hm hDSl HK HN HD HP
  go_wp2_with fail
  go_loopw [26] (fun t wr => ∃ (k : Nat) (rs : List Nat), k ≤ m ∧ t = .int .i64 k ∧ rs.length = m ∧ wr.ownsRow w.heap.size 5 1 (.slice (some ⟨gd, 0, none⟩) m cd) m (c8 rs) ∧ Hid (∀ j, j < k → rs.getD j 0 = DS.getD j 0 + 48) ∧ Hid (∀ j, k ≤ j → rs.getD j 0 = DS.getD j 0) ∧ Below w.heap.size w wr) (fun t _ => m - (intOf t).toNat)
  case atStart => exact ⟨0, DS, Nat.zero_le _, rfl, HM.out.symm, hrow, fun j hj => by omega, fun j _ => rfl, hbel4⟩
  case round =>
    obtain ⟨k, rs, hk, rfl, hrl, hr, HA, HB', hbr'⟩ := hrel
    have HRL : Hid (rs.length = m) := hrl
    by_cases c' : k < m
    · have hd9 := HDS.out k
      have hcell : wr.cell? ⟨gd, k, none⟩ = some (.int .u8 (DS.getD k 0 : Nat)) := by
        rw [hr.cellAt k (by omega), c8_get rs k (by omega), HB'.out k (Nat.le_refl _)]
      have hfr := hr.frozenAt k
      obtain ⟨d, hd'⟩ : ∃ d, d = DS.getD k 0 := ⟨_, rfl⟩
      rw [← hd'] at hd9 hcell
      have HDK : Hid (d = DS.getD k 0) := hd'
      have hst := (hr.stored k (.int .u8 ((d + 48 : Nat) : Int))).1
      rw [c8_set] at hst
      clear hd' hrl
      go_wp2
      go_roundw
      case rel =>
        refine ⟨k + 1, rs.set k (d + 48), by omega, by go_num, by rw [List.length_set]; exact HRL.out, hst, ?_, ?_, hbr'.setCell (p := ⟨gd, k, none⟩) hgd _⟩
        · intro j hj
          by_cases e : j = k
          · subst e; rw [getD_set_same _ _ _ (by rw [HRL.out]; exact c'), HDK.out]
          · rw [pget_set (by omega)]; exact HA.out j (by omega)
        · intro j hj
          rw [pget_set (by omega)]; exact HB'.out j (by omega)
      case measure => simp [intOf]; omega
    · have hke : k = m := by omega
      have hL : (dtx DS).length = m := by unfold dtx; rw [List.length_map]; exact HM.out.symm
      have hcv : (convert 36 9 (.slice (some ⟨gd, 0, none⟩) m cd)).run Tryd.prog wr = .ok (.string (Txt.bs (dtx DS))) wr := by
        have := run_convert_bytes_back (P := Tryd.prog) wr 36 9 5 ⟨gd, 0, none⟩ cd (dtx DS) Tryd.underlying36 Tryd.underlying5 Tryd.underlying9 (by
          intro j hj
          have hjl : j < DS.length := by have := HM.out; omega
          refine hr.cells (g := gd) rfl j _ ?_
          rw [c8_get rs j (by omega), HA.out j (by omega), dtx_get DS j hj (HDS.out j)])
        rw [hL] at this
        exact this
      go_wp2
      go_ret2
      exact ⟨rfl, hbr'⟩

end Go.Proofs.YtngpdpmhjhgafaaDoor

/-
  15, printed; and whether a numeral is read and written.
-/
namespace Go.Proofs.YtngpdpmhjhgafaaDoor
set_option maxRecDepth 100000
open Go.RowKit Pt Flo

theorem short15 (w : World) : Calls Tryd.prog 20 #[.int .i64 (-49), .int .u64 8444249301319680] w fun e w' => e = .returned (.tuple #[.string (Txt.bs [49, 53]), .int .i64 1]) ∧ Below w.heap.size w w' := by
  have h := shortest_low (-49) 8444249301319680 53 1 0 2 100 51 true [1, 5] w (by decide) (by decide) (by decide) (by decide) (by show _ = _; decide) (by decide +kernel) (by decide) (by decide) (-1) (by decide) (by decide) (by decide) (by decide) (by decide)
    (by show _ ∧ _; decide +kernel) (by
      refine ⟨by decide +kernel, ?_⟩
      intro j hj
      have : j = 0 ∨ j = 1 := by omega
      rcases this with rfl | rfl <;> decide +kernel) 1 (by show _ = _; rfl) (by decide) (by
      intro j
      rcases j with _ | _ | j
      · decide
      · decide
      · simp) (by decide) (by decide) (by show _ = _; decide +kernel)
  have e : Txt.bs (dtx [1, 5]) = Txt.bs [49, 53] := by decide
  rw [e] at h
  exact h

set_option maxHeartbeats 1000000 in
theorem print15 (w : World) : Calls Tryd.prog 11 #[.int .u64 4624633867356078080] w fun e w' => e = .returned (.string (Txt.bs [49, 53])) ∧ Below w.heap.size w w' := by
  have HPa : Hid (∀ w, Calls Tryd.prog 18 #[.int .u64 4624633867356078080] w fun e w' => e = .returned (.tuple #[.bool false, .int .i64 (-49), .int .u64 8444249301319680]) ∧ w' = w) := fun w => parts_any 4624633867356078080 w ⟨by decide, by decide⟩
  have HKi : Hid (∀ w, Calls Tryd.prog 19 #[.int .u64 4624633867356078080] w fun e w' => e = .returned (.int .i64 2) ∧ w' = w) := fun w => kind_any 4624633867356078080 w ⟨by decide, by decide⟩
  have HLa : Hid (∀ w, Calls Tryd.prog 21 #[.string (Txt.bs [49, 53]), .int .i64 1] w fun e w' => e = .returned (.string (Txt.bs [49, 53])) ∧ w' = w) := fun w => laidOut_same (Txt.bs [49, 53]) 1 w (by decide) (by decide)
  have hcat : (⟨#[]⟩ : ByteArray) ++ Txt.bs [49, 53] = Txt.bs [49, 53] := by decide
  have hsz : (Txt.bs [49, 53]).size = 2 := by decide
  have HS : Hid (∀ w, Calls Tryd.prog 20 #[.int .i64 (-49), .int .u64 8444249301319680] w fun e w' => e = .returned (.tuple #[.string (Txt.bs [49, 53]), .int .i64 1]) ∧ Below w.heap.size w w') := short15
  generalize Txt.bs [49, 53] = s at *
  go_enter Tryd.func11, Tryd.ntmps11
  go_wp2_with fail
  refine (HPa.out _).mono ?_
  rintro e w' ⟨rfl, hw⟩
  rw [hw]
  clear hw w'
  go_wp2_with fail
  refine (HKi.out _).mono ?_
  rintro e w' ⟨rfl, hw⟩
  rw [hw]
  clear hw w'
  go_wp2_with fail
  refine (HS.out _).mono ?_
  rintro e w1 ⟨rfl, hb1⟩
  go_wp2_with fail
  refine (HLa.out _).mono ?_
  rintro e w' ⟨rfl, rfl⟩
  go_wp2
  go_ret
  exact ⟨by first | rfl | simp [hcat], hb1⟩

theorem near15 : nearR 150 10 = 4624633867356078080 := by
  rw [← near_bits (A := 150) (B := 10) (k := 53) (by decide) (by decide) (by decide +kernel)]
  decide +kernel
theorem num15 : Txt.numL [49, 46, 53, 48, 101, 49] = some ([49, 53, 48], -1) := by decide +kernel
theorem parse15 : parseW [49, 46, 53, 48, 101, 49] = (4624633867356078080, 0) := by
  rw [parseW_some (by decide) num15]
  have e0 : Txt.dv [49, 53, 48] 0 = 150 := by decide
  have e : decN 150 (-1) = nearR 150 10 := by unfold decN; rw [if_neg (by decide), show (-(-1 : Int)).toNat = 1 from rfl, Nat.pow_one]
  rw [e0, e, near15]

set_option maxHeartbeats 1000000 in
theorem decLives_any (w : World) : Calls Tryd.prog 9 #[] w fun e w' => e = .returned (.bool true) ∧ Below w.heap.size w w' := by
  have HPa : Hid (∀ w, Calls Tryd.prog 7 #[.string ⟨#[49, 46, 53, 48, 101, 49]⟩] w fun e w' => e = .returned (.tuple #[.int .u64 4624633867356078080, .int .i64 0]) ∧ Below w.heap.size w w') := fun w => by
    have h := parse_any [49, 46, 53, 48, 101, 49] w (by unfold maxLen; decide)
    rw [parse15] at h
    exact h
  have HPr : Hid (∀ w, Calls Tryd.prog 11 #[.int .u64 4624633867356078080] w fun e w' => e = .returned (.string ⟨#[49, 53]⟩) ∧ Below w.heap.size w w') := print15
  go_enter Tryd.func9, Tryd.ntmps9
  go_wp2_with fail
  refine (HPa.out _).mono ?_
  rintro e w1 ⟨rfl, hb1⟩
  go_wp2_with fail
  refine (HPr.out _).mono ?_
  rintro e w2 ⟨rfl, hb2⟩
  go_wp2
  go_ret
  exact ⟨rfl, hb1.trans (hb2.mono hb1.size)⟩

end Go.Proofs.YtngpdpmhjhgafaaDoor

/-
  The reference's Divide: quotient and rest, bit by bit.
-/
namespace Go.Proofs.YtngpdpmhjhgafaaDoor
set_option maxRecDepth 100000
open Go.RowKit Dg

theorem Row.below {w w' : World} {B N : Nat} {os : List Nat} (h : Row w B N os) (hb : Below w.heap.size w w') : Row w' B N os := by
  obtain ⟨h1, h2, h3⟩ := h
  refine ⟨h1, h2, h3.1, ?_⟩
  rcases h3.2 with hn | ⟨g, cap, cur, e, h0, hg, rest⟩
  · exact .inl hn
  · refine .inr ⟨g, cap, cur, e, h0, ?_, rest⟩
    rw [hb.block g (Array.getElem?_eq_some_iff.1 hg).1]
    exact hg
/-- A store into another block leaves digits as they were. -/
theorem D.stored {w : World} {v : Value} {n l B j : Nat} (h : D w v n l) (hf : Fresh (B + 1) v) (u : Value) : D (w.setCell ⟨B, j, none⟩ u) v n l := by
  obtain ⟨ds, g, cap, rfl, h2, h3, h4, h5⟩ := h
  refine ⟨ds, g, cap, rfl, h2, h3, h4, h5.1, ?_⟩
  have hg := hf g rfl
  rcases h5.2 with hn | ⟨g', cap', cur, e, h0, hg', rest⟩
  · exact .inl hn
  · refine .inr ⟨g', cap', cur, e, h0, ?_, rest⟩
    have : g' = g := by simp at e; exact e.1.symm
    subst this
    rw [Below.heap_setCell _ _ _ _ (by show g' ≠ B; omega)]
    exact hg'
theorem bit_split (N t : Nat) : N / 2 ^ t = 2 * (N / 2 ^ (t + 1)) + N / 2 ^ t % 2 := by
  rw [Nat.pow_succ, ← Nat.div_div_eq_div_mul]; omega
theorem or_bit {x r : Nat} (h : x % 2 ^ (r + 1) = 0) : x ||| 2 ^ r = x + 2 ^ r := nat_join (r + 1) x (2 ^ r) h (Nat.pow_lt_pow_right (by decide) (by omega))

/-- The digit that a quotient's next bit goes into. -/
theorem quo_digit {os : List Nat} {q t s r : Nat} (hs : Small16 os) (hv : val os = q * 2 ^ (t + 1)) (ht : t = 16 * s + r) (hr : r < 16) (hl : s < os.length) :
    os.getD s 0 ||| 2 ^ r = os.getD s 0 + 2 ^ r ∧ os.getD s 0 + 2 ^ r < 65536 ∧ val (os.set s (os.getD s 0 + 2 ^ r)) = (2 * q + 1) * 2 ^ t := by
  have e0 : os.getD s 0 = dig (val os) s := val_dig os s hs
  have e1 : 2 ^ (t + 1) = 65536 ^ s * 2 ^ (r + 1) := by rw [pow16, ← Nat.pow_add]; congr 1; omega
  have e2 : val os / 65536 ^ s = q * 2 ^ (r + 1) := by
    rw [hv, e1, show q * (65536 ^ s * 2 ^ (r + 1)) = (q * 2 ^ (r + 1)) * 65536 ^ s by grind, Nat.mul_div_cancel _ (Nat.pow_pos (by decide))]
  have e3 : os.getD s 0 % 2 ^ (r + 1) = 0 := by
    rw [e0]; unfold dig
    rw [e2]
    have : (65536 : Nat) = 2 ^ (r + 1) * 2 ^ (15 - r) := by rw [← Nat.pow_add, show r + 1 + (15 - r) = 16 by omega]
    rw [this, Nat.mod_mul_right_mod, Nat.mul_mod_left]
  have h16 : os.getD s 0 < 65536 := by rw [e0]; exact dig_lt _ _
  have e4 : os.getD s 0 + 2 ^ r < 65536 := by
    have : (65536 : Nat) = 2 ^ (r + 1) * 2 ^ (15 - r) := by rw [← Nat.pow_add, show r + 1 + (15 - r) = 16 by omega]
    have hd := Nat.div_add_mod (os.getD s 0) (2 ^ (r + 1))
    rw [e3, Nat.add_zero] at hd
    have hp := Nat.two_pow_pos r
    have e5 : 2 ^ (r + 1) = 2 * 2 ^ r := Nat.pow_succ'
    have hlt : os.getD s 0 / 2 ^ (r + 1) < 2 ^ (15 - r) := by
      rw [Nat.div_lt_iff_lt_mul (Nat.two_pow_pos _), Nat.mul_comm, ← this]; exact h16
    have := Nat.mul_le_mul_left (2 ^ (r + 1)) (show os.getD s 0 / 2 ^ (r + 1) + 1 ≤ 2 ^ (15 - r) by omega)
    rw [Nat.mul_add, Nat.mul_one] at this
    omega
  refine ⟨or_bit e3, e4, ?_⟩
  have h := val_set os s (os.getD s 0 + 2 ^ r) hl
  rw [Nat.add_mul] at h
  have e6 : 2 ^ r * 65536 ^ s = 2 ^ t := by rw [pow16, ← Nat.pow_add]; congr 1; omega
  have e7 : (2 * q + 1) * 2 ^ t = q * 2 ^ (t + 1) + 2 ^ t := by rw [Nat.pow_succ]; grind
  rw [e7, ← hv]
  omega

theorem div_low {q m R b t N V : Nat} (h : N = 2 * (q * m + R) + b) (hv : V = q * 2 ^ (t + 1)) : N = (2 * q) * m + (R * 2 ^ 1 + b) ∧ V = (2 * q) * 2 ^ t := by
  rw [h, hv, Nat.pow_succ]
  constructor <;> grind
theorem div_high {q m R b N : Nat} (h : N = 2 * (q * m + R) + b) (hm : m ≤ R * 2 ^ 1 + b) : N = (2 * q + 1) * m + (R * 2 ^ 1 + b - m) := by
  rw [h, Nat.add_mul, Nat.one_mul, Nat.mul_assoc]
  omega

set_option maxHeartbeats 4000000 in
theorem divide_any (v u : Value) (n la m lb : Nat) (w : World) (hD : D w v n la) (hE : D w u m lb) (hl : la ≤ 1048576) (hk : lb ≤ 1048576) (hm : 0 < m) :
    Calls Tryd.prog 29 #[v, u] w fun e w' => ∃ v1 v2, e = .returned (.tuple #[v1, v2]) ∧ D w' v1 (n / m) (dlen (n / m)) ∧ D w' v2 (n % m) (dlen (n % m)) ∧ Below w.heap.size w w' := by
  obtain ⟨i0, hi, hz0, hz1, hz2⟩ := info_parts infoU
  have hn := hD.lt
  rw [pow16] at hn
  have hmb := hE.lt
  have hD0 := hD
  obtain ⟨g, cap, rfl, hg, hlc, hcm, -⟩ := hD.shape
  unfold maxLen at hcm
  clear hD
  have HL : Hid (∀ w, D w (.slice (some ⟨g, 0, none⟩) la cap) n la → Calls Tryd.prog 28 #[.slice (some ⟨g, 0, none⟩) la cap] w fun e w' => e = .returned (.int .i64 (blen n : Nat)) ∧ w' = w) := fun w h => len_any _ n la w h (by omega)
  have hbl : blen n ≤ 16 * la := by
    unfold blen
    split
    · omega
    · rename_i h0
      have := (Nat.log2_lt h0).2 hn
      omega
  have H0 : n / 2 ^ blen n = 0 := Nat.div_eq_of_lt (blen_lt n)
  generalize blen n = bl at *
  have HB : Hid (∀ w t, t < 16 * la → D w (.slice (some ⟨g, 0, none⟩) la cap) n la → Calls Tryd.prog 53 #[.slice (some ⟨g, 0, none⟩) la cap, .int .i64 (t : Nat)] w fun e w' => e = .returned (.int .u64 (n / 2 ^ t % 2 : Nat)) ∧ w' = w) := by
    intro w t ht h
    have := bit_any (.slice (some ⟨g, 0, none⟩) la cap) n la t w h (by omega) (by omega)
    rw [Int.toNat_natCast] at this
    exact this
  go_enter Tryd.func29, Tryd.ntmps29
  go_wp2_with (at_make; refine wpList_make_full _ rfl _ _ 55 rfl w.heap.size 22 i0 (.int .u64 0) 1 Tryd.underlying55 hi hz0 hz1 _ _ _ _ la rfl rfl (by omega) (by omega) (by rw [hz2]; omega) (by unfold maxLen; omega) (Nat.le_refl _) ?_)
  intro w1 hown1 hgrow1
  have hR := Row.made hown1
  have hb1 : Below w.heap.size w w1 := (Below.refl _ _).grown hgrow1 (Nat.le_refl _) (by simp)
  have hsz1 : w.heap.size < w1.heap.size := (hown1.lt w.heap.size rfl).2
  clear hown1 hgrow1
  have hr0 := D_empty w1
  have hb2 : Below w.heap.size w (w1.alloc (.cells #[] 22)) := hb1.alloc hb1.size _
  have hR2 := hR.below ((Below.refl w1.heap.size w1).alloc (Nat.le_refl _) (.cells #[] 22))
  have hDx := hD0.below hb2
  have hEx := hE.below hb2
  clear hR hb1
  have hrF : Fresh (w.heap.size + 1) (.slice (some ⟨w1.heap.size, 0, none⟩) 0 0) := by
    intro g hg; simp [Value.ownBlock] at hg; omega
  have hsz2 : w.heap.size + 1 ≤ (w1.alloc (.cells #[] 22)).heap.size := by simp; omega
  go_wp2_with fail
  generalize w1.alloc (.cells #[] 22) = w2 at *
  refine (HL.out _ hDx).mono ?_
  rintro e w' ⟨rfl, hw'⟩
  rw [hw']
  clear hw' w'
  go_wp2_with fail
  have HN : Hid (n / 2 ^ bl = 0 * m + 0) := by show n / 2 ^ bl = 0 * m + 0; rw [H0]; omega
  go_loopw [7, 8] (fun rv t wr => ∃ (j : Nat) (i : Int) (os : List Nat) (q R : Nat), i = (j : Int) - 1 ∧ j ≤ bl ∧ t = .int .i64 i ∧ Row wr w.heap.size la os ∧ val os = q * 2 ^ j ∧ n / 2 ^ j = q * m + R ∧ R < m ∧
      D wr rv R (dlen R) ∧ Fresh (w.heap.size + 1) rv ∧ Below w.heap.size w wr ∧ w.heap.size + 1 ≤ wr.heap.size) (fun _ t _ => (intOf t + 1).toNat)
  case atStart => exact ⟨bl, _, List.replicate la 0, 0, 0, rfl, Nat.le_refl _, by go_num, hR2, by rw [val_replicate]; omega, HN.out, hm, hr0, hrF, hb2, hsz2⟩
  case round =>
    obtain ⟨j, i, os, q, R, hi', hj, rfl, hRow, hval, hq, hRm, hDr, hFr, hbel, hszr⟩ := hrel
    have hDv := hD0.below hbel
    have hEv := hE.below hbel
    cases j with
    | zero =>
      obtain rfl : i = -1 := by omega
      have e1 : n / m = q := by
        rw [Nat.pow_zero, Nat.div_one] at hq
        rw [hq, Nat.mul_comm, Nat.mul_add_div hm, Nat.div_eq_of_lt hRm, Nat.add_zero]
      have e2 : n % m = R := by
        rw [Nat.pow_zero, Nat.div_one] at hq
        rw [hq, Nat.mul_comm, Nat.mul_add_mod, Nat.mod_eq_of_lt hRm]
      have hd : D wr (.slice (some ⟨w.heap.size, 0, none⟩) la la) q la := by
        refine ⟨os, w.heap.size, la, rfl, hRow.1, hRow.2.1, ?_, ownsRow_base hRow.2.2⟩
        rw [hval]; simp
      have E1 : Hid (n / m = q) := e1
      have E2 : Hid (n % m = R) := e2
      clear hval hq e1 e2 hRow hi' HN H0
      go_wp2_with fail
      refine (trim_any _ q la _ hd (by omega)).mono ?_
      rintro e w3 ⟨v3, rfl, hd3, hb3⟩
      have hd4 := hDr.below hb3
      go_wp2
      go_ret2
      refine ⟨_, _, rfl, ?_, ?_, hbel.trans (hb3.mono hbel.size)⟩
      · rw [E1.out]; exact hd3
      · rw [E2.out]; exact hd4
    | succ t =>
      obtain rfl : i = (t : Int) := by omega
      obtain ⟨b, hbit⟩ : ∃ b, b = n / 2 ^ t % 2 := ⟨_, rfl⟩
      have b1 : b < 2 := by omega
      have hstep := bit_split n t
      rw [hq, ← hbit] at hstep
      have HBt : Hid (∀ w, D w (.slice (some ⟨g, 0, none⟩) la cap) n la → Calls Tryd.prog 53 #[.slice (some ⟨g, 0, none⟩) la cap, .int .i64 (t : Nat)] w fun e w' => e = .returned (.int .u64 (b : Nat)) ∧ w' = w) := by
        intro w h
        have := HB.out w t (by omega) h
        rw [← hbit] at this
        exact this
      obtain ⟨R1, hR1⟩ : ∃ R1, R1 = R * 2 ^ 1 + b := ⟨_, rfl⟩
      have hlen : dlen R ≤ lb := dlen_le (Nat.lt_trans hRm hmb)
      have hlen1 : dlen (R * 2 ^ 1) ≤ lb + 1 := dlen_le (by rw [Nat.pow_succ]; omega)
      have hlen2 : dlen R1 ≤ lb + 1 := dlen_le (by rw [Nat.pow_succ]; omega)
      have HQ : Hid (n / 2 ^ t = 2 * (q * m + R) + b) := hstep
      have HV : Hid (val os = q * 2 ^ (t + 1)) := hval
      clear hval hq hstep hbit hi' HN H0
      go_wp2_with fail
      refine (up_any _ R (dlen R) 1 _ hDr (by omega) (by decide)).mono ?_
      rintro e w3 ⟨v3, rfl, hd3, hb3⟩
      have hDv3 := hDv.below hb3
      have hEv3 := hEv.below hb3
      have hRow3 := hRow.below hb3
      have hbel3 := hbel.trans (hb3.mono hbel.size)
      have hsz3 : w.heap.size + 1 ≤ w3.heap.size := Nat.le_trans hszr hb3.size
      clear hDv hEv hRow hbel hszr hDr hb3 hFr
      go_wp2_with fail
      refine (HBt.out _ hDv3).mono ?_
      rintro e w' ⟨rfl, hw'⟩
      rw [hw']
      clear hw' w'
      have ho := D_one w3 b (by omega)
      have hbA : Below w3.heap.size w3 (w3.alloc (.cells #[.int .u64 (b : Int)] 22)) := (Below.refl _ _).alloc (Nat.le_refl _) _
      have hd4 := hd3.below hbA
      have hEv4 := hEv3.below hbA
      have hRow4 := hRow3.below hbA
      have hbel4 := hbel3.trans (hbA.mono hbel3.size)
      have hsz4 : w.heap.size + 1 ≤ (w3.alloc (.cells #[.int .u64 (b : Int)] 22)).heap.size := Nat.le_trans hsz3 hbA.size
      clear hDv3 hEv3 hRow3 hbel3 hsz3 hbA hd3
      go_wp2_with fail
      generalize w3.alloc (.cells #[.int .u64 (b : Int)] 22) = w4 at *
      refine (sum_new _ _ (R * 2 ^ 1) _ b 1 _ hd4 ho (by omega) (by decide)).mono ?_
      rintro e w5 ⟨v5, rfl, hd5, hb5, hf5⟩
      rw [← hR1] at hd5
      replace hf5 := hf5.mono hsz4
      have hEv5 := hEv4.below hb5
      have hRow5 := hRow4.below hb5
      have hbel5 := hbel4.trans (hb5.mono hbel4.size)
      have hsz5 : w.heap.size + 1 ≤ w5.heap.size := Nat.le_trans hsz4 hb5.size
      clear hEv4 hRow4 hbel4 hsz4 hb5 hd4 ho
      go_wp2_with fail
      refine (cmp_any _ _ _ _ _ _ _ hd5 hEv5 (by omega) (by omega)).mono ?_
      rintro e w' ⟨rfl, hw'⟩
      rw [hw']
      clear hw' w'
      obtain ⟨s, hs⟩ : ∃ s : Nat, (t : Int) / 16 = (s : Int) := ⟨t / 16, by omega⟩
      obtain ⟨r, hr⟩ : ∃ r : Nat, (t : Int) % 16 = (r : Int) := ⟨t % 16, by omega⟩
      have r16 : r < 16 := by omega
      have hs1 : s < la := by omega
      by_cases c : m ≤ R1
      · have hc : decide (0 ≤ cmpZ R1 m) = true := by unfold cmpZ; rw [if_neg (by omega)]; split <;> simp
        generalize cmpZ R1 m = C at *
        obtain ⟨k1, k2, k3⟩ := quo_digit (t := t) (s := s) (r := r) (q := q) hRow5.2.1 HV.out (by omega) r16 (by rw [hRow5.1]; exact hs1)
        have k4 := hRow5.cell hs1
        obtain ⟨o, ho⟩ : ∃ o, o = os.getD s 0 := ⟨_, rfl⟩
        rw [← ho] at k1 k2 k3 k4
        obtain ⟨x, hx⟩ : ∃ x, x = 2 ^ r := ⟨_, rfl⟩
        have x1 : x < 65536 := by rw [← hx] at k2; omega
        have hxw : IntKind.u64.wrap (2 ^ r) = (x : Int) := by
          rw [IntKind.wrap_u64, show (2 : Int) ^ r = ((2 ^ r : Nat) : Int) by rw [Int.natCast_pow]; rfl, ← hx]
          omega
        rw [← hx] at k1 k2 k3
        have hor : bits .or .u64 (o : Int) (x : Int) = ((o + x : Nat) : Int) := by rw [u64_or_nat o x (by omega) (by omega), k1]
        obtain ⟨y, hy⟩ : ∃ y, y = o + x := ⟨_, rfl⟩
        rw [← hy] at hor k2 k3
        have e1 := div_high HQ.out (by omega)
        rw [← hR1] at e1
        have E1 : Hid (n / 2 ^ t = (2 * q + 1) * m + (R1 - m)) := e1
        have E2 : Hid (val (os.set s y) = (2 * q + 1) * 2 ^ t) := k3
        have hRm2 : R1 - m < m := by omega
        have ho2 : o < 65536 := by omega
        have HO : Hid (o = os.getD s 0) := ho
        clear e1 k1 k3 HQ HV hR1 HBt hx hy k4 ho
        go_wp2_with fail
        refine (minus_new _ _ _ _ _ _ _ hd5 hEv5 (by omega) c).mono ?_
        rintro e w6 ⟨v6, rfl, hd6, hb6, hf6⟩
        replace hf6 := hf6.mono hsz5
        have hRow6 := hRow5.below hb6
        have hbel6 := hbel5.trans (hb6.mono hbel5.size)
        have hsz6 : w.heap.size + 1 ≤ w6.heap.size := Nat.le_trans hsz5 hb6.size
        have hcell := hRow6.cell hs1
        have hfro := hRow6.frozen s
        rw [← HO.out] at hcell
        clear hEv5 hRow5 hbel5 hsz5 hb6 hd5 hf5 HO
        go_wp2_with fail
        go_roundw
        case rel => exact ⟨t, _, os.set s y, 2 * q + 1, R1 - m, rfl, by omega, by go_num, hRow6.stored k2, E2.out, E1.out, hRm2, hd6.stored hf6 _, hf6, hbel6.setCell (p := ⟨w.heap.size, s, none⟩) (Nat.le_refl _) _, by simpa [World.setCell] using hsz6⟩
        case measure => simp [intOf]
      · have hc : decide (0 ≤ cmpZ R1 m) = false := by unfold cmpZ; rw [if_pos (by omega)]; simp
        generalize cmpZ R1 m = C at *
        obtain ⟨e1, e2⟩ := div_low HQ.out HV.out
        rw [← hR1] at e1
        have E1 : Hid (n / 2 ^ t = (2 * q) * m + R1) := e1
        have E2 : Hid (val os = (2 * q) * 2 ^ t) := e2
        clear e1 e2 HQ HV hR1 HBt
        go_wp2
        go_roundw
        case rel => exact ⟨t, _, os, 2 * q, R1, rfl, by omega, by go_num, hRow5, E2.out, E1.out, by omega, hd5, hf5, hbel5, hsz5⟩
        case measure => simp [intOf]

end Go.Proofs.YtngpdpmhjhgafaaDoor

/-
  The reference's Near and Parse, walked.
-/
namespace Go.Proofs.YtngpdpmhjhgafaaDoor
set_option maxRecDepth 100000
open Go.RowKit Txt Dg Flo

theorem cells_at5 (w : World) (cs : Array Value) (t j : Nat) {u : Value} (h : cs[j]? = some u) : (w.alloc (.cells cs t)).cell? ⟨w.heap.size, j, none⟩ = some u := by
  unfold World.cell?
  rw [heap_alloc_new]
  exact h
theorem near_up (M : Nat) : sgn false + ((rung 0 ((2 * M + false.toNat) * 2 ^ ((0 : Int) + 1073 + ((0 : Nat) : Int)).toNat) : Nat) : Int) = ((rung 0 (M * 2 ^ OP) : Nat) : Int) := by
  have e : ((0 : Int) + 1073 + ((0 : Nat) : Int)).toNat = OP - 1 := by rw [OP_eq]; rfl
  have hO : OP = OP - 1 + 1 := by rw [OP_eq]
  have e2 : (2 * M + false.toNat) * 2 ^ (OP - 1) = M * 2 ^ OP := by
    conv => rhs; rw [hO, Nat.pow_succ]
    show (2 * M + 0) * 2 ^ (OP - 1) = _
    rw [Nat.add_zero, Nat.mul_comm 2 M, Nat.mul_assoc, Nat.mul_comm 2]
  rw [e, e2]
  unfold sgn
  simp
theorem near_down {N T U : Nat} {more : Bool} (hN : N ≠ 0) (hT : 0 < T) (hq : 9007199254740992 ≤ N * 2 ^ U / T) (hm : more = decide (N * 2 ^ U % T ≠ 0)) :
    sgn false + ((rung U ((2 * (N * 2 ^ U / T) + more.toNat) * 2 ^ (-(U : Int) + 1073 + (U : Int)).toNat) : Nat) : Int) = ((nearR N T : Nat) : Int) := by
  have e : (-(U : Int) + 1073 + (U : Int)).toNat = OP - 1 := by rw [OP_eq]; omega
  have e2 : 2 * (N * 2 ^ U / T) + more.toNat = stick N T U := by
    unfold stick
    rw [hm]
    by_cases c : N * 2 ^ U % T = 0
    · rw [if_pos c, decide_eq_false (by simpa using c)]; rfl
    · rw [if_neg c, decide_eq_true c]; rfl
  rw [e, e2, near_bits hN hT hq]
  unfold sgn
  simp
theorem near_enough {N T U : Nat} (hN : N ≠ 0) (hT : 0 < T) (hU : blen T + 70 - blen N ≤ U) : 9007199254740992 ≤ N * 2 ^ U / T := by
  rw [Nat.le_div_iff_mul_le hT]
  have h1 := blen_lt T
  have h2 := blen_ge hN
  have h3 : 9007199254740992 * T ≤ 2 ^ 53 * 2 ^ blen T := Nat.mul_le_mul (by decide) (Nat.le_of_lt h1)
  rw [← Nat.pow_add] at h3
  have h4 : 2 ^ blen N * 2 ^ U ≤ 2 * N * 2 ^ U := Nat.mul_le_mul_right _ h2
  rw [← Nat.pow_add, Nat.mul_assoc] at h4
  have h5 : (2 : Nat) ^ (53 + blen T + 1) ≤ 2 ^ (blen N + U) := Nat.pow_le_pow_right (by decide) (by omega)
  rw [Nat.pow_succ] at h5
  omega
theorem dlen_dec {n : Nat} : decide (0 < dlen n) = decide (n ≠ 0) := by
  unfold dlen
  by_cases c : n = 0
  · rw [if_pos c, c]; rfl
  · rw [if_neg c, decide_eq_true c]; apply decide_eq_true; omega
theorem dlen_ne {n : Nat} (h : n ≠ 0) : dlen n ≠ 0 := by
  unfold dlen; rw [if_neg h]; omega

set_option maxRecDepth 100000 in
set_option maxHeartbeats 3200000 in
theorem near_any (L : List UInt8) (x : Int) (w : World) (hD : AllD L) (hl : L.length ≤ 400) (hx1 : -11000 ≤ x) (hx2 : x ≤ 11000) :
    Calls Tryd.prog 13 #[.agg #[.string (bs L), .int .i64 x]] w fun e w' => e = .returned (.int .u64 (decN (dv L 0) x : Nat)) ∧ Below w.heap.size w w' := by
  have HW : Hid (∀ w, Calls Tryd.prog 23 #[.string (bs L)] w fun e w' => ∃ v, e = .returned v ∧ D w' v (dv L 0) (dlen (dv L 0)) ∧ Below w.heap.size w w') := fun w => whole_any L w hD hl
  have HB : Hid (dv L 0 < 10 ^ DG) := dv_bound hD hl
  generalize dv L 0 = N at *
  have hlN : dlen N ≤ 101 := dlen_ten (n := DG) (Nat.le_of_lt HB.out) (by rw [DG_eq]; decide)
  generalize bs L = s at *
  have hb0 : Below w.heap.size w (w.alloc (.cells #[.string s, .int .i64 x] 32)) := (Below.refl _ _).alloc (Nat.le_refl _) _
  have hc0 : (w.alloc (.cells #[.string s, .int .i64 x] 32)).cell? ⟨w.heap.size, 1, none⟩ = some (.int .i64 x) := cells_at5 _ _ _ _ rfl
  clear hD hl
  go_enter Tryd.func13, Tryd.ntmps13
  go_wp2_with fail
  refine (HW.out _).mono ?_
  rintro e w1 ⟨v1, rfl, hd1, hb1⟩
  have hc1 : w1.cell? ⟨w.heap.size, 1, none⟩ = some (.int .i64 x) := (hb1.cell (by simp)).trans hc0
  have hB1 := hb0.trans (hb1.mono hb0.size)
  obtain ⟨g, cap, rfl, hg, hlc, hcm, -⟩ := hd1.shape
  clear hb1 hb0 hc0
  by_cases c0 : N = 0
  · subst c0
    have HQ : Hid (decN 0 x = 0 ∧ Below w.heap.size w w1) := ⟨decN_zero x, hB1⟩
    rw [show dlen 0 = 0 from rfl]
    go_wp2
    go_ret
    exact ⟨by rw [HQ.out.1]; rfl, HQ.out.2⟩
  · have hl0 := dlen_ne c0
    have HB1 : Hid (Below w.heap.size w w1) := hB1
    have hz1 := hB1.size
    obtain ⟨lN, hlNe⟩ : ∃ lN, lN = dlen N := ⟨_, rfl⟩
    rw [← hlNe] at hd1 hl0 hlN hlc ⊢
    have hl0b : ((lN : Int) == 0) = false := by rw [beq_eq_false_iff_ne]; omega
    clear hlNe hB1
    by_cases c1 : x < -1000
    · have HQ : Hid (decN N x = 0) := dec_tiny HB.out (by omega)
      go_wp2
      go_ret
      exact ⟨by rw [HQ.out]; rfl, HB1.out⟩
    · by_cases c2 : 400 < x
      · have HQ : Hid (decN N x = 9218868437227405312) := dec_huge c0 (by omega)
        go_wp2_with fail
        refine (refInf_any false w1).mono ?_
        rintro e w2 ⟨rfl, rfl⟩
        go_wp2
        go_ret
        exact ⟨by rw [HQ.out]; rfl, HB1.out⟩
      · by_cases c3 : 0 ≤ x
        · obtain ⟨m, rfl⟩ := Int.eq_ofNat_of_zero_le c3
          have HQ : Hid (decN N (m : Int) = rung 0 (N * 10 ^ m * 2 ^ OP)) := decN_up N m
          go_wp2_with fail
          refine (ten_any m w1 (by omega)).mono ?_
          rintro e w2 ⟨v2, l2, rfl, hd2, hl2, hb2⟩
          have hd1' := hd1.below hb2
          have hB2 := HB1.out.trans (hb2.mono hz1)
          have hz2 := hB2.size
          clear hd1 hb2
          have hlM : dlen (N * 10 ^ m) ≤ 1048576 := by
            refine dlen_ten (n := DG + m) ?_ (by rw [DG_eq]; omega)
            rw [Nat.pow_add]; exact Nat.mul_le_mul_right _ (Nat.le_of_lt HB.out)
          generalize hT : 10 ^ m = T at *
          go_wp2_with fail
          refine (prod_any _ _ N lN T l2 _ hd1' hd2 (by omega) (by omega)).mono ?_
          rintro e w3 ⟨v3, rfl, hd3, hb3⟩
          have hB3 := hB2.trans (hb3.mono hz2)
          have hz3 := hB3.size
          clear hb3 hd2 hd1'
          go_wp2_with fail
          refine (round_any v3 (N * T) _ 0 0 false false w3 hd3 hlM (by decide) (by decide) (by decide) (by simp)).mono ?_
          rintro e w4 ⟨rfl, hb4⟩
          rw [near_up, ← HQ.out]
          have HB4 : Hid (Below w.heap.size w w4) := hB3.trans (hb4.mono hz3)
          clear hb4 hd3
          go_wp2
          go_ret
          exact ⟨rfl, HB4.out⟩
        · obtain ⟨m, rfl⟩ : ∃ m : Nat, x = -(m : Int) := ⟨(-x).toNat, by omega⟩
          have HQ : Hid (decN N (-(m : Int)) = nearR N (10 ^ m)) := by
            show _ = _
            unfold decN
            rw [if_neg c3, show (- -(m : Int)).toNat = m by omega]
          have hTp : 0 < 10 ^ m := Nat.pow_pos (by decide)
          have hbT : blen (10 ^ m) ≤ 4 * m + 1 := blen_le (Nat.lt_of_le_of_lt (pow_ten_lt m) (Nat.pow_lt_pow_right (by decide) (by omega)))
          have HNb : Hid (N < 2 ^ (4 * DG)) := Nat.lt_of_lt_of_le HB.out (pow_ten_lt DG)
          go_wp2_with fail
          refine (ten_any m w1 (by omega)).mono ?_
          rintro e w2 ⟨v2, l2, rfl, hd2, hl2, hb2⟩
          have hd1' := hd1.below hb2
          have hB2 := HB1.out.trans (hb2.mono hz1)
          have hz2 := hB2.size
          clear hd1 hb2
          generalize hT : 10 ^ m = T at *
          obtain ⟨U, hU⟩ : ∃ U, U = blen T + 70 - blen N := ⟨_, rfl⟩
          have hq := near_enough (U := U) c0 hTp (by omega)
          have hL1 := len_any _ T l2 w2 hd2 (by omega)
          have hL2 := len_any _ N lN w2 hd1' (by omega)
          have hbN : blen N ≤ 4 * DG := blen_le HNb.out
          rw [DG_eq] at hbN
          generalize blen T = bT at *
          generalize blen N = bN at *
          have HB2 : Hid (Below w.heap.size w w2) := hB2
          clear hB2 hT
          go_wp2_with fail
          refine hL1.mono ?_
          rintro e w3 ⟨rfl, hw3⟩
          rw [hw3]
          clear hw3
          go_wp2_with fail
          refine hL2.mono ?_
          rintro e w3 ⟨rfl, hw3⟩
          rw [hw3]
          clear hw3 hL1 hL2
          go_upto_if 43 with fail
          go_cut [5] (fun t wc => t = .int .i64 U ∧ wc = w2)
          case first =>
            by_cases c4 : (bT : Int) - (bN : Int) + 70 < 0
            · have e : U = 0 := by omega
              go_wp2_with fail
              go_meet
              case rel => exact ⟨by rw [e]; rfl, rfl⟩
            · have e : (U : Int) = (bT : Int) - (bN : Int) + 70 := by omega
              go_wp2_with fail
              go_meet
              case rel => exact ⟨by rw [e], rfl⟩
          case rest =>
            obtain ⟨rfl, hwc⟩ := hcut
            rw [hwc]
            clear hwc
            have hUl : U ≤ 4072 := by omega
            have hlA : dlen (N * 2 ^ U) ≤ 1000 := by
              refine dlen_pow (K := 4 * DG + U) ?_ (by rw [DG_eq]; omega)
              rw [Nat.pow_add]
              exact Nat.mul_lt_mul_of_pos_right HNb.out (Nat.two_pow_pos U)
            have hlq : dlen (N * 2 ^ U / T) ≤ 1000 := Nat.le_trans (dlen_mono (Nat.div_le_self _ _)) hlA
            clear hU hbT hbN
            go_wp2_with fail
            refine (up_any _ N lN U w2 hd1' (by omega) (by omega)).mono ?_
            rintro e w3 ⟨v3, rfl, hd3, hb3⟩
            have hd2' := hd2.below hb3
            have hB3 := HB2.out.trans (hb3.mono hz2)
            have hz3 := hB3.size
            clear hb3 hd2 hd1'
            go_wp2_with fail
            refine (divide_any v3 v2 (N * 2 ^ U) _ T l2 w3 hd3 hd2' (by omega) (by omega) hTp).mono ?_
            rintro e w4 ⟨vq, vr, rfl, hdq, hdr, hb4⟩
            have hB4 := hB3.trans (hb4.mono hz3)
            have hz4 := hB4.size
            obtain ⟨gr, cr, rfl, -, -, -, -⟩ := hdr.shape
            have hmore : decide (0 < dlen (N * 2 ^ U % T)) = decide (N * 2 ^ U % T ≠ 0) := dlen_dec
            have HRd := fun w h => round_any vq (N * 2 ^ U / T) (dlen (N * 2 ^ U / T)) U (-(U : Int)) (decide (N * 2 ^ U % T ≠ 0)) false w h (by omega) (by omega) (by omega) (by omega) (fun _ => hq)
            rw [near_down c0 hTp hq rfl, ← HQ.out] at HRd
            have hR4 := HRd w4 hdq
            have HB4 : Hid (Below w.heap.size w w4) := hB4
            generalize decide (N * 2 ^ U % T ≠ 0) = mo at *
            generalize dlen (N * 2 ^ U % T) = lr at *
            clear HRd hdq hdr hb4 hd3 hd2' hB3 hB4 hq hlA hlq
            rw [← hmore] at hR4
            clear hmore
            go_wp2_with fail
            refine hR4.mono ?_
            rintro e w5 ⟨rfl, hb5⟩
            have HB5 : Hid (Below w.heap.size w w5) := HB4.out.trans (hb5.mono hz4)
            clear hb5
            go_wp2
            go_ret
            exact ⟨rfl, HB5.out⟩

theorem hd9_dec {N : Nat} {x E : Int} (hN : N < 10 ^ DG) (h : Hd9 x E) : decN N x = decN N E := by
  by_cases h0 : N = 0
  · subst h0; rw [decN_zero, decN_zero]
  · rcases h with h | h | h
    · rw [h]
    · rw [dec_huge h0 (by omega), dec_huge h0 (by omega)]
    · rw [dec_tiny hN (by omega), dec_tiny hN (by omega)]

set_option maxHeartbeats 1000000 in
theorem refParse_any (l : List UInt8) (w : World) (hl : l.length ≤ maxLen) :
    Calls Tryd.prog 8 #[.string (bs l)] w fun e w' => e = .returned (.tuple #[.int .u64 ((parseW l).1 : Nat), .int .i64 ((parseW l).2 : Nat)]) ∧ Below w.heap.size w w' := by
  have hsz := bs_size l
  unfold maxLen at hl
  by_cases c : 400 < l.length
  · rw [parseW_long c]
    have h1 : (400 : Int) < ((bs l).size : Int) := by omega
    clear c hl
    generalize bs l = s at *
    clear hsz
    go_enter Tryd.func8, Tryd.ntmps8
    go_wp2
    go_ret2
    exact ⟨rfl, Below.refl _ _⟩
  · have h1 : ¬ (400 : Int) < ((bs l).size : Int) := by omega
    have hR := refRead_any l w (by omega)
    have HN : Hid (∀ D E, numL l = some (D, E) → parseW l = (decN (dv D 0) E, 0) ∧ AllD D ∧ D.length ≤ 400) := fun D E h => ⟨parseW_some (by omega) h, (numL_all h).1, by have := (numL_all h).2; omega⟩
    have HN0 : Hid (numL l = none → parseW l = (0, 4)) := fun h => parseW_none (by omega) h
    generalize parseW l = PW at *
    clear hl c
    generalize bs l = s at *
    clear hsz
    go_enter Tryd.func8, Tryd.ntmps8
    go_wp2_with fail
    refine hR.mono ?_
    rintro e w1 ⟨hb1, h⟩
    have hz1 := hb1.size
    rcases h with ⟨hn, D, X, rfl⟩ | ⟨D, E, x, hn, hx, hx1, hx2, rfl⟩
    · have e := HN0.out hn
      subst e
      go_wp2
      go_ret2
      exact ⟨rfl, hb1.alloc hz1 _⟩
    · obtain ⟨e, hD, hDl⟩ := HN.out D E hn
      have hnr := fun w => near_any D x w hD hDl hx1 hx2
      rw [hd9_dec (dv_bound hD hDl) hx] at hnr
      have HB1 : Hid (Below w.heap.size w (w1.alloc (.cells #[.string (bs D), .int .i64 x] 32))) := hb1.alloc hz1 _
      clear hn HN HN0 hx hD hDl hb1 hR
      subst e
      generalize bs D = sD at *
      go_wp2_with fail
      refine (hnr _).mono ?_
      rintro e w2 ⟨rfl, hb2⟩
      have HB2 : Hid (Below w.heap.size w w2) := HB1.out.trans (hb2.mono (by simp; omega))
      clear hb2 hnr
      go_wp2
      go_ret2
      exact ⟨rfl, HB2.out⟩

end Go.Proofs.YtngpdpmhjhgafaaDoor
