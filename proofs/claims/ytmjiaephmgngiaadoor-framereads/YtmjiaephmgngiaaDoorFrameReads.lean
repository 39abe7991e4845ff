/-
  FrameReads: the walk.
-/
import Derived.Test.YtmjiaephmgngiaaDoorFrScan
namespace Go.Proofs.YtmjiaephmgngiaaDoor
open Go.RowKit Crc

theorem RW.form {w : World} {B : Nat} {v : Value} {ls : List (List Nat)} (h : RW w B v ls) : ∃ p c, v = .slice p ls.length c ∧ ls.length ≤ maxLen := by
  obtain ⟨vs, h1, _⟩ := h
  rcases h1.2 with ⟨rfl, e⟩ | ⟨g, cap, cur, rfl, _, _, r1, r2, _⟩
  · exact ⟨none, 0, by rw [e], by rw [e]; exact Nat.zero_le _⟩
  · exact ⟨_, _, rfl, Nat.le_trans r1 r2⟩
theorem RW.cell {w : World} {B : Nat} {p : Option Addr} {n c : Nat} {ls : List (List Nat)} (h : RW w B (.slice p n c) ls) {j : Nat} (hj : j < ls.length) :
    ∃ g u, p = some ⟨g, 0, none⟩ ∧ w.cell? ⟨g, j, none⟩ = some u ∧ BR w u (ls.getD j []) := by
  obtain ⟨vs, h1, h2, h3⟩ := h
  rcases h1.2 with ⟨_, e⟩ | ⟨g, cap, cur, e, _⟩
  · omega
  · simp only [Value.slice.injEq] at e
    obtain ⟨rfl, rfl, rfl⟩ := e
    refine ⟨g, vs.getD j (.bool false), rfl, ?_, (h3 j hj).1⟩
    have := h1.cells (g := g) rfl j (vs.getD j (.bool false)) (by rw [List.getD_eq_getElem?_getD, List.getElem?_eq_getElem (by omega)]; rfl)
    rw [add_off] at this
    exact this

set_option maxRecDepth 100000 in
set_option maxHeartbeats 3200000 in
theorem frameReads_walk (v : Value) (l : List Nat) (w : World) (h : BR w v l) (hl : l.length ≤ 1048576) (hT : Tb w) (h0 : 0 < w.heap.size) :
    Calls Tryd.prog 5 #[v] w fun e w' => e = .returned (.bool true) ∧ Below w.heap.size w w' := by
  have HR : Hid (BR w v l) := h
  have HT : Hid (Tb w) := hT
  clear h hT
  go_enter Tryd.func5, Tryd.ntmps5
  go_wp2_with fail
  refine (own_any _ l w HR.out (by omega)).mono ?_
  rintro e w1 ⟨v1, rfl, ho1, hb1⟩
  have z1 := hb1.size
  go_wp2_with fail
  refine (first_any v1 l w1 ho1.br (HT.out.below hb1 h0) (by omega)).mono ?_
  unfold FA
  rintro e w2 ⟨v2, rfl, ho2, hb2⟩
  have z2 := hb2.size
  have hB2 := Below.then hb1 hb2
  clear ho1 hb1 hb2
  have hF := refFirst_any v l w2 (HR.out.below hB2 (Nat.le_refl _))
  unfold FA at hF
  generalize frsN l = FN at *
  generalize frsE l = FE at *
  obtain ⟨FB, hFB⟩ : ∃ FB, FB = frsB l := ⟨_, rfl⟩
  rw [← hFB] at hF ho2
  clear hFB
  go_wp2_with fail
  refine hF.mono ?_
  rintro e w3 ⟨v3, rfl, ho3, hb3⟩
  have z3 := hb3.size
  have hB3 := Below.then hB2 hb3
  have hr2 := ho2.br.below hb3 (Nat.le_refl _)
  clear hF ho2 hb3 hB2
  go_wp2_with fail
  refine (own_any _ l w3 (HR.out.below hB3 (Nat.le_refl _)) (by omega)).mono ?_
  rintro e w4 ⟨v4, rfl, ho4, hb4⟩
  have z4 := hb4.size
  have hB4 := Below.then hB3 hb4
  have hr2' := hr2.below hb4 (Nat.le_refl _)
  have hr3' := ho3.br.below hb4 (Nat.le_refl _)
  clear hr2 ho3 hb4 hB3
  have hS1 := scan_any v4 l w4 ho4.br hl (HT.out.below hB4 h0) (by omega)
  obtain ⟨R1, hR1⟩ : ∃ R1, R1 = (sc (l.length + 1) l).1 := ⟨_, rfl⟩
  obtain ⟨R2, hR2⟩ : ∃ R2, R2 = (sc (l.length + 1) l).2 := ⟨_, rfl⟩
  rw [← hR1, ← hR2] at hS1
  go_wp2_with fail
  refine hS1.mono ?_
  rintro e w5 ⟨v5, rfl, hW5, hb5⟩
  have z5 := hb5.size
  have hB5 := Below.then hB4 hb5
  have hr2 := hr2'.below hb5 (Nat.le_refl _)
  have hr3 := hr3'.below hb5 (Nat.le_refl _)
  have hS2 := refScan_any v l w5 (HR.out.below hB5 (Nat.le_refl _)) hl
  rw [← hR1, ← hR2] at hS2
  clear hr2' hr3' hb5 hB4 hS1 hR1 hR2 ho4
  go_wp2_with fail
  refine hS2.mono ?_
  rintro e w6 ⟨v6, rfl, hW6, hb6⟩
  have z6 := hb6.size
  have hB6 := Below.then hB5 hb6
  have x1 := conv_any (hr2.below hb6 (Nat.le_refl _))
  have x2 := conv_any (hr3.below hb6 (Nat.le_refl _))
  have hW5' := hW5.below hb6 (Nat.le_refl _)
  obtain ⟨p5, c5, rfl, hnm⟩ := hW5.form
  obtain ⟨p6, c6, rfl, _⟩ := hW6.form
  have HW5 : Hid (RW w6 w4.heap.size (.slice p5 R1.length c5) R1) := hW5'
  have HW6 : Hid (RW w6 w5.heap.size (.slice p6 R1.length c6) R1) := hW6
  have HB6 : Hid (Below w.heap.size w w6) := hB6
  have HT6 : Hid (Tb w6) := HT.out.below hB6 h0
  generalize bsN FB = SB at *
  obtain ⟨n, hn⟩ : ∃ n, n = R1.length := ⟨_, rfl⟩
  have HN : Hid (n = R1.length) := hn
  rw [← hn] at HW5 HW6 hnm ⊢
  unfold maxLen at hnm
  clear hW5 hW5' hW6 hb6 hr2 hr3 hB5 hS2 hB6 hn
  go_wp2_with fail
  go_loopw [13] (fun t13 wr => ∃ j : Nat, j ≤ n ∧ t13 = .int .i64 j ∧ Hid (Below w6.heap.size w6 wr)) (fun t13 _ => n - (intOf t13).toNat)
  case atStart => exact ⟨0, Nat.zero_le _, rfl, Below.refl _ _⟩
  case round =>
    obtain ⟨j, hj, rfl, HB⟩ := hrel
    by_cases hjn : j < n
    · obtain ⟨g5, y5, rfl, k5, b5⟩ := (HW5.out.below HB.out (Nat.le_refl _)).cell (j := j) (by have := HN.out; omega)
      obtain ⟨g6, y6, rfl, k6, b6⟩ := (HW6.out.below HB.out (Nat.le_refl _)).cell (j := j) (by have := HN.out; omega)
      have HC : Hid (∀ w', Below wr.heap.size wr w' → (convert 22 9 y5).run Tryd.prog w' = .ok (.string (bsN (R1.getD j []))) w' ∧ (convert 22 9 y6).run Tryd.prog w' = .ok (.string (bsN (R1.getD j []))) w') :=
        fun w' hb => ⟨conv_any (b5.below hb (Nat.le_refl _)), conv_any (b6.below hb (Nat.le_refl _))⟩
      generalize bsN (R1.getD j []) = SJ at *
      have i1 : (j : Int) < (n : Int) := by omega
      have i2 : (0 : Int) ≤ (j : Int) := by omega
      obtain ⟨q1, q2⟩ := HC.out _ (Below.refl _ wr).drew
      have HBd : Hid (Below w6.heap.size w6 wr.drew) := HB.out.drew
      clear b5 b6
      go_wp2_with fail
      go_region_held3 (fun w' => w'.cell? ⟨g5, j, none⟩ = some y5 ∧ w'.cell? ⟨g6, j, none⟩ = some y6 ∧ (convert 22 9 y5).run Tryd.prog w' = .ok (.string SJ) w' ∧ (convert 22 9 y6).run Tryd.prog w' = .ok (.string SJ) w')
        (first | exact ⟨k5, k6, q1, q2⟩ | go_keep) (fail)
      go_wp2
      go_round
      case rel => exact ⟨j + 1, by omega, by go_num, HBd⟩
      case measure => simp [intOf]; omega
    · have hjn2 : ¬ (j : Int) < (n : Int) := by omega
      have hlv := lives_any wr (HT6.out.below HB.out (by omega)) (by have := HB.out.size; omega)
      go_wp2_with fail
      refine hlv.mono ?_
      rintro e w7 ⟨rfl, hb7⟩
      have HB7 : Hid (Below w.heap.size w w7) := Below.then (Below.then HB6.out HB.out) hb7
      clear hb7
      go_wp2
      go_ret
      exact ⟨rfl, HB7.out⟩

end Go.Proofs.YtmjiaephmgngiaaDoor
