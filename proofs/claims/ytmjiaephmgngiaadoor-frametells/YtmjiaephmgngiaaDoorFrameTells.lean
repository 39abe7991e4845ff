/-
  FrameTells: the walk.
-/
import Derived.Test.YtmjiaephmgngiaaDoorFrTurned
namespace Go.Proofs.YtmjiaephmgngiaaDoor
open Go.RowKit Crc

set_option maxRecDepth 100000 in
set_option maxHeartbeats 3200000 in
theorem frameTells_walk (v : Value) (l : List Nat) (w : World) (h : BR w v l) (f0 f1 f2 f3 f4 : Nat) (g0 : f0 < 65536) (g1 : f1 < 65536) (g2 : f2 < 65536) (g3 : f3 < 65536) (g4 : f4 < 4294967296) (hT : Tb w) (h0 : 0 < w.heap.size) :
    Calls Tryd.prog 6 #[v, .agg #[.int .u16 f0, .int .u16 f1, .int .u16 f2, .int .u16 f3, .int .u32 f4]] w fun e w' => e = .returned (.bool true) ∧ Below w.heap.size w w' := by
  have HR : Hid (BR w v l) := h
  obtain ⟨s1, a, cap, rfl, h3, h4, _⟩ := h
  have HS : Hid (Sm8 l) := s1
  unfold maxLen at h4
  obtain ⟨n, hn⟩ : ∃ n, n = l.length := ⟨_, rfl⟩
  have HN : Hid (n = l.length) := hn
  rw [← hn] at h3 HR ⊢
  clear hn s1
  go_enter Tryd.func6, Tryd.ntmps6
  obtain ⟨wb, hwb⟩ : ∃ wb, wb = w.alloc (.cells #[.int .u16 (f0 : Int), .int .u16 (f1 : Int), .int .u16 (f2 : Int), .int .u16 (f3 : Int), .int .u32 (f4 : Int)] 40) := ⟨_, rfl⟩
  have HBb : Hid (Below w.heap.size w wb) := by rw [hwb]; exact (Below.refl _ _).alloc (Nat.le_refl _) _
  go_upto_if 20 with fail
  go_cut [0] (fun d wc => ∃ m, m ≤ 64 ∧ d = .slice a m cap ∧ m ≤ n ∧ wc = w.alloc (.cells #[.int .u16 (f0 : Int), .int .u16 (f1 : Int), .int .u16 (f2 : Int), .int .u16 (f3 : Int), .int .u32 (f4 : Int)] 40))
  case first =>
    by_cases c : (64 : Int) < (n : Int)
    · have c2 : (64 : Int) ≤ (cap : Int) := by omega
      go_wp2_with fail
      go_meet
      case rel => exact ⟨64, by omega, rfl, by omega, rfl⟩
    · go_wp2_with fail
      go_meet
      case rel => exact ⟨n, by omega, rfl, Nat.le_refl _, rfl⟩
  case rest =>
    obtain ⟨m, hm, rfl, hmn, hwc⟩ := hcut
    rw [hwc]
    clear hwc
    obtain ⟨b, hb⟩ : ∃ b, b = l.take m := ⟨_, rfl⟩
    have hbl : b.length = m := by rw [hb, List.length_take]; have := HN.out; omega
    have hbr : BR w (.slice a m cap) b := by
      have := HR.out.head (hi := m) (by have := HN.out; omega)
      rw [hb]; exact this
    have hbs : Sm8 b := by rw [hb]; exact HS.out.take _
    clear hb HR HS HN
    rw [← hwb]
    have hbx : wb.heap[w.heap.size]? = some (.cells #[.int .u16 (f0 : Int), .int .u16 (f1 : Int), .int .u16 (f2 : Int), .int .u16 (f3 : Int), .int .u32 (f4 : Int)] 40) := by rw [hwb]; exact heap_alloc_new _ _
    have zb : wb.heap.size = w.heap.size + 1 := by rw [hwb]; simp
    clear hwb
    have hb0 := HBb.out
    have hbr0 := hbr.below hb0 (Nat.le_refl _)
    go_wp2_with fail
    refine (own_any _ b wb hbr0 (by omega)).mono ?_
    rintro e w1 ⟨v1, rfl, ho1, hb1⟩
    have z1 := hb1.size
    have hB1 := hb0.trans (hb1.mono (by omega))
    go_wp2_with fail
    refine (frame_any v1 b w1 ho1.br (hT.below hB1 h0) (by omega) (by omega)).mono ?_
    rintro e w2 ⟨v2, rfl, ho2, hb2⟩
    have z2 := hb2.size
    have hB2 := hB1.trans (hb2.mono (by omega))
    obtain ⟨gf, cf, rfl, _, _, _⟩ := ho2.slice (by rw [frm_length]; omega)
    rw [frm_length, hbl] at ho2 ⊢
    have hbig : ¬ ((8 + m : Nat) : Int) < 8 := by omega
    have hl8 : (frm b).length = 8 + m := by rw [frm_length, hbl]
    generalize h8m : 8 + m = n8 at *
    go_wp2_with fail
    refine (own_any _ (frm b) w2 ho2.br (by omega)).mono ?_
    rintro e w3 ⟨v3, rfl, ho3, hb3⟩
    have z3 := hb3.size
    have hbox3 := (hb3.block w.heap.size (by omega)).trans ((hb2.block w.heap.size (by omega)).trans ((hb1.block w.heap.size (by omega)).trans hbx))
    have HB2 : Hid (Below w.heap.size w w2) := hB2
    clear hb1 hb2 hB1 hbr0 hB2
    obtain ⟨G1, hG1⟩ : ∃ G1, G1 = flp (frm b) (f0 % (8 * (n8 - 4))) := ⟨_, rfl⟩
    obtain ⟨G2, hG2⟩ : ∃ G2, G2 = flp G1 (f1 % (8 * (n8 - 4))) := ⟨_, rfl⟩
    obtain ⟨G3, hG3⟩ : ∃ G3, G3 = flp G2 (f2 % (8 * (n8 - 4))) := ⟨_, rfl⟩
    have l1 : G1.length = n8 := by rw [hG1, flp_length, hl8]
    have l2 : G2.length = n8 := by rw [hG2, flp_length, l1]
    have l3 : G3.length = n8 := by rw [hG3, flp_length, l2]
    have n8a : 8 ≤ n8 := by omega
    have n8b : n8 ≤ 72 := by omega
    have HG : Hid (G1 = flp (frm b) (f0 % (8 * (n8 - 4))) ∧ G2 = flp G1 (f1 % (8 * (n8 - 4))) ∧ G3 = flp G2 (f2 % (8 * (n8 - 4)))) := ⟨hG1, hG2, hG3⟩
    have HO3 : Hid (OW w3 w2.heap.size v3 (frm b)) := ho3
    have zw : w.heap.size < w2.heap.size := by omega
    have hbox2 := (hb3.block w.heap.size zw).symm.trans hbox3
    have HB3 : Hid (Below w2.heap.size w2 w3) := hb3
    clear hG1 hG2 hG3 ho3 hb3
    go_wp2_with fail
    go_loopw [8] (fun t8 wr => ∃ i : Nat, i ≤ 3 ∧ t8 = .int .i64 i ∧ Hid ((i = 0 ∧ OW wr w2.heap.size v3 (frm b)) ∨ (i = 1 ∧ OW wr w2.heap.size v3 G1) ∨ (i = 2 ∧ OW wr w2.heap.size v3 G2) ∨ (i = 3 ∧ OW wr w2.heap.size v3 G3)) ∧ Hid (Below w2.heap.size w2 wr)) (fun t8 _ => 3 - (intOf t8).toNat)
    case atStart => exact ⟨0, by omega, rfl, Or.inl ⟨rfl, HO3.out⟩, HB3.out⟩
    case round =>
      obtain ⟨i, hi, rfl, HI, HB⟩ := hrel
      have hbx4 := (HB.out.block w.heap.size zw).trans hbox2
      have q0 : wr.cell? ⟨w.heap.size, 0, none⟩ = some (.int .u16 (f0 : Int)) := by unfold World.cell?; rw [hbx4]; rfl
      have q1 : wr.cell? ⟨w.heap.size, 1, none⟩ = some (.int .u16 (f1 : Int)) := by unfold World.cell?; rw [hbx4]; rfl
      have q2 : wr.cell? ⟨w.heap.size, 2, none⟩ = some (.int .u16 (f2 : Int)) := by unfold World.cell?; rw [hbx4]; rfl
      rcases HI.out with ⟨rfl, hO⟩ | ⟨rfl, hO⟩ | ⟨rfl, hO⟩ | ⟨rfl, hO⟩
      · go_wp2_with fail
        refine (turn_any v3 (frm b) f0 w2.heap.size wr hO (by omega) (by omega) (by omega)).mono ?_
        rintro e w4 ⟨rfl, hO4, hb4⟩
        rw [hl8, ← HG.out.1] at hO4
        have HQ : Hid (OW w4 w2.heap.size v3 G1 ∧ Below w2.heap.size w2 w4) := ⟨hO4, HB.out.trans hb4⟩
        clear hO4 hb4 hO
        go_wp2
        go_round
        case rel => exact ⟨1, by omega, by go_num, Or.inr (Or.inl ⟨rfl, HQ.out.1⟩), HQ.out.2⟩
        case measure => simp [intOf]
      · go_wp2_with fail
        refine (turn_any v3 G1 f1 w2.heap.size wr hO (by omega) (by omega) (by omega)).mono ?_
        rintro e w4 ⟨rfl, hO4, hb4⟩
        rw [l1, ← HG.out.2.1] at hO4
        have HQ : Hid (OW w4 w2.heap.size v3 G2 ∧ Below w2.heap.size w2 w4) := ⟨hO4, HB.out.trans hb4⟩
        clear hO4 hb4 hO
        go_wp2
        go_round
        case rel => exact ⟨2, by omega, by go_num, Or.inr (Or.inr (Or.inl ⟨rfl, HQ.out.1⟩)), HQ.out.2⟩
        case measure => simp [intOf]
      · go_wp2_with fail
        refine (turn_any v3 G2 f2 w2.heap.size wr hO (by omega) (by omega) (by omega)).mono ?_
        rintro e w4 ⟨rfl, hO4, hb4⟩
        rw [l2, ← HG.out.2.2] at hO4
        have HQ : Hid (OW w4 w2.heap.size v3 G3 ∧ Below w2.heap.size w2 w4) := ⟨hO4, HB.out.trans hb4⟩
        clear hO4 hb4 hO
        go_wp2
        go_round
        case rel => exact ⟨3, by omega, by go_num, Or.inr (Or.inr (Or.inr ⟨rfl, HQ.out.1⟩)), HQ.out.2⟩
        case measure => simp [intOf]
      · obtain ⟨wg, rfl⟩ : ∃ wg, wg = wr := ⟨_, rfl⟩
        have hf4 := ho2.br.below HB.out (Nat.le_refl _)
        have hB4 := HB2.out.trans (HB.out.mono (by omega))
        have z4 := HB.out.size
        have HO : Hid (OW wg w2.heap.size v3 G3) := hO
        have q3 : wg.heap[w.heap.size]? = some (.cells #[.int .u16 (f0 : Int), .int .u16 (f1 : Int), .int .u16 (f2 : Int), .int .u16 (f3 : Int), .int .u32 (f4 : Int)] 40) := hbx4
        have HBr : Hid (Below w.heap.size w wg) := hB4
        clear HI HB hO q0 q1 q2 hbx4 hB4
        go_wp2_with fail
        refine (own_any _ (frm b) wg hf4 (by omega)).mono ?_
        rintro e w5 ⟨v5, rfl, ho5, hb5⟩
        obtain ⟨p, hp⟩ : ∃ p, p = f3 % (8 * m) := ⟨_, rfl⟩
        have HP : Hid (p = f3 % (8 * m)) := hp
        have HW0 : Hid (OW w5 wg.heap.size v5 (frm b) ∧ Wn b p f4 0 (frm b) ∧ Below wg.heap.size wg w5) := ⟨ho5, Wn.start hbs (by omega) _ _, hb5⟩
        have e8 : (n8 : Int) - 8 = (m : Int) := by omega
        have zr : w.heap.size < wg.heap.size := by omega
        clear hp ho5 hb5
        go_wp2_with fail
        go_loopw [11] (fun t11 wr => ∃ i : Nat, i ≤ 32 ∧ t11 = .int .i64 i ∧ Hid (∃ L, OW wr wg.heap.size v5 L ∧ Wn b p f4 i L ∧ Below wg.heap.size wg wr)) (fun t11 _ => 32 - (intOf t11).toNat)
        case atStart => exact ⟨0, by omega, rfl, _, HW0.out⟩
        case round =>
          obtain ⟨i, hi, rfl, HI⟩ := hrel
          obtain ⟨L, hOL, hWL, hBL⟩ := HI.out
          have hbx5 := (hBL.block w.heap.size zr).trans q3
          have y3 : wr.cell? ⟨w.heap.size, 3, none⟩ = some (.int .u16 (f3 : Int)) := by unfold World.cell?; rw [hbx5]; rfl
          have y4 : wr.cell? ⟨w.heap.size, 4, none⟩ = some (.int .u32 (f4 : Int)) := by unfold World.cell?; rw [hbx5]; rfl
          by_cases hgo : i < 32 ∧ 0 < m ∧ p + i < 8 * m
          · obtain ⟨c1, c2, c3⟩ := hgo
            have hpi : (f3 : Int) % (8 * (m : Int)) = (p : Int) := by have := HP.out; rw [this]; simp
            have hpl : p < 8 * m := by omega
            obtain ⟨q, hq⟩ : ∃ q, q = f4 / 2 ^ i := ⟨_, rfl⟩
            have hqi : (f4 : Int) / 2 ^ i = (q : Int) := by rw [hq, Int.natCast_ediv, Int.natCast_pow]; rfl
            have hql : q < 4294967296 := by rw [hq]; exact Nat.lt_of_le_of_lt (Nat.div_le_self _ _) g4
            have t2 := and1_i q hql
            have HQ : Hid (q = f4 / 2 ^ i) := hq
            obtain ⟨r, hr⟩ : ∃ r, r = q % 2 := ⟨_, rfl⟩
            rw [← hr] at t2
            have hr2 : r = 0 ∨ r = 1 := by omega
            have HRq : Hid (r = q % 2) := hr
            have HL : Hid (OW wr wg.heap.size v5 L ∧ Wn b p f4 i L ∧ Below wg.heap.size wg wr) := ⟨hOL, hWL, hBL⟩
            have k1 : (p : Int) + (i : Int) < 8 * (m : Int) := by omega
            have k2 : (0 : Int) < 8 * (m : Int) := by omega
            have hLl : L.length = n8 := by have := hWL.1.2.1; omega
            clear hq hr HI hbx5 hOL hWL hBL
            rcases hr2 with rfl | rfl
            · have HE : Hid (∃ L, OW wr wg.heap.size v5 L ∧ Wn b p f4 (i + 1) L ∧ Below wg.heap.size wg wr) := ⟨L, HL.out.1, HL.out.2.1.zero (by rw [← HQ.out, ← HRq.out]), HL.out.2.2⟩
              clear HL
              go_wp2
              go_round
              case rel => exact ⟨i + 1, by omega, by go_num, HE⟩
              case measure => simp [intOf]; omega
            · have ht := turn_any v5 L (32 + p + i) wg.heap.size wr HL.out.1 (by omega) (by omega) (by omega)
              have em : (32 + p + i) % (8 * (L.length - 4)) = 32 + p + i := Nat.mod_eq_of_lt (by omega)
              rw [em, show ((32 + p + i : Nat) : Int) = 32 + (p : Int) + (i : Int) by omega] at ht
              go_wp2_with fail
              refine ht.mono ?_
              rintro e w6 ⟨rfl, hO6, hb6⟩
              have HE : Hid (∃ L, OW w6 wg.heap.size v5 L ∧ Wn b p f4 (i + 1) L ∧ Below wg.heap.size wg w6) := ⟨_, hO6, HL.out.2.1.one (by rw [← HQ.out, ← HRq.out]) c1 (by omega), HL.out.2.2.trans hb6⟩
              clear HL ht hO6 hb6
              go_wp2
              go_round
              case rel => exact ⟨i + 1, by omega, by go_num, HE⟩
              case measure => simp [intOf]; omega
          · have HTd : Hid (frsE G3 = 4 ∧ G3 ≠ frm b ∧ (frsE L = 4 ↔ L ≠ frm b) ∧ Sm8 G3 ∧ Sm8 L ∧ Sm8 (frm b)) := by
              have h3 := three_told hbs (by omega) (k0 := f0 % (8 * (n8 - 4))) (k1 := f1 % (8 * (n8 - 4))) (k2 := f2 % (8 * (n8 - 4))) (by have := Nat.mod_lt f0 (show 0 < 8 * (n8 - 4) by omega); omega) (by have := Nat.mod_lt f1 (show 0 < 8 * (n8 - 4) by omega); omega) (by have := Nat.mod_lt f2 (show 0 < 8 * (n8 - 4) by omega); omega)
              rw [← HG.out.1, ← HG.out.2.1, ← HG.out.2.2] at h3
              exact ⟨h3.1, h3.2, hWL.told hbs g4, HO.out.1, hOL.1, ho2.1⟩
            have hLl : L.length = n8 := by have := hWL.1.2.1; omega
            have z6 := hBL.size
            have hG6 := HO.out.br.below hBL (Nat.le_refl _)
            have hB6 := HBr.out.trans (hBL.mono (by omega))
            have hL6 := hOL.br
            have hf6 := hf4.below hBL (Nat.le_refl _)
            have HI6 : Hid (Below w.heap.size w wr) := hB6
            clear HI hbx5 hOL hWL hBL HO ho2 hf4 HW0
            have hex : ¬ i < 32 ∨ (i < 32 ∧ m = 0) ∨ (i < 32 ∧ 0 < m ∧ ¬ p + i < 8 * m) := by omega
            rcases hex with c | ⟨c, rfl⟩ | ⟨c, c2, c3⟩
            · have c1 : ¬ (i : Int) < 32 := by omega
              go_wp2_with fail
              refine (own_any v3 G3 wr hG6 (by omega)).mono ?_
              rintro e w7 ⟨v7, rfl, ho7, hb7⟩
              have z7 := hb7.size
              have hB7 := hB6.trans (hb7.mono (by omega))
              have hL7 := hL6.below hb7 (Nat.le_refl _)
              have hf7 := hf6.below hb7 (Nat.le_refl _)
              have hG7 := hG6.below hb7 (Nat.le_refl _)
              clear hb7 hL6 hf6 hG6 y3 y4
              go_wp2_with fail
              refine (first_any v7 G3 w7 ho7.br (hT.below hB7 h0) (by omega)).mono ?_
              rintro e w8 ⟨v8, rfl, _, hb8⟩
              rw [HTd.out.1]
              generalize frsN G3 = N3
              have z8 := hb8.size
              have hB8 := hB7.trans (hb8.mono (by omega))
              have hL8 := hL7.below hb8 (Nat.le_refl _)
              have hf8 := hf7.below hb8 (Nat.le_refl _)
              have hG8 := hG7.below hb8 (Nat.le_refl _)
              clear hb8 hL7 hf7 hG7 ho7
              go_wp2_with fail
              refine (own_any v5 L w8 hL8 (by omega)).mono ?_
              rintro e w9 ⟨v9, rfl, ho9, hb9⟩
              have z9 := hb9.size
              have hB9 := hB8.trans (hb9.mono (by omega))
              have hL9 := hL8.below hb9 (Nat.le_refl _)
              have hf9 := hf8.below hb9 (Nat.le_refl _)
              have hG9 := hG8.below hb9 (Nat.le_refl _)
              clear hb9 hL8 hf8 hG8
              go_wp2_with fail
              refine (first_any v9 L w9 ho9.br (hT.below hB9 h0) (by omega)).mono ?_
              rintro e w10 ⟨v10, rfl, _, hb10⟩
              have z10 := hb10.size
              have hB10 := hB9.trans (hb10.mono (by omega))
              have x1 := conv_any (hG9.below hb10 (Nat.le_refl _))
              have x2 := conv_any (hf9.below hb10 (Nat.le_refl _))
              have x3 := conv_any (hL9.below hb10 (Nat.le_refl _))
              have d1 := bsN_eq HTd.out.2.2.2.1 HTd.out.2.2.2.2.2
              have d2 := bsN_eq HTd.out.2.2.2.2.1 HTd.out.2.2.2.2.2
              rw [decide_eq_false HTd.out.2.1] at d1
              have hlv := lives_any w10 (hT.below hB10 h0) (by omega)
              have HB10 : Hid (Below w.heap.size w w10) := hB10
              generalize frsN L = N4
              obtain ⟨E4, hE4⟩ : ∃ E4, E4 = frsE L := ⟨_, rfl⟩
              have HT4 := HTd.out.2.2.1
              rw [← hE4] at HT4 ⊢
              by_cases hE : E4 = 4
              · subst hE
                rw [decide_eq_false (HT4.1 rfl)] at d2
                clear hE4 HT4 hb10 hL9 hf9 hG9 ho9 hB9 hB10
                go_wp2_with fail
                refine hlv.mono ?_
                rintro e w11 ⟨rfl, hb11⟩
                have HB11 : Hid (Below w.heap.size w w11) := Below.then HB10.out hb11
                clear hb11
                go_wp2
                go_ret
                exact ⟨rfl, HB11.out⟩
              · have e1 : L = frm b := Classical.byContradiction fun c => hE (HT4.2 c)
                rw [decide_eq_true e1] at d2
                have hE2 : ((E4 : Int) == 4) = false := by rw [beq_eq_false_iff_ne]; omega
                clear hE4 HT4 hb10 hL9 hf9 hG9 ho9 hB9 hB10 e1
                go_wp2_with fail
                refine hlv.mono ?_
                rintro e w11 ⟨rfl, hb11⟩
                have HB11 : Hid (Below w.heap.size w w11) := Below.then HB10.out hb11
                clear hb11
                go_wp2
                go_ret
                exact ⟨rfl, HB11.out⟩
            · have c1 : (i : Int) < 32 := by omega
              go_wp2_with fail
              refine (own_any v3 G3 wr hG6 (by omega)).mono ?_
              rintro e w7 ⟨v7, rfl, ho7, hb7⟩
              have z7 := hb7.size
              have hB7 := hB6.trans (hb7.mono (by omega))
              have hL7 := hL6.below hb7 (Nat.le_refl _)
              have hf7 := hf6.below hb7 (Nat.le_refl _)
              have hG7 := hG6.below hb7 (Nat.le_refl _)
              clear hb7 hL6 hf6 hG6 y3 y4
              go_wp2_with fail
              refine (first_any v7 G3 w7 ho7.br (hT.below hB7 h0) (by omega)).mono ?_
              rintro e w8 ⟨v8, rfl, _, hb8⟩
              rw [HTd.out.1]
              generalize frsN G3 = N3
              have z8 := hb8.size
              have hB8 := hB7.trans (hb8.mono (by omega))
              have hL8 := hL7.below hb8 (Nat.le_refl _)
              have hf8 := hf7.below hb8 (Nat.le_refl _)
              have hG8 := hG7.below hb8 (Nat.le_refl _)
              clear hb8 hL7 hf7 hG7 ho7
              go_wp2_with fail
              refine (own_any v5 L w8 hL8 (by omega)).mono ?_
              rintro e w9 ⟨v9, rfl, ho9, hb9⟩
              have z9 := hb9.size
              have hB9 := hB8.trans (hb9.mono (by omega))
              have hL9 := hL8.below hb9 (Nat.le_refl _)
              have hf9 := hf8.below hb9 (Nat.le_refl _)
              have hG9 := hG8.below hb9 (Nat.le_refl _)
              clear hb9 hL8 hf8 hG8
              go_wp2_with fail
              refine (first_any v9 L w9 ho9.br (hT.below hB9 h0) (by omega)).mono ?_
              rintro e w10 ⟨v10, rfl, _, hb10⟩
              have z10 := hb10.size
              have hB10 := hB9.trans (hb10.mono (by omega))
              have x1 := conv_any (hG9.below hb10 (Nat.le_refl _))
              have x2 := conv_any (hf9.below hb10 (Nat.le_refl _))
              have x3 := conv_any (hL9.below hb10 (Nat.le_refl _))
              have d1 := bsN_eq HTd.out.2.2.2.1 HTd.out.2.2.2.2.2
              have d2 := bsN_eq HTd.out.2.2.2.2.1 HTd.out.2.2.2.2.2
              rw [decide_eq_false HTd.out.2.1] at d1
              have hlv := lives_any w10 (hT.below hB10 h0) (by omega)
              have HB10 : Hid (Below w.heap.size w w10) := hB10
              generalize frsN L = N4
              obtain ⟨E4, hE4⟩ : ∃ E4, E4 = frsE L := ⟨_, rfl⟩
              have HT4 := HTd.out.2.2.1
              rw [← hE4] at HT4 ⊢
              by_cases hE : E4 = 4
              · subst hE
                rw [decide_eq_false (HT4.1 rfl)] at d2
                clear hE4 HT4 hb10 hL9 hf9 hG9 ho9 hB9 hB10
                go_wp2_with fail
                refine hlv.mono ?_
                rintro e w11 ⟨rfl, hb11⟩
                have HB11 : Hid (Below w.heap.size w w11) := Below.then HB10.out hb11
                clear hb11
                go_wp2
                go_ret
                exact ⟨rfl, HB11.out⟩
              · have e1 : L = frm b := Classical.byContradiction fun c => hE (HT4.2 c)
                rw [decide_eq_true e1] at d2
                have hE2 : ((E4 : Int) == 4) = false := by rw [beq_eq_false_iff_ne]; omega
                clear hE4 HT4 hb10 hL9 hf9 hG9 ho9 hB9 hB10 e1
                go_wp2_with fail
                refine hlv.mono ?_
                rintro e w11 ⟨rfl, hb11⟩
                have HB11 : Hid (Below w.heap.size w w11) := Below.then HB10.out hb11
                clear hb11
                go_wp2
                go_ret
                exact ⟨rfl, HB11.out⟩
            · have c1 : (i : Int) < 32 := by omega
              have hpi : (f3 : Int) % (8 * (m : Int)) = (p : Int) := by have := HP.out; rw [this]; simp
              have hpl : p < 8 * m := by have := HP.out; rw [this]; exact Nat.mod_lt _ (by omega)
              have k1 : ¬ (p : Int) + (i : Int) < 8 * (m : Int) := by omega
              have k2 : (0 : Int) < 8 * (m : Int) := by omega
              go_wp2_with fail
              refine (own_any v3 G3 wr hG6 (by omega)).mono ?_
              rintro e w7 ⟨v7, rfl, ho7, hb7⟩
              have z7 := hb7.size
              have hB7 := hB6.trans (hb7.mono (by omega))
              have hL7 := hL6.below hb7 (Nat.le_refl _)
              have hf7 := hf6.below hb7 (Nat.le_refl _)
              have hG7 := hG6.below hb7 (Nat.le_refl _)
              clear hb7 hL6 hf6 hG6 y3 y4
              go_wp2_with fail
              refine (first_any v7 G3 w7 ho7.br (hT.below hB7 h0) (by omega)).mono ?_
              rintro e w8 ⟨v8, rfl, _, hb8⟩
              rw [HTd.out.1]
              generalize frsN G3 = N3
              have z8 := hb8.size
              have hB8 := hB7.trans (hb8.mono (by omega))
              have hL8 := hL7.below hb8 (Nat.le_refl _)
              have hf8 := hf7.below hb8 (Nat.le_refl _)
              have hG8 := hG7.below hb8 (Nat.le_refl _)
              clear hb8 hL7 hf7 hG7 ho7
              go_wp2_with fail
              refine (own_any v5 L w8 hL8 (by omega)).mono ?_
              rintro e w9 ⟨v9, rfl, ho9, hb9⟩
              have z9 := hb9.size
              have hB9 := hB8.trans (hb9.mono (by omega))
              have hL9 := hL8.below hb9 (Nat.le_refl _)
              have hf9 := hf8.below hb9 (Nat.le_refl _)
              have hG9 := hG8.below hb9 (Nat.le_refl _)
              clear hb9 hL8 hf8 hG8
              go_wp2_with fail
              refine (first_any v9 L w9 ho9.br (hT.below hB9 h0) (by omega)).mono ?_
              rintro e w10 ⟨v10, rfl, _, hb10⟩
              have z10 := hb10.size
              have hB10 := hB9.trans (hb10.mono (by omega))
              have x1 := conv_any (hG9.below hb10 (Nat.le_refl _))
              have x2 := conv_any (hf9.below hb10 (Nat.le_refl _))
              have x3 := conv_any (hL9.below hb10 (Nat.le_refl _))
              have d1 := bsN_eq HTd.out.2.2.2.1 HTd.out.2.2.2.2.2
              have d2 := bsN_eq HTd.out.2.2.2.2.1 HTd.out.2.2.2.2.2
              rw [decide_eq_false HTd.out.2.1] at d1
              have hlv := lives_any w10 (hT.below hB10 h0) (by omega)
              have HB10 : Hid (Below w.heap.size w w10) := hB10
              generalize frsN L = N4
              obtain ⟨E4, hE4⟩ : ∃ E4, E4 = frsE L := ⟨_, rfl⟩
              have HT4 := HTd.out.2.2.1
              rw [← hE4] at HT4 ⊢
              by_cases hE : E4 = 4
              · subst hE
                rw [decide_eq_false (HT4.1 rfl)] at d2
                clear hE4 HT4 hb10 hL9 hf9 hG9 ho9 hB9 hB10
                go_wp2_with fail
                refine hlv.mono ?_
                rintro e w11 ⟨rfl, hb11⟩
                have HB11 : Hid (Below w.heap.size w w11) := Below.then HB10.out hb11
                clear hb11
                go_wp2
                go_ret
                exact ⟨rfl, HB11.out⟩
              · have e1 : L = frm b := Classical.byContradiction fun c => hE (HT4.2 c)
                rw [decide_eq_true e1] at d2
                have hE2 : ((E4 : Int) == 4) = false := by rw [beq_eq_false_iff_ne]; omega
                clear hE4 HT4 hb10 hL9 hf9 hG9 ho9 hB9 hB10 e1
                go_wp2_with fail
                refine hlv.mono ?_
                rintro e w11 ⟨rfl, hb11⟩
                have HB11 : Hid (Below w.heap.size w w11) := Below.then HB10.out hb11
                clear hb11
                go_wp2
                go_ret
                exact ⟨rfl, HB11.out⟩
end Go.Proofs.YtmjiaephmgngiaaDoor
