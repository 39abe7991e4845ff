/-
  FrameLinear: the walk.
-/
import Derived.Test.YtpongbpkneefdaaDoorFrRef
import Derived.Deep.RegionHeld3
namespace Go.Proofs.YtpongbpkneefdaaDoor
open Go.RowKit Crc

theorem xor_b (a b : Nat) (ha : a < 256) (hb : b < 256) : bits .xor .u8 (a : Int) (b : Int) = ((a ^^^ b : Nat) : Int) := u8_xor_nat a b ha hb
theorem Sm8.xor3 (a b c : List Nat) (n : Nat) (ha : Sm8 a) (hb : Sm8 b) (hc : Sm8 c) : Sm8 (xor3 a b c n) := by
  intro d hd
  unfold Crc.xor3 at hd
  obtain ⟨i, _, rfl⟩ := List.mem_map.1 hd
  exact Nat.xor_lt_two_pow (n := 8) (Nat.xor_lt_two_pow (n := 8) (ha.getD i) (hb.getD i)) (hc.getD i)
set_option maxRecDepth 100000 in
set_option maxHeartbeats 3200000 in
theorem frameLinear_walk (va vb vc : Value) (la lb lc : List Nat) (w : World) (ha : BR w va la) (hb : BR w vb lb) (hc : BR w vc lc) (na : la.length ≤ 140737488351232) (nb : lb.length ≤ 140737488351232) (nc : lc.length ≤ 140737488351232)
    (hT : Tb w) (h0 : 0 < w.heap.size) :
    Calls Tryd.prog 7 #[va, vb, vc] w fun e w' => e = .returned (.bool true) ∧ Below w.heap.size w w' := by
  obtain ⟨N, hN⟩ : ∃ N, N = min (min la.length lb.length) lc.length := ⟨_, rfl⟩
  have HA : Hid (BR w va la) := ha
  have HB : Hid (BR w vb lb) := hb
  have HC : Hid (BR w vc lc) := hc
  have HT : Hid (Tb w) := hT
  obtain ⟨sa, aa, ca, rfl, pa, ma, qa⟩ := ha
  obtain ⟨sb, ab, cb, rfl, pb, mb, qb⟩ := hb
  obtain ⟨sc, ac, cc, rfl, pc, mc, qc⟩ := hc
  clear qa qb qc
  have HS : Hid (Sm8 la ∧ Sm8 lb ∧ Sm8 lc) := ⟨sa, sb, sc⟩
  have na2 : N ≤ la.length := by omega
  have nb2 : N ≤ lb.length := by omega
  have nc2 : N ≤ lc.length := by omega
  have HX : Hid (sumN (la.take N) ^^^ sumN (lb.take N) ^^^ sumN (lc.take N) = sumN (xor3 la lb lc N)) := xor3_sum na2 nb2 nc2
  unfold maxLen at ma mb mc
  generalize hka : la.length = ka at *
  generalize hkb : lb.length = kb at *
  generalize hkc : lc.length = kc at *
  have HK : Hid (la.length = ka ∧ lb.length = kb ∧ lc.length = kc) := ⟨hka, hkb, hkc⟩
  clear sa sb sc hT
  clear hka hkb hkc
  have HN : Hid (N = min (min ka kb) kc) := hN
  clear hN
  go_enter Tryd.func7, Tryd.ntmps7
  go_upto_if 15 with fail
  go_cut [7] (fun d wc => d = .int .i64 ((min ka kb : Nat) : Int) ∧ wc = w)
  case first =>
    by_cases c : (kb : Int) < (ka : Int)
    · have e : min ka kb = kb := by omega
      go_wp2_with fail
      go_meet
      case rel => exact ⟨by rw [e], rfl⟩
    · have e : min ka kb = ka := by omega
      go_wp2_with fail
      go_meet
      case rel => exact ⟨by rw [e], rfl⟩
  case rest =>
    obtain ⟨rfl, hwc⟩ := hcut
    rw [hwc]
    clear hwc
    obtain ⟨km, hkm⟩ : ∃ km, km = min ka kb := ⟨_, rfl⟩
    rw [← hkm]
    have hkm2 : km ≤ 140737488351232 := by omega
    have HM : Hid (N = min km kc) := by rw [hkm]; exact HN.out
    clear hkm
    go_upto_if 21 with fail
    go_cut [7] (fun d wc => d = .int .i64 N ∧ wc = w)
    case first =>
      by_cases c : (kc : Int) < (km : Int)
      · have e : N = kc := by have := HM.out; omega
        subst e
        go_wp2_with fail
        go_meet
        case rel => exact ⟨rfl, rfl⟩
      · have e : N = km := by have := HM.out; omega
        subst e
        go_wp2_with fail
        go_meet
        case rel => exact ⟨rfl, rfl⟩
    case rest =>
      obtain ⟨rfl, hwc⟩ := hcut
      rw [hwc]
      clear hwc
      have hO := OW_empty w
      have hB0 : Below w.heap.size w (w.alloc (.cells #[] 5)) := (Below.refl _ _).alloc (Nat.le_refl _) _
      have hN3 : N ≤ 140737488351232 := by omega
      obtain ⟨i0, hi0, hz0, hz1, hz2⟩ := info_parts info8
      go_wp2_with fail
      go_loopw [8, 9] (fun t8 t9 wr => ∃ i : Nat, i ≤ N ∧ t9 = .int .i64 i ∧ OW wr w.heap.size t8 (xor3 la lb lc i) ∧ Below w.heap.size w wr) (fun _ t9 _ => N - (intOf t9).toNat)
      case atStart => exact ⟨0, Nat.zero_le _, rfl, hO, hB0⟩
      case round =>
        obtain ⟨i, hi, rfl, hO1, hB1⟩ := hrel
        by_cases hil : i < N
        · obtain ⟨xa, rfl, hca, da⟩ := HA.out.cell (i := i) (by have := HK.out; omega)
          obtain ⟨xb, rfl, hcb, db⟩ := HB.out.cell (i := i) (by have := HK.out; omega)
          obtain ⟨xc, rfl, hcc, dc⟩ := HC.out.cell (i := i) (by have := HK.out; omega)
          have fa := World.block_lt_of_cell? w _ hca
          have fb := World.block_lt_of_cell? w _ hcb
          have fc := World.block_lt_of_cell? w _ hcc
          rw [← hB1.cell fa] at hca
          rw [← hB1.cell fb] at hcb
          rw [← hB1.cell fc] at hcc
          have e3 := xor3_succ la lb lc i
          have x1 := xor_b _ _ da db
          have x1l : la.getD i 0 ^^^ lb.getD i 0 < 256 := Nat.xor_lt_two_pow (n := 8) da db
          have x2 := xor_b _ _ x1l dc
          have x2l : la.getD i 0 ^^^ lb.getD i 0 ^^^ lc.getD i 0 < 256 := Nat.xor_lt_two_pow (n := 8) x1l dc
          generalize la.getD i 0 ^^^ lb.getD i 0 ^^^ lc.getD i 0 = y at x2 e3 x2l
          generalize la.getD i 0 ^^^ lb.getD i 0 = y1 at x1 x2 x1l
          generalize la.getD i 0 = y2 at hca x1
          generalize lb.getD i 0 = y3 at hcb x1
          generalize lc.getD i 0 = y4 at hcc x2
          have HE : Hid (xor3 la lb lc (i + 1) = xor3 la lb lc i ++ [y]) := e3
          have hown := hO1.2
          rw [xor3_length] at hown
          have HO : Hid (OW wr w.heap.size u8 (xor3 la lb lc i)) := hO1
          have i1 : (0 : Int) ≤ (i : Int) := by omega
          have i2 : (i : Int) < (ka : Int) := by omega
          have i3 : (i : Int) < (kb : Int) := by omega
          have i4 : (i : Int) < (kc : Int) := by omega
          have HBl : Hid (Below w.heap.size w wr) := hB1
          have hsz : w.heap.size ≤ wr.heap.size := hB1.size
          have ga : some (xa.add i).block ≠ u8.ownBlock := fun e => by have := (hown.lt _ e.symm).1; omega
          have gb : some (xb.add i).block ≠ u8.ownBlock := fun e => by have := (hown.lt _ e.symm).1; omega
          have gc : some (xc.add i).block ≠ u8.ownBlock := fun e => by have := (hown.lt _ e.symm).1; omega
          clear e3 hO1 da db dc x1l hB1
          go_wp2_with fail
          go_region_held3 (fun w' => w'.cell? (xa.add i) = some (.int .u8 (y2 : Int)) ∧ w'.cell? (xb.add i) = some (.int .u8 (y3 : Int)) ∧ w'.cell? (xc.add i) = some (.int .u8 (y4 : Int)))
            (first
              | go_keep
              | (go_split_ands
                 refine ⟨?_, ?_, ?_⟩
                 · (rw [hgrow.cell_far _ (by simp; omega) ga]; assumption)
                 · (rw [hgrow.cell_far _ (by simp; omega) gb]; assumption)
                 · (rw [hgrow.cell_far _ (by simp; omega) gc]; assumption)))
            ((refine step_append_lies _ (by rfl) _ _ _ (by rfl) w.heap.size 5 i0 _ 1 1 Tryd.underlying22 hi0 hz0 hz1 hz2 rfl (by omega) u8 i (c8 (xor3 la lb lc i)) (by rfl) ((hown.alloc _).drew)
                ⟨wr.heap.size, 0, none⟩ 1 1 [.int .u8 (y : Int)] (by rfl) (by rfl) (World.news_of_block (cs := #[.int .u8 (y : Int)]) (t := 5) (fr := (0, 0)) (heap_alloc_new wr _)) (by simp [Value.oneCell'])
                (by omega) (by unfold maxLen; omega) (by omega) (by simp; omega) (wr.heap.size + 1) (by simp) ?_; intro gg cap w1 hown1 hgrow hat hlt))
          have HO1 : Hid (OW w1 w.heap.size (.slice (some ⟨gg, 0, none⟩) (i + 1) cap) (xor3 la lb lc (i + 1)) ∧ Below w.heap.size w w1) := by
            refine ⟨⟨Sm8.xor3 _ _ _ _ HS.out.1 HS.out.2.1 HS.out.2.2, ?_⟩, ?_⟩
            · rw [xor3_length, HE.out, c8_append]; exact hown1
            · exact grown_below ((HBl.out.alloc HBl.out.size _).drew) ((hown.alloc _).drew) hgrow
          clear hown1 hgrow hat hlt HO
          go_wp2
          go_roundw
          case rel => exact ⟨i + 1, by omega, by go_num, HO1.out.1, HO1.out.2⟩
          case measure => simp [intOf]; omega
        · have e : i = N := by omega
          subst e
          have HO : Hid (OW wr w.heap.size u8 (xor3 la lb lc i)) := hO1
          have HBl : Hid (Below w.heap.size w wr) := hB1
          have HA2 : Hid (BR wr (.slice aa i ca) (la.take i)) := (HA.out.head (by have := HK.out; omega)).below hB1 (Nat.le_refl _)
          have HB2 : Hid (BR wr (.slice ab i cb) (lb.take i)) := (HB.out.head (by have := HK.out; omega)).below hB1 (Nat.le_refl _)
          have HC2 : Hid (BR wr (.slice ac i cc) (lc.take i)) := (HC.out.head (by have := HK.out; omega)).below hB1 (Nat.le_refl _)
          have HT2 : Hid (Tb wr) := HT.out.below hB1 h0
          have j1 : (0 : Int) ≤ (i : Int) := by omega
          have j2 : (i : Int) ≤ (ca : Int) := by omega
          have j3 : (i : Int) ≤ (cb : Int) := by omega
          have j4 : (i : Int) ≤ (cc : Int) := by omega
          have HLa : Hid ((la.take i).length ≤ 140737488355328) := by show _ ≤ _; rw [List.length_take]; omega
          have HLb : Hid ((lb.take i).length ≤ 140737488355328) := by show _ ≤ _; rw [List.length_take]; omega
          have HLc : Hid ((lc.take i).length ≤ 140737488355328) := by show _ ≤ _; rw [List.length_take]; omega
          have hw0 : 0 < wr.heap.size := by have := hB1.size; omega
          clear hO1 hB1
          obtain ⟨A, eA⟩ : ∃ A, A = sumN (la.take i) := ⟨_, rfl⟩
          obtain ⟨B, eB⟩ : ∃ B, B = sumN (lb.take i) := ⟨_, rfl⟩
          obtain ⟨C, eC⟩ : ∃ C, C = sumN (lc.take i) := ⟨_, rfl⟩
          obtain ⟨X, eX⟩ : ∃ X, X = sumN (xor3 la lb lc i) := ⟨_, rfl⟩
          have lA : A < 4294967296 := by rw [eA]; exact sumN_lt (HS.out.1.take i)
          have lB : B < 4294967296 := by rw [eB]; exact sumN_lt (HS.out.2.1.take i)
          have lC : C < 4294967296 := by rw [eC]; exact sumN_lt (HS.out.2.2.take i)
          have z1 := xor_i A B lA lB
          have z1l : A ^^^ B < 4294967296 := Nat.xor_lt_two_pow (n := 32) lA lB
          have z2 := xor_i _ C z1l lC
          have z3 := HX.out
          rw [← eA, ← eB, ← eC, ← eX] at z3
          rw [z3] at z2
          generalize A ^^^ B = Y at z1 z2
          have EA : Hid (sumN (la.take i) = A) := eA.symm
          have EB : Hid (sumN (lb.take i) = B) := eB.symm
          have EC : Hid (sumN (lc.take i) = C) := eC.symm
          have EX : Hid (sumN (xor3 la lb lc i) = X) := eX.symm
          clear eA eB eC eX z3 HX
          go_wp2_with fail
          go_region_held3 (fun w' => True) (trivial)
            (first
              | (go_at_call 9; refine (own_any _ (la.take i) _ HA2.out.drew HLa.out).mono ?_; rintro e w1 ⟨v1, rfl, ho1, hb1⟩; replace hb1 : Below wr.heap.size wr w1 := Below.undrew hb1)
              | (go_at_call 8; refine (sum_any _ (la.take i) _ ho1.br (HT2.out.below hb1 hw0) (by have := hb1.size; omega)).mono ?_; rintro e w2 ⟨rfl, hb2⟩; rw [EA.out]; replace hb2 : Below wr.heap.size wr w2 := Below.then hb1 hb2)
              | (go_at_call 9; refine (own_any _ (lb.take i) _ (HB2.out.below hb2 (Nat.le_refl _)) HLb.out).mono ?_; rintro e w3 ⟨v3, rfl, ho3, hb3⟩; replace hb3 : Below wr.heap.size wr w3 := Below.then hb2 hb3)
              | (go_at_call 8; refine (sum_any _ (lb.take i) _ ho3.br (HT2.out.below hb3 hw0) (by have := hb3.size; omega)).mono ?_; rintro e w4 ⟨rfl, hb4⟩; rw [EB.out]; replace hb4 : Below wr.heap.size wr w4 := Below.then hb3 hb4)
              | (go_at_call 9; refine (own_any _ (lc.take i) _ (HC2.out.below hb4 (Nat.le_refl _)) HLc.out).mono ?_; rintro e w5 ⟨v5, rfl, ho5, hb5⟩; replace hb5 : Below wr.heap.size wr w5 := Below.then hb4 hb5)
              | (go_at_call 8; refine (sum_any _ (lc.take i) _ ho5.br (HT2.out.below hb5 hw0) (by have := hb5.size; omega)).mono ?_; rintro e w6 ⟨rfl, hb6⟩; rw [EC.out]; replace hb6 : Below wr.heap.size wr w6 := Below.then hb5 hb6)
              | (go_at_call 8; refine (sum_any _ (xor3 la lb lc i) _ (HO.out.br.below hb6 (Nat.le_refl _)) (HT2.out.below hb6 hw0) (by have := hb6.size; omega)).mono ?_; rintro e w7 ⟨rfl, hb7⟩; rw [EX.out]; replace hb7 : Below wr.heap.size wr w7 := Below.then hb6 hb7)
              | (go_at_call 11; refine (lives_any _ (HT2.out.below hb7 hw0) (by have := hb7.size; omega)).mono ?_; rintro e w8 ⟨rfl, hb8⟩; replace hb8 : Below wr.heap.size wr w8 := Below.then hb7 hb8))
          have HE : Hid (Below w.heap.size w w8) := Below.then HBl.out hb8
          go_wp2
          go_ret
          exact ⟨rfl, HE.out⟩

end Go.Proofs.YtpongbpkneefdaaDoor
