/-
  Layer 13: the landed checker's functions, and Check, walked.
-/
import Derived.Test.YtcblknghkgihcaaDoorPgChk4
import Derived.Test.YtcblknghkgihcaaDoorPgKb
namespace Go.Proofs.YtcblknghkgihcaaDoor
set_option maxRecDepth 100000
open Go.RowKit Txt Pg Flo

/-- How many functions there were behind a function, and what is wrong with it. -/
def chkT : Pr → Int → Nat → Nat → Nat → Nat × Int
  | .mk pa rg us cs ks ps, arg, anu, deep, n =>
    if (longB rg cs.length ks.length us.length || decide (deep > 100) || decide (n + 1 > 4096)) = true then (n + 1, 2)
    else if (!(soundB (.mk pa rg us cs ks ps)) || !(findB us arg anu)) = true then (n + 1, 1)
    else ps.foldl (fun r q => if r.2 = 0 then chkT q rg us.length (deep + 1) r.1 else r) (n + 1, 0)
def chkL (rg : Int) (nu deep n : Nat) (ps : List Pr) : Nat × Int := ps.foldl (fun r q => if r.2 = 0 then chkT q rg nu deep r.1 else r) (n, 0)
theorem chkT_mk (pa rg : Int) (us : List Upp) (cs : List Ins) (ks : List Vl) (ps : List Pr) (arg : Int) (anu deep n : Nat) : chkT (.mk pa rg us cs ks ps) arg anu deep n =
    if (longB rg cs.length ks.length us.length || decide (deep > 100) || decide (n + 1 > 4096)) = true then (n + 1, 2)
    else if (!(soundB (.mk pa rg us cs ks ps)) || !(findB us arg anu)) = true then (n + 1, 1)
    else chkL rg us.length (deep + 1) (n + 1) ps := by rw [chkT]; rfl
theorem fold_bad {f : Nat × Int → Pr → Nat × Int} (hf : ∀ r q, r.2 ≠ 0 → f r q = r) : ∀ (l : List Pr) (r : Nat × Int), r.2 ≠ 0 → l.foldl f r = r
  | [], _, _ => rfl
  | q :: l, r, h => by rw [List.foldl_cons, hf r q h]; exact fold_bad hf l r h
theorem chkL_take (rg : Int) (nu deep n : Nat) (ps : List Pr) (i : Nat) (hi : i < ps.length) (m : Nat) (h : chkL rg nu deep n (ps.take i) = (m, 0)) : chkL rg nu deep n (ps.take (i + 1)) = chkT ps[i] rg nu deep m := by
  unfold chkL at h ⊢
  rw [List.take_succ_eq_append_getElem hi, List.foldl_append, h]
  rfl
theorem chkL_stop (rg : Int) (nu deep n : Nat) (ps : List Pr) (i : Nat) (r : Nat × Int) (h : chkL rg nu deep n (ps.take i) = r) (hr : r.2 ≠ 0) : chkL rg nu deep n ps = r := by
  have e : chkL rg nu deep n ps = (ps.drop i).foldl (fun r q => if r.2 = 0 then chkT q rg nu deep r.1 else r) (chkL rg nu deep n (ps.take i)) := by
    unfold chkL
    rw [← List.foldl_append, List.take_append_drop]
  rw [e, h]
  exact fold_bad (fun r q h => if_neg h) _ _ hr

set_option maxHeartbeats 8000000 in
theorem functions_any : ∀ (t : Pr) (x : Six) (W w : World) (b deep n : Nat), PR W t x → Ot W → Below W.heap.size W w → W.heap.size ≤ b → Cn w b n → deep ≤ 101 → n ≤ 4096 →
    Calls Tryd.prog 40 #[.pointer (some ⟨b, 0, none⟩), x.v, .int .i64 deep] w fun e w' => e = .returned (.int .i64 (chkL t.rg t.us.length deep n t.ps).2) ∧ Kb b w w' ∧ Cn w' b (chkL t.rg t.us.length deep n t.ps).1 ∧ ((chkL t.rg t.us.length deep n t.ps).2 = 0 → (chkL t.rg t.us.length deep n t.ps).1 ≤ 4096) := by
  refine Pr.ind' fun pa rg us cs ks ps ih => ?_
  intro x W w b deep n h hT hW hb hcn hdeep hn
  rw [PR_mk] at h
  obtain ⟨pa', rg', vu, vc, vk, vp⟩ := x
  simp only at h
  obtain ⟨rfl, rfl, hpa, hrg, hu, hc, hk, f, hp, hch⟩ := h
  obtain ⟨au, cu, rfl, -, -, lu⟩ := hu.1.val
  obtain ⟨ap, cp, rfl, hpl, hpc, lp⟩ := hp.val
  have h00 := hT.1
  unfold Six.v
  simp only
  have HI : Hid _ := ih
  obtain ⟨np, hnp⟩ : ∃ n, n = ps.length := ⟨_, rfl⟩
  have HNP : Hid (np = ps.length) := hnp
  have HSP : Hid (SL W (.slice ap np cp) ps.length 6 (fun i j u => u = (f i).at j)) := by rw [hnp]; exact hp
  have HCH : Hid (∀ i (h : i < ps.length), PR W ps[i] (f i)) := hch
  have HT : Hid (Ot W) := hT
  have HWw : Hid (Below W.heap.size W w) := hW
  obtain ⟨nu, hnu⟩ : ∃ n, n = us.length := ⟨_, rfl⟩
  rw [← hnu, ← hnp]
  rw [← hnp] at hpl lp
  unfold far at lp
  clear hu hc hk hp hch ih hT hnp hnu lu
  obtain ⟨w0, hw0⟩ : ∃ w0, w0 = w.alloc (.cells #[.int .i64 pa', .int .i64 rg', .slice au nu cu, vc, vk, .slice ap np cp] 27) := ⟨_, rfl⟩
  have hs0 : w0.heap.size = w.heap.size + 1 := by rw [hw0]; simp
  have HK0 : Hid (Kb b w w0) := by rw [hw0]; exact Kb.alloc _ _ _
  have HA0 : Hid (∀ j, w0.cell? ⟨w.heap.size, j, none⟩ = (#[.int .i64 pa', .int .i64 rg', .slice au nu cu, vc, vk, .slice ap np cp] : Array Value)[j]?) := by
    intro j
    rw [hw0, World.cell?_alloc_new]
  have HC0 : Hid (Cn w0 b n) := by
    rw [hw0]
    exact hcn.below ((Below.refl _ _).alloc (Nat.le_refl _) _)
  have hblt := hcn.lt
  have hne : w.heap.size ≠ b := by omega
  have HWW0 : Hid (Below W.heap.size W w0) := hW.trans (HK0.out.below hb hW.size)
  go_enter Tryd.func40, Tryd.ntmps40
  go_wp2_with fail
  rw [← hw0]
  clear hw0 hcn hW
  go_loopw [13] (fun t13 wr => ∃ (i m : Nat), i ≤ np ∧ t13 = .int .i64 i ∧ m ≤ 4096 ∧ Hid (chkL rg' nu deep n (ps.take i) = (m, 0)) ∧ Hid (Kb b w0 wr) ∧ Hid (Cn wr b m)) (fun t13 _ => np - (intOf t13).toNat)
  case atStart => exact ⟨0, n, Nat.zero_le _, rfl, hn, rfl, Kb.refl _ _, HC0⟩
  case round =>
    obtain ⟨i, m, hi, rfl, hm, HL, HK, HC⟩ := hrel
    have HKw : Hid (Kb b w wr) := HK0.out.trans HK.out
    have HBW : Hid (Below W.heap.size W wr) := HWW0.out.trans (HK.out.below hb HWW0.out.size)
    by_cases c : i < np
    · have i1 : i < ps.length := by rw [← HNP.out]; exact c
      obtain ⟨-, g, o, rfl, e0, e1, e2, e3, e4, e5⟩ := SP.get (HSP.out.kept HBW.out (Nat.le_refl _)) i1
      have HTK : Hid (chkL rg' nu deep n (ps.take (i + 1)) = chkT ps[i] rg' nu deep m) := chkL_take rg' nu deep n ps i i1 m HL.out
      have HST : Hid (∀ r, chkT ps[i] rg' nu deep m = r → r.2 ≠ 0 → chkL rg' nu deep n ps = r) := fun r e hr => chkL_stop rg' nu deep n ps (i + 1) r (HTK.out.trans e) hr
      have HPQ : Hid (PR W ps[i] (f i)) := HCH.out i i1
      have HIQ := HI.out ps[i] (List.getElem_mem i1) (f i)
      have hq := HCH.out i i1
      generalize ps[i] = q at *
      generalize f i = y at *
      obtain ⟨qpa, qrg, qus, qcs, qks, qps⟩ := q
      obtain ⟨ypa, yrg, yu, yc, yk, yp⟩ := y
      rw [PR_mk] at hq
      simp only at hq e0 e1 e2 e3 e4 e5
      obtain ⟨rfl, rfl, -, -, hqu, hqc, hqk, f', hqp, -⟩ := hq
      obtain ⟨qau, qcu, rfl, -, -, -⟩ := hqu.1.val
      obtain ⟨qac, qcc, rfl, -, -, -⟩ := hqc.1.val
      obtain ⟨qak, qck, rfl, -, -, -⟩ := hqk.1.val
      obtain ⟨qap, qcp, rfl, -, -, -⟩ := hqp.val
      have HQU : Hid (SU W (.slice qau qus.length qcu) qus) := hqu
      clear hqu hqc hqk hqp
      simp only [Six.v] at HIQ
      rw [chkT_mk] at HTK HST
      have hlong := fun w => isLong_any ypa yrg qau qac qak qus.length qcu qcs.length qcc qks.length qck (.slice qap qps.length qcp) w
      have HSD : Hid (∀ w', Below W.heap.size W w' → Calls Tryd.prog 39 #[.agg #[.int .i64 ypa, .int .i64 yrg, .slice qau qus.length qcu, .slice qac qcs.length qcc, .slice qak qks.length qck, .slice qap qps.length qcp]] w' fun e w'' => e = .returned (.bool (soundB (.mk ypa yrg qus qcs qks qps))) ∧ Below w'.heap.size w' w'') :=
        fun w' hb' => isSound_any _ ⟨ypa, yrg, _, _, _, _⟩ w' (PR.kept hb' (Nat.le_refl _) _ _ HPQ.out) (HT.out.below hb' h00)
      have HFU : Hid (∀ w', Below W.heap.size W w' → Calls Tryd.prog 65 #[.agg #[.int .i64 ypa, .int .i64 yrg, .slice qau qus.length qcu, .slice qac qcs.length qcc, .slice qak qks.length qck, .slice qap qps.length qcp], .agg #[.int .i64 pa', .int .i64 rg', .slice au nu cu, vc, vk, .slice (some ⟨g, o, none⟩) np cp]] w' fun e w'' => e = .returned (.bool (findB qus rg' nu)) ∧ Below w'.heap.size w' w'') :=
        fun w' hb' => findsUps_any qus ypa yrg _ _ _ _ pa' rg' au nu cu vc vk _ w' (HQU.out.kept hb' (Nat.le_refl _))
      have HIR : Hid (∀ w' m', Below W.heap.size W w' → Cn w' b m' → deep + 1 ≤ 101 → m' ≤ 4096 → Calls Tryd.prog 40 #[.pointer (some ⟨b, 0, none⟩), .agg #[.int .i64 ypa, .int .i64 yrg, .slice qau qus.length qcu, .slice qac qcs.length qcc, .slice qak qks.length qck, .slice qap qps.length qcp], .int .i64 ((deep + 1 : Nat) : Int)] w' fun e w'' => e = .returned (.int .i64 (chkL yrg qus.length (deep + 1) m' qps).2) ∧ Kb b w' w'' ∧ Cn w'' b (chkL yrg qus.length (deep + 1) m' qps).1 ∧ ((chkL yrg qus.length (deep + 1) m' qps).2 = 0 → (chkL yrg qus.length (deep + 1) m' qps).1 ≤ 4096)) :=
        fun w' m' h1 h2 h3 h4 => HIQ W w' b (deep + 1) m' HPQ.out HT.out h1 hb h2 h3 h4
      have hcell := HC.out.cell
      have hfz := HC.out.fz
      have hltb := HC.out.lt
      obtain ⟨bx, hbx⟩ : ∃ bx, bx = wr.heap.size := ⟨_, rfl⟩
      obtain ⟨w1, hw1⟩ : ∃ w1, w1 = (wr.setCell ⟨b, 0, none⟩ (.int .i64 ((m + 1 : Nat) : Int))).alloc (.cells #[.int .i64 ypa, .int .i64 yrg, .slice qau qus.length qcu, .slice qac qcs.length qcc, .slice qak qks.length qck, .slice qap qps.length qcp] 27) := ⟨_, rfl⟩
      have HK1 : Hid (Kb b w0 w1) := by rw [hw1]; exact (HK.out.trans (Kb.set _ _ _ _)).trans (Kb.alloc _ _ _)
      have HC1 : Hid (Cn w1 b (m + 1)) := by rw [hw1]; exact (HC.out.set _).below ((Below.refl _ _).alloc (Nat.le_refl _) _)
      have hs1 : w1.heap.size = bx + 1 := by rw [hw1, hbx]; simp
      have HX : Hid (∀ j, w1.cell? ⟨bx, j, none⟩ = (#[.int .i64 ypa, .int .i64 yrg, .slice qau qus.length qcu, .slice qac qcs.length qcc, .slice qak qks.length qck, .slice qap qps.length qcp] : Array Value)[j]?) := by
        intro j
        rw [hw1, hbx, World.cell?_alloc_at _ _ _ _ (by simp)]
      have hbxb : bx ≠ b := by omega
      have hszr : w0.heap.size ≤ bx := by rw [hbx]; exact HK.out.size
      have hnz : ((m + 1 : Nat) : Int) = (m : Int) + 1 := by omega
      rw [hnz] at hw1
      have hbe : b ≠ wr.heap.size := by omega
      clear HIQ
      go_upto_region 5 with fail
      rw [← hbx, ← hw1]
      clear hw1 e0 e1 e2 e3 e4 e5 hcell hfz hbx hltb hnz hbe
      have HBW1 : Hid (Below W.heap.size W w1) := HWW0.out.trans (HK1.out.below hb HWW0.out.size)
      have x0 : w1.cell? ⟨bx, 0, none⟩ = some (.int .i64 ypa) := HX.out 0
      have x1 : w1.cell? ⟨bx, 1, none⟩ = some (.int .i64 yrg) := HX.out 1
      have x2 : w1.cell? ⟨bx, 2, none⟩ = some (.slice qau qus.length qcu) := HX.out 2
      have x3 : w1.cell? ⟨bx, 3, none⟩ = some (.slice qac qcs.length qcc) := HX.out 3
      have x4 : w1.cell? ⟨bx, 4, none⟩ = some (.slice qak qks.length qck) := HX.out 4
      have x5 : w1.cell? ⟨bx, 5, none⟩ = some (.slice qap qps.length qcp) := HX.out 5
      obtain ⟨z, HZ⟩ : ∃ z, Hid (longB yrg qcs.length qks.length qus.length = z) := ⟨_, rfl⟩
      have hlong1 := hlong w1
      rw [HZ.out] at hlong1
      clear hlong
      go_wp2_with fail
      refine hlong1.mono ?_
      rintro e w2 ⟨rfl, hb2⟩
      have HB2 : Hid (Below w1.heap.size w1 w2) := hb2
      have HK2 : Hid (Kb b w0 w2) := HK1.out.trans (Kb.of_below hb2)
      have HC2 : Hid (Cn w2 b (m + 1)) := HC1.out.below hb2
      clear hb2 hlong1 x0 x1 x2 x3 x4 x5
      cases z with
      | true =>
        have HF : Hid (chkL rg' nu deep n ps = (m + 1, 2)) := HST.out _ (by rw [HZ.out]; simp) (by simp)
        clear HST HTK
        go_wp2
        go_ret
        rw [HF.out]
        exact ⟨rfl, HK0.out.trans HK2.out, HC2.out, by intro h; cases h⟩
      | false =>
        by_cases d1 : (deep : Int) > 100
        · have HF : Hid (chkL rg' nu deep n ps = (m + 1, 2)) := HST.out _ (by rw [HZ.out, if_pos (by simp; omega)]) (by simp)
          clear HST HTK
          go_wp2
          go_ret
          rw [HF.out]
          exact ⟨rfl, HK0.out.trans HK2.out, HC2.out, by intro h; cases h⟩
        · have hc2 := HC2.out.cell
          by_cases d2 : ((m + 1 : Nat) : Int) > 4096
          · have HF : Hid (chkL rg' nu deep n ps = (m + 1, 2)) := HST.out _ (by rw [HZ.out, if_pos (by simp; omega)]) (by simp)
            clear HST HTK
            go_wp2
            go_ret
            rw [HF.out]
            exact ⟨rfl, HK0.out.trans HK2.out, HC2.out, by intro h; cases h⟩
          · have HTK2 : Hid (chkL rg' nu deep n (ps.take (i + 1)) = if (!(soundB (.mk ypa yrg qus qcs qks qps)) || !(findB qus rg' nu)) = true then (m + 1, 1) else chkL yrg qus.length (deep + 1) (m + 1) qps) := by
              have := HTK.out
              rw [HZ.out, if_neg (by simp; omega)] at this
              exact this
            have HST2 : Hid (∀ r, (if (!(soundB (.mk ypa yrg qus qcs qks qps)) || !(findB qus rg' nu)) = true then (m + 1, (1 : Int)) else chkL yrg qus.length (deep + 1) (m + 1) qps) = r → r.2 ≠ 0 → chkL rg' nu deep n ps = r) := by
              intro r e hr
              exact HST.out r (by rw [HZ.out, if_neg (by simp; omega)]; exact e) hr
            clear HST HTK
            have y0 : w2.cell? ⟨bx, 0, none⟩ = some (.int .i64 ypa) := box6 HX.out HB2.out (Nat.le_refl _) rfl
            have y1 : w2.cell? ⟨bx, 1, none⟩ = some (.int .i64 yrg) := box6 HX.out HB2.out (Nat.le_refl _) rfl
            have y2 : w2.cell? ⟨bx, 2, none⟩ = some (.slice qau qus.length qcu) := box6 HX.out HB2.out (Nat.le_refl _) rfl
            have y3 : w2.cell? ⟨bx, 3, none⟩ = some (.slice qac qcs.length qcc) := box6 HX.out HB2.out (Nat.le_refl _) rfl
            have y4 : w2.cell? ⟨bx, 4, none⟩ = some (.slice qak qks.length qck) := box6 HX.out HB2.out (Nat.le_refl _) rfl
            have y5 : w2.cell? ⟨bx, 5, none⟩ = some (.slice qap qps.length qcp) := box6 HX.out HB2.out (Nat.le_refl _) rfl
            have HBW2 : Hid (Below W.heap.size W w2) := HBW1.out.trans (HB2.out.mono HBW1.out.size)
            obtain ⟨z1, HZ1⟩ : ∃ z, Hid (soundB (.mk ypa yrg qus qcs qks qps) = z) := ⟨_, rfl⟩
            have hsound := HSD.out w2 HBW2.out
            rw [HZ1.out] at hsound HTK2 HST2
            go_wp2_with fail
            refine hsound.mono ?_
            rintro e w3 ⟨rfl, hb3⟩
            have HB3 : Hid (Below w1.heap.size w1 w3) := HB2.out.trans (hb3.mono HB2.out.size)
            have HK3 : Hid (Kb b w0 w3) := HK2.out.trans (Kb.of_below hb3)
            have HC3 : Hid (Cn w3 b (m + 1)) := HC2.out.below hb3
            clear hb3 hsound y0 y1 y2 y3 y4 y5 hc2
            cases z1 with
            | false =>
              have HF : Hid (chkL rg' nu deep n ps = (m + 1, 1)) := HST2.out _ (by simp) (by simp)
              clear HST2 HTK2
              go_wp2
              go_ret
              rw [HF.out]
              exact ⟨rfl, HK0.out.trans HK3.out, HC3.out, by intro h; cases h⟩
            | true =>
              have HBW3 : Hid (Below W.heap.size W w3) := HBW1.out.trans (HB3.out.mono HBW1.out.size)
              have y0 : w3.cell? ⟨bx, 0, none⟩ = some (.int .i64 ypa) := box6 HX.out HB3.out (Nat.le_refl _) rfl
              have y1 : w3.cell? ⟨bx, 1, none⟩ = some (.int .i64 yrg) := box6 HX.out HB3.out (Nat.le_refl _) rfl
              have y2 : w3.cell? ⟨bx, 2, none⟩ = some (.slice qau qus.length qcu) := box6 HX.out HB3.out (Nat.le_refl _) rfl
              have y3 : w3.cell? ⟨bx, 3, none⟩ = some (.slice qac qcs.length qcc) := box6 HX.out HB3.out (Nat.le_refl _) rfl
              have y4 : w3.cell? ⟨bx, 4, none⟩ = some (.slice qak qks.length qck) := box6 HX.out HB3.out (Nat.le_refl _) rfl
              have y5 : w3.cell? ⟨bx, 5, none⟩ = some (.slice qap qps.length qcp) := box6 HX.out HB3.out (Nat.le_refl _) rfl
              have v0 : w3.cell? ⟨w.heap.size, 0, none⟩ = some (.int .i64 pa') := HK3.out.cell (by omega) hne (HA0.out 0)
              have v1 : w3.cell? ⟨w.heap.size, 1, none⟩ = some (.int .i64 rg') := HK3.out.cell (by omega) hne (HA0.out 1)
              have v2 : w3.cell? ⟨w.heap.size, 2, none⟩ = some (.slice au nu cu) := HK3.out.cell (by omega) hne (HA0.out 2)
              have v3 : w3.cell? ⟨w.heap.size, 3, none⟩ = some vc := HK3.out.cell (by omega) hne (HA0.out 3)
              have v4 : w3.cell? ⟨w.heap.size, 4, none⟩ = some vk := HK3.out.cell (by omega) hne (HA0.out 4)
              have v5 : w3.cell? ⟨w.heap.size, 5, none⟩ = some (.slice (some ⟨g, o, none⟩) np cp) := HK3.out.cell (by omega) hne (HA0.out 5)
              obtain ⟨z2, HZ2⟩ : ∃ z, Hid (findB qus rg' nu = z) := ⟨_, rfl⟩
              have hfind := HFU.out w3 HBW3.out
              rw [HZ2.out] at hfind HTK2 HST2
              go_wp2_with fail
              refine hfind.mono ?_
              rintro e w4 ⟨rfl, hb4⟩
              have HB4 : Hid (Below w1.heap.size w1 w4) := HB3.out.trans (hb4.mono HB3.out.size)
              have HK4 : Hid (Kb b w0 w4) := HK3.out.trans (Kb.of_below hb4)
              have HC4 : Hid (Cn w4 b (m + 1)) := HC3.out.below hb4
              clear hb4 hfind y0 y1 y2 y3 y4 y5 v0 v1 v2 v3 v4 v5
              cases z2 with
              | false =>
                have HF : Hid (chkL rg' nu deep n ps = (m + 1, 1)) := HST2.out _ (by simp) (by simp)
                clear HST2 HTK2
                go_wp2
                go_ret
                rw [HF.out]
                exact ⟨rfl, HK0.out.trans HK4.out, HC4.out, by intro h; cases h⟩
              | true =>
                have HBW4 : Hid (Below W.heap.size W w4) := HBW1.out.trans (HB4.out.mono HBW1.out.size)
                have y0 : w4.cell? ⟨bx, 0, none⟩ = some (.int .i64 ypa) := box6 HX.out HB4.out (Nat.le_refl _) rfl
                have y1 : w4.cell? ⟨bx, 1, none⟩ = some (.int .i64 yrg) := box6 HX.out HB4.out (Nat.le_refl _) rfl
                have y2 : w4.cell? ⟨bx, 2, none⟩ = some (.slice qau qus.length qcu) := box6 HX.out HB4.out (Nat.le_refl _) rfl
                have y3 : w4.cell? ⟨bx, 3, none⟩ = some (.slice qac qcs.length qcc) := box6 HX.out HB4.out (Nat.le_refl _) rfl
                have y4 : w4.cell? ⟨bx, 4, none⟩ = some (.slice qak qks.length qck) := box6 HX.out HB4.out (Nat.le_refl _) rfl
                have y5 : w4.cell? ⟨bx, 5, none⟩ = some (.slice qap qps.length qcp) := box6 HX.out HB4.out (Nat.le_refl _) rfl
                have hrec := HIR.out w4 (m + 1) HBW4.out HC4.out (by omega) (by omega)
                rw [show ((deep + 1 : Nat) : Int) = (deep : Int) + 1 by omega] at hrec
                have HTK3 : Hid (chkL rg' nu deep n (ps.take (i + 1)) = chkL yrg qus.length (deep + 1) (m + 1) qps) := by
                  have := HTK2.out
                  rw [if_neg (by simp)] at this
                  exact this
                have HST3 : Hid ((chkL yrg qus.length (deep + 1) (m + 1) qps).2 ≠ 0 → chkL rg' nu deep n ps = chkL yrg qus.length (deep + 1) (m + 1) qps) := by
                  intro hr
                  exact HST2.out _ (by rw [if_neg (by simp)]) hr
                clear HST2 HTK2
                obtain ⟨⟨m2, e2⟩, hr2⟩ : ∃ r, r = chkL yrg qus.length (deep + 1) (m + 1) qps := ⟨_, rfl⟩
                rw [← hr2] at hrec HTK3 HST3
                clear hr2
                go_wp2_with fail
                refine hrec.mono ?_
                rintro e w5 ⟨rfl, hk5, hc5, hm5⟩
                have HK5 : Hid (Kb b w0 w5) := HK4.out.trans hk5
                have HC5 : Hid (Cn w5 b m2) := hc5
                clear hk5 hc5 hrec y0 y1 y2 y3 y4 y5
                by_cases d3 : e2 = 0
                · subst d3
                  have hm6 : m2 ≤ 4096 := hm5 rfl
                  clear hm5
                  go_wp2
                  go_roundw
                  case rel => exact ⟨i + 1, m2, by omega, by go_num, hm6, HTK3, HK5, HC5⟩
                  case measure => simp [intOf]; omega
                · have d4 : (e2 != 0) = true := by simp [d3]
                  have HF : Hid (chkL rg' nu deep n ps = (m2, e2)) := HST3.out d3
                  clear HST3 HTK3 hm5
                  go_wp2
                  go_ret
                  rw [HF.out]
                  exact ⟨rfl, HK0.out.trans HK5.out, HC5.out, fun h => absurd h d3⟩
    · have e : i = np := by omega
      have HF : Hid (chkL rg' nu deep n ps = (m, 0)) := by
        have := HL.out
        rw [List.take_of_length_le (by rw [← HNP.out]; omega)] at this
        exact this
      subst e
      go_wp2
      go_ret
      rw [HF.out]
      exact ⟨rfl, HKw.out, HC.out, fun _ => hm⟩

end Go.Proofs.YtcblknghkgihcaaDoor
