/-
  Layer 19: the landed isData and FromEntry, walked.
-/
import Derived.Test.YtjngknnkffbnmaaDoorSnPlain4q
import Derived.Test.YtjngknnkffbnmaaDoorSnLand5q
namespace Go.Proofs.YtjngknnkffbnmaaDoor
set_option maxRecDepth 100000
open Go.RowKit Crc Sn

set_option maxHeartbeats 1000000 in
theorem isData_any (t : Tr) (b : Option Addr) (m c : Nat) (w : World) (hs : t.s.size ≤ 9223372036854775807) :
    Calls Tryd.prog 46 #[.agg #[.int .i64 t.k, .int .u64 t.n, .string t.s, .slice b m c]] w fun e w' => e = .returned (.bool (isD t)) ∧ Below w.heap.size w w' := by
  obtain ⟨R, hR⟩ : ∃ R, R = isD t := ⟨_, rfl⟩
  rw [← hR]
  unfold isD at hR
  generalize t.k = k at *
  generalize t.n = n at *
  generalize t.s = s at *
  obtain ⟨w1, hw1⟩ : ∃ w1, w1 = w.alloc (.cells #[.int .i64 k, .int .u64 n, .string s, .slice b m c] 26) := ⟨_, rfl⟩
  have HB1 : Hid (Below w.heap.size w w1) := by show Below _ _ _; rw [hw1]; exact (Below.refl _ _).alloc (Nat.le_refl _) _
  have HA1 : Hid (w1.heap[w.heap.size]? = some (.cells #[.int .i64 k, .int .u64 n, .string s, .slice b m c] 26 (0, 0))) := by show _ = _; rw [hw1]; exact heap_alloc_new _ _
  obtain ⟨x0, x1, x2, x3⟩ := block4 HA1.out
  by_cases c1 : k = 1
  · by_cases c2 : s.size ≤ 65536
    · have hr : R = true := by rw [hR]; simp [c1, c2]
      have c2i : (s.size : Int) ≤ 65536 := by omega
      subst c1 hr
      clear hR
      go_enter Tryd.func46, Tryd.ntmps46
      go_upto_region 1 with fail
      rw [← hw1]
      clear hw1
      go_wp2
      go_ret
      exact ⟨by first | rfl | simp, HB1.out⟩
    · have hr : R = false := by rw [hR]; simp [c2]
      have c2i : ¬ (s.size : Int) ≤ 65536 := by omega
      subst c1 hr
      clear hR
      go_enter Tryd.func46, Tryd.ntmps46
      go_upto_region 1 with fail
      rw [← hw1]
      clear hw1
      go_wp2
      go_ret
      exact ⟨by first | rfl | simp, HB1.out⟩
  · have hr : R = false := by rw [hR]; simp [c1]
    have c1b : (k == 1) = false := by simp [c1]
    subst hr
    clear hR
    go_enter Tryd.func46, Tryd.ntmps46
    go_upto_region 1 with fail
    rw [← hw1]
    clear hw1
    go_wp2
    go_ret
    exact ⟨by first | rfl | simp, HB1.out⟩

set_option maxHeartbeats 2000000 in
theorem lFromEntry_any (t : Tr) (v : Value) (w : World) (h : CR w t v) (hlen : (atT t 2).l.length ≤ 1000000) :
    Calls Tryd.prog 20 #[v] w (FeR w t) := by
  obtain ⟨a, cap, rfl⟩ := crShape h
  obtain ⟨k, n, s, l⟩ := t
  simp only at h hlen ⊢
  have HT : Hid (∀ w', Below w.heap.size w w' → Calls Tryd.prog 45 #[cellV k n s (.slice a l.length cap)] w' fun e w'' => ∃ (p q : Nat) (a' : Option Addr) (n' c' : Nat), e = .returned (.tuple #[.int .u64 p, .int .u64 q, .slice a' n' c', .bool (twoB (.mk k n s l))]) ∧ Below w'.heap.size w' w'' ∧ (twoB (.mk k n s l) = true → p = (atT (.mk k n s l) 0).n ∧ q = (atT (.mk k n s l) 1).n ∧ n' = l.length - 2 ∧ CS w'' (fun q => q < w.heap.size) (lisT (l.drop 2)) (cellV 2 0 nob (.slice a' n' c')))) := by
    intro w' hb
    have h9 := twoNumbers_any (fun q => q < w.heap.size) _ _ w' (csKeep (h.cs.real.widen (fun _ hq => hq.2)) hb)
    refine h9.mono ?_
    rintro e w'' ⟨p, q, a', n', c', he, hq, hi⟩
    exact ⟨p, q, a', n', c', he, hq, fun e1 => ⟨(hi e1).1, (hi e1).2.1, (hi e1).2.2.1, csKeep (hi e1).2.2.2 hq⟩⟩
  have HRM : Hid (∀ w' p v', atT (.mk k n s l) 2 = p → CR w' p v' → Calls Tryd.prog 47 #[v'] w' fun e w'' => ∃ a' n' c', e = .returned (.tuple #[.slice a' n' c', .bool (rmB p)]) ∧ Below w'.heap.size w' w'' ∧ (rmB p = true → NO w'' w'.heap.size (.slice a' n' c') (numsL p))) := fun w' p v' e hc => readMembers_any p v' w' hc (by rw [← e]; exact hlen)
  obtain ⟨TW, hTW⟩ : ∃ TW, TW = twoB (.mk k n s l) := ⟨_, rfl⟩
  obtain ⟨O, hO⟩ : ∃ O, O = feO (.mk k n s l) := ⟨_, rfl⟩
  obtain ⟨P, hP⟩ : ∃ P, P = FeR w (.mk k n s l) := ⟨_, rfl⟩
  have HTW0 : Hid (TW = true → k = 2 ∧ 2 ≤ l.length) := fun e => by rw [hTW] at e; unfold twoB at e; simp only [Bool.and_eq_true, decide_eq_true_eq] at e; exact ⟨e.1.1.1, e.1.1.2⟩
  have HO : Hid (O = (TW && (if (atT (.mk k n s l) 1).n = 0 then decide (l.length = 2) else if (atT (.mk k n s l) 1).n = 1 then decide (l.length = 3) && isD (atT (.mk k n s l) 2) else if (atT (.mk k n s l) 1).n = 2 then decide (l.length = 3) && rmB (atT (.mk k n s l) 2) else false))) := by show _ = _; rw [hO, hTW, fe_iff]; rfl
  have HZ : Hid (∀ (wk W : World) (x0 x1 x2 x3 : Value), O = false → wk.heap[w.heap.size + 1]? = some (.cells #[x0, x1, x2, x3] 46 (0, 0)) → Below w.heap.size w wk → W = (((wk.setCell ⟨w.heap.size + 1, 0, none⟩ (.int .u64 (0 : Nat))).setCell ⟨w.heap.size + 1, 1, none⟩ (.int .i64 0)).setCell ⟨w.heap.size + 1, 2, none⟩ (.string nob)).setCell ⟨w.heap.size + 1, 3, none⟩ (.slice none 0 0) →
    W.heap[w.heap.size + 1]? = some (.cells #[.int .u64 (0 : Nat), .int .i64 0, .string nob, .slice none 0 0] 46 (0, 0)) ∧ P (.returned (.tuple #[.agg #[.int .u64 (0 : Nat), .int .i64 0, .string nob, .slice none 0 0], .int .i64 4])) W) := by
    intro wk W x0 x1 x2 x3 h1 h2 h3 h4
    have h5 := fe_zero h2 (Nat.le_succ _) h3 h4
    refine ⟨h5.1, ?_⟩
    rw [hP]
    unfold FeR
    rw [← hO, h1]
    exact h5.2
  have HG : Hid (∀ (x : Ent) (wk W : World) (u x0 x1 x2 x3 : Value), readE (.mk k n s l) = x → O = true → wk.heap[w.heap.size + 1]? = some (.cells #[x0, x1, x2, x3] 46 (0, 0)) → Below w.heap.size w wk → NR wk u x.ms → (0 < x.ms.length → ∀ k, u.ownBlock = some k → k ≠ w.heap.size + 1) → W = (((wk.setCell ⟨w.heap.size + 1, 0, none⟩ (.int .u64 x.tm)).setCell ⟨w.heap.size + 1, 1, none⟩ (.int .i64 x.kd)).setCell ⟨w.heap.size + 1, 2, none⟩ (.string x.dt)).setCell ⟨w.heap.size + 1, 3, none⟩ u →
    W.heap[w.heap.size + 1]? = some (.cells #[.int .u64 x.tm, .int .i64 x.kd, .string x.dt, u] 46 (0, 0)) ∧ P (.returned (.tuple #[.agg #[.int .u64 x.tm, .int .i64 x.kd, .string x.dt, u], .int .i64 0])) W) := by
    intro x wk W u x0 x1 x2 x3 h0 h1 h2 h3 h4 h5 h6
    have h7 := fe_good h2 (Nat.le_succ _) h3 h4 h5 h6
    refine ⟨h7.1, ?_⟩
    rw [hP]
    unfold FeR
    rw [← hO, h1, h0]
    exact h7.2
  have HRE : Hid (readE (.mk k n s l) = ⟨(atT (.mk k n s l) 0).n, kdT (.mk k n s l), if kdT (.mk k n s l) = 1 then (atT (.mk k n s l) 2).s else nob, if kdT (.mk k n s l) = 2 then numsL (atT (.mk k n s l) 2) else []⟩ ∧ kdT (.mk k n s l) = if (atT (.mk k n s l) 1).n ≤ 2 then ((atT (.mk k n s l) 1).n : Int) else 9) := ⟨rfl, rfl⟩
  rw [← hP]
  rw [← hTW] at HT
  obtain ⟨N, hN⟩ : ∃ N, N = l.length := ⟨_, rfl⟩
  have HN := hide_p hN
  rw [← hN] at HT HO HTW0 ⊢
  clear h hlen hO hTW hP hN
  unfold cellV at HT ⊢
  obtain ⟨w1, hw1⟩ : ∃ w1, w1 = (w.alloc (.cells #[.int .i64 k, .int .u64 n, .string s, .slice a N cap] 26)).alloc (.cells #[.int .u64 0, .int .i64 0, .string ⟨#[]⟩, .slice none 0 0] 46) := ⟨_, rfl⟩
  have HS1 : Hid (w1.heap.size = w.heap.size + 2) := by show _ = _; rw [hw1]; simp
  have HB1 : Hid (Below w.heap.size w w1) := by show Below _ _ _; rw [hw1]; exact ((Below.refl _ _).alloc (Nat.le_refl _) _).alloc (by simp) _
  have HA1 : Hid (w1.heap[w.heap.size]? = some (.cells #[.int .i64 k, .int .u64 n, .string s, .slice a N cap] 26 (0, 0)) ∧ w1.heap[w.heap.size + 1]? = some (.cells #[.int .u64 0, .int .i64 0, .string ⟨#[]⟩, .slice none 0 0] 46 (0, 0))) := by
    show _ ∧ _
    rw [hw1]
    exact ⟨by rw [Below.heap_alloc _ _ _ (by simp)]; exact heap_alloc_new _ _, heap_alloc_at _ _ _ (by simp)⟩
  have HX : Hid (∀ wq, Below (w.heap.size + 2) w1 wq → wq.heap[w.heap.size + 1]? = some (.cells #[.int .u64 0, .int .i64 0, .string ⟨#[]⟩, .slice none 0 0] 46 (0, 0)) ∧ Below w.heap.size w wq) := fun wq hq => ⟨(hq.block _ (by omega)).trans HA1.out.2, HB1.out.trans (hq.mono (by omega))⟩
  obtain ⟨x0, x1, x2, x3⟩ := block4 HA1.out.1
  go_enter Tryd.func20, Tryd.ntmps20
  go_upto_region 1 with fail
  rw [← hw1]
  clear hw1
  go_wp2_with fail
  refine (HT.out w1 HB1.out).mono ?_
  rintro e w2 ⟨p, q, a', n', c', rfl, hb2, hcs⟩
  have HB2 : Hid (Below (w.heap.size + 2) w1 w2) := hb2.mono (by have := HS1.out; omega)
  have HL2 : Hid (w.heap.size + 2 ≤ w2.heap.size) := by have := hb2.size; have := HS1.out; show _ ≤ _; omega
  have HCS := hide_p hcs
  clear x0 x1 x2 x3 hcs hb2 HT
  cases TW with
  | false =>
    have hO : O = false := by rw [HO.out]; simp
    clear HCS HO HRM HRE
    obtain ⟨z2, zb⟩ := HX.out w2 HB2.out
    obtain ⟨c0, c1, c2, c3⟩ := block4 z2
    have fz := Lib.frozen_of_heap z2
    have f0 := fz 0
    have f1 := fz 1
    have f2 := fz 2
    have f3 := fz 3
    have HE := hide_p (fun W => HZ.out w2 W _ _ _ _ hO z2 zb)
    clear fz z2 zb HZ HG 
    go_wp2
    obtain ⟨y1, y2⟩ := HE.out _ rfl
    exact bodyPost_ret (Sn.results_cell_tmp (p := 2) (q := 3) rfl _ _ (w.heap.size + 1) _ _ _ _ rfl y1 Tryd.underlying46 rfl sz46) rfl y2
  | true =>
    obtain ⟨hk, hN2⟩ := HTW0.out rfl
    subst hk
    obtain ⟨hp, hq, hn', hcs⟩ := HCS.out rfl
    have HC2 := hide_p hcs
    rw [← hp, ← hq] at HRE
    rw [← hq] at HO
    have HP0 := hide_p hp
    clear hcs HCS hp hq
    by_cases q0 : q = 0
    · subst q0
      by_cases cn : N = 2
      · have hn0 : n' = 0 := by have := HN.out; omega
        subst hn0
        have hO : O = true := by rw [HO.out]; simp [cn]
        have hre : readE (.mk 2 n s l) = ⟨p, 0, nob, []⟩ := by
          have e2 : kdT (.mk 2 n s l) = 0 := by rw [HRE.out.2]; rfl
          rw [HRE.out.1, e2]
          rfl
        obtain ⟨z2, zb⟩ := HX.out w2 HB2.out
        obtain ⟨c0, c1, c2, c3⟩ := block4 z2
        have fz := Lib.frozen_of_heap z2
        have f0 := fz 0
        have f1 := fz 1
        have f2 := fz 2
        have f3 := fz 3
        have HE := hide_p (fun W => HG.out ⟨p, 0, nob, []⟩ w2 W (.slice none 0 0) _ _ _ _ hre hO z2 zb (nr_nil _) (fun h => absurd h (Nat.lt_irrefl _)))
        clear fz z2 zb HZ HG HO HRM HRE HC2 hre hO hn' HN
        go_wp2
        obtain ⟨y1, y2⟩ := HE.out _ rfl
        exact bodyPost_ret (Sn.results_cell_tmp (p := 2) (q := 3) rfl _ _ (w.heap.size + 1) _ _ _ _ rfl y1 Tryd.underlying46 rfl sz46) rfl y2
      · have hn0 : ((n' : Int) == 0) = false := by have := HN.out; simp; omega
        have hO : O = false := by rw [HO.out]; simp [cn]
        clear HO HRM HRE HC2
        obtain ⟨z2, zb⟩ := HX.out w2 HB2.out
        obtain ⟨c0, c1, c2, c3⟩ := block4 z2
        have fz := Lib.frozen_of_heap z2
        have f0 := fz 0
        have f1 := fz 1
        have f2 := fz 2
        have f3 := fz 3
        have HE := hide_p (fun W => HZ.out w2 W _ _ _ _ hO z2 zb)
        clear fz z2 zb HZ HG 
        go_wp2
        obtain ⟨y1, y2⟩ := HE.out _ rfl
        exact bodyPost_ret (Sn.results_cell_tmp (p := 2) (q := 3) rfl _ _ (w.heap.size + 1) _ _ _ _ rfl y1 Tryd.underlying46 rfl sz46) rfl y2
    · have d0 : ((q : Int) == 0) = false := by simp; omega
      by_cases q1 : q = 1
      · subst q1
        by_cases cn : N = 3
        · have hn1 : n' = 1 := by have := HN.out; omega
          subst hn1
          obtain ⟨p0, p1, p2, el⟩ : ∃ p0 p1 p2, l = [p0, p1, p2] := by
            have := HN.out
            match l, (show l.length = 3 by omega) with
            | [p0, p1, p2], _ => exact ⟨p0, p1, p2, rfl⟩
          have hcs : CS w2 (fun q => q < w.heap.size) (.mk 2 0 nob [p2]) (cellV 2 0 nob (.slice a' [p2].length c')) := by
            have := HC2.out
            rw [el] at this
            exact this
          obtain ⟨g, o, b2, c2, rfl, -, ly2, hc2⟩ := csGet hcs 0 (by simp)
          simp only [List.getElem_cons_zero] at ly2 hc2
          have E2 : atT (.mk 2 n s l) 2 = p2 := by rw [el]; rfl
          have hsz : p2.s.size ≤ 9223372036854775807 := by
            have := hc2.cr
            generalize hv : cellV p2.k p2.n p2.s (.slice b2 p2.l.length c2) = v0 at this
            cases this using CR.elim with
            | mk k n s ts a' cap' ks ns ss us hk hn hs hl hc h0 hx hr => exact hs
          have hcall := isData_any p2 b2 p2.l.length c2 w2 hsz
          have hcap := (crParts hcs.cr).2.2.2.1
          have hcap2 := (crParts hcs.cr).2.2.2.2.1
          simp only [List.length_cons, List.length_nil] at hcap
          rw [E2] at HO HRE
          have HLY := hide_p ly2
          obtain ⟨l0, l1, l2, l3⟩ := ly2
          simp only [Nat.zero_mul, Nat.add_zero] at l0 l1 l2 l3
          have hOD : Hid (O = isD p2) := by show _ = _; rw [HO.out]; simp [cn]
          have hre : Hid (readE (.mk 2 n s l) = ⟨p, 1, p2.s, []⟩) := by
            show _ = _
            have e2 : kdT (.mk 2 n s l) = 1 := by rw [HRE.out.2]; rfl
            rw [HRE.out.1, e2]
            rfl
          clear HO HRE HRM HC2 hcs hc2 E2 hn' HN
          generalize isD p2 = DD at *
          generalize p2.k = v2k at *
          generalize p2.n = v2n at *
          generalize p2.s = v2s at *
          generalize p2.l.length = v2m at *
          go_wp2_with fail
          refine hcall.mono ?_
          rintro e w4 ⟨rfl, hb4⟩
          have HB4 : Hid (Below (w.heap.size + 2) w1 w4) := HB2.out.trans (hb4.mono HL2.out)
          obtain ⟨y0, y1, y2, y3⟩ := HLY.out.below hb4 (Nat.le_refl _)
          simp only [Nat.zero_mul, Nat.add_zero] at y0 y1 y2 y3
          have hOO := hOD.out
          clear hcall l0 l1 l2 l3 hb4 HLY
          subst hOO
          cases O with
          | false =>
            have hO : false = false := rfl
            obtain ⟨z2, zb⟩ := HX.out w4 HB4.out
            obtain ⟨c0, c1, c2, c3⟩ := block4 z2
            have fz := Lib.frozen_of_heap z2
            have f0 := fz 0
            have f1 := fz 1
            have f2 := fz 2
            have f3 := fz 3
            have HE := hide_p (fun W => HZ.out w4 W _ _ _ _ hO z2 zb)
            clear fz z2 zb HZ HG hre
            go_wp2
            obtain ⟨y1, y2⟩ := HE.out _ rfl
            exact bodyPost_ret (Sn.results_cell_tmp (p := 2) (q := 3) rfl _ _ (w.heap.size + 1) _ _ _ _ rfl y1 Tryd.underlying46 rfl sz46) rfl y2
          | true =>
            obtain ⟨z2, zb⟩ := HX.out w4 HB4.out
            obtain ⟨c0, c1, c2, c3⟩ := block4 z2
            have fz := Lib.frozen_of_heap z2
            have f0 := fz 0
            have f1 := fz 1
            have f2 := fz 2
            have f3 := fz 3
            have HE := hide_p (fun W => HG.out ⟨p, 1, v2s, []⟩ w4 W (.slice none 0 0) _ _ _ _ hre.out rfl z2 zb (nr_nil _) (fun h => absurd h (Nat.lt_irrefl _)))
            clear fz z2 zb HZ HG hre
            go_wp2
            obtain ⟨y1, y2⟩ := HE.out _ rfl
            exact bodyPost_ret (Sn.results_cell_tmp (p := 2) (q := 3) rfl _ _ (w.heap.size + 1) _ _ _ _ rfl y1 Tryd.underlying46 rfl sz46) rfl y2
        · have hn1 : ((n' : Int) == 1) = false := by have := HN.out; simp; omega
          have hO : O = false := by rw [HO.out]; simp [cn]
          clear HO HRM HRE HC2
          obtain ⟨z2, zb⟩ := HX.out w2 HB2.out
          obtain ⟨c0, c1, c2, c3⟩ := block4 z2
          have fz := Lib.frozen_of_heap z2
          have f0 := fz 0
          have f1 := fz 1
          have f2 := fz 2
          have f3 := fz 3
          have HE := hide_p (fun W => HZ.out w2 W _ _ _ _ hO z2 zb)
          clear fz z2 zb HZ HG 
          go_wp2
          obtain ⟨y1, y2⟩ := HE.out _ rfl
          exact bodyPost_ret (Sn.results_cell_tmp (p := 2) (q := 3) rfl _ _ (w.heap.size + 1) _ _ _ _ rfl y1 Tryd.underlying46 rfl sz46) rfl y2
      · have d1 : ((q : Int) == 1) = false := by simp; omega
        by_cases q2 : q = 2
        · subst q2
          by_cases cn : N = 3
          · have hn1 : n' = 1 := by have := HN.out; omega
            subst hn1
            obtain ⟨p0, p1, p2, el⟩ : ∃ p0 p1 p2, l = [p0, p1, p2] := by
              have := HN.out
              match l, (show l.length = 3 by omega) with
              | [p0, p1, p2], _ => exact ⟨p0, p1, p2, rfl⟩
            have hcs : CS w2 (fun q => q < w.heap.size) (.mk 2 0 nob [p2]) (cellV 2 0 nob (.slice a' [p2].length c')) := by
              have := HC2.out
              rw [el] at this
              exact this
            obtain ⟨g, o, b2, c2, rfl, -, ly2, hc2⟩ := csGet hcs 0 (by simp)
            simp only [List.getElem_cons_zero] at ly2 hc2
            have E2 : atT (.mk 2 n s l) 2 = p2 := by rw [el]; rfl
            have hcall := HRM.out w2 p2 _ E2 hc2.cr
            have hcap := (crParts hcs.cr).2.2.2.1
            have hcap2 := (crParts hcs.cr).2.2.2.2.1
            simp only [List.length_cons, List.length_nil] at hcap
            rw [E2] at HO HRE
            obtain ⟨l0, l1, l2, l3⟩ := ly2
            simp only [Nat.zero_mul, Nat.add_zero] at l0 l1 l2 l3
            have hOD : Hid (O = rmB p2) := by show _ = _; rw [HO.out]; simp [cn]
            have hre : Hid (readE (.mk 2 n s l) = ⟨p, 2, nob, numsL p2⟩) := by
              show _ = _
              have e2 : kdT (.mk 2 n s l) = 2 := by rw [HRE.out.2]; rfl
              rw [HRE.out.1, e2]
              rfl
            clear HO HRE HRM HC2 hcs hc2 E2 hn' HN
            unfold cellV at hcall
            generalize rmB p2 = RM at *
            generalize numsL p2 = L2 at *
            generalize p2.k = v2k at *
            generalize p2.n = v2n at *
            generalize p2.s = v2s at *
            generalize p2.l.length = v2m at *
            go_wp2_with fail
            refine hcall.mono ?_
            rintro e w5 ⟨a5, n5, c5, rfl, hb5, hno⟩
            have HB5 : Hid (Below (w.heap.size + 2) w1 w5) := HB2.out.trans (hb5.mono HL2.out)
            have hOO := hOD.out
            clear hcall l0 l1 l2 l3 hb5
            subst hOO
            cases O with
            | false =>
              have hO : false = false := rfl
              clear hno
              obtain ⟨z2, zb⟩ := HX.out w5 HB5.out
              obtain ⟨c0, c1, c2, c3⟩ := block4 z2
              have fz := Lib.frozen_of_heap z2
              have f0 := fz 0
              have f1 := fz 1
              have f2 := fz 2
              have f3 := fz 3
              have HE := hide_p (fun W => HZ.out w5 W _ _ _ _ hO z2 zb)
              clear fz z2 zb HZ HG hre
              go_wp2
              obtain ⟨y1, y2⟩ := HE.out _ rfl
              exact bodyPost_ret (Sn.results_cell_tmp (p := 2) (q := 3) rfl _ _ (w.heap.size + 1) _ _ _ _ rfl y1 Tryd.underlying46 rfl sz46) rfl y2
            | true =>
              have hno := hno rfl
              obtain ⟨z2, zb⟩ := HX.out w5 HB5.out
              obtain ⟨c0, c1, c2, c3⟩ := block4 z2
              have fz := Lib.frozen_of_heap z2
              have f0 := fz 0
              have f1 := fz 1
              have f2 := fz 2
              have f3 := fz 3
              have HE := hide_p (fun W => HG.out ⟨p, 2, nob, L2⟩ w5 W (.slice a5 n5 c5) _ _ _ _ hre.out rfl z2 zb hno.nr (fun _ k hk => by have h1 := World.ownsRow.lt hno k hk; have h2 := HL2.out; omega))
              clear fz z2 zb HZ HG hre hno
              go_wp2
              obtain ⟨y1, y2⟩ := HE.out _ rfl
              exact bodyPost_ret (Sn.results_cell_tmp (p := 2) (q := 3) rfl _ _ (w.heap.size + 1) _ _ _ _ rfl y1 Tryd.underlying46 rfl sz46) rfl y2
          · have hn1 : ((n' : Int) == 1) = false := by have := HN.out; simp; omega
            have hO : O = false := by rw [HO.out]; simp [cn]
            clear HO HRM HRE HC2
            obtain ⟨z2, zb⟩ := HX.out w2 HB2.out
            obtain ⟨c0, c1, c2, c3⟩ := block4 z2
            have fz := Lib.frozen_of_heap z2
            have f0 := fz 0
            have f1 := fz 1
            have f2 := fz 2
            have f3 := fz 3
            have HE := hide_p (fun W => HZ.out w2 W _ _ _ _ hO z2 zb)
            clear fz z2 zb HZ HG 
            go_wp2
            obtain ⟨y1, y2⟩ := HE.out _ rfl
            exact bodyPost_ret (Sn.results_cell_tmp (p := 2) (q := 3) rfl _ _ (w.heap.size + 1) _ _ _ _ rfl y1 Tryd.underlying46 rfl sz46) rfl y2
        · have d2 : ((q : Int) == 2) = false := by simp; omega
          have hO : O = false := by rw [HO.out, if_neg q0, if_neg q1, if_neg q2]; simp
          clear HO HRM HRE HC2
          obtain ⟨z2, zb⟩ := HX.out w2 HB2.out
          obtain ⟨c0, c1, c2, c3⟩ := block4 z2
          have fz := Lib.frozen_of_heap z2
          have f0 := fz 0
          have f1 := fz 1
          have f2 := fz 2
          have f3 := fz 3
          have HE := hide_p (fun W => HZ.out w2 W _ _ _ _ hO z2 zb)
          clear fz z2 zb HZ HG 
          go_wp2
          obtain ⟨y1, y2⟩ := HE.out _ rfl
          exact bodyPost_ret (Sn.results_cell_tmp (p := 2) (q := 3) rfl _ _ (w.heap.size + 1) _ _ _ _ rfl y1 Tryd.underlying46 rfl sz46) rfl y2

end Go.Proofs.YtjngknnkffbnmaaDoor
