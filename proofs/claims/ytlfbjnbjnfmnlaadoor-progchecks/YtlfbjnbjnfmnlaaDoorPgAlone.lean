/-
  Layer 13: the reference's alone, walked.
-/
import Derived.Test.YtlfbjnbjnfmnlaaDoorPgCan
import Derived.Test.YtlfbjnbjnfmnlaaDoorPgChk6
namespace Go.Proofs.YtlfbjnbjnfmnlaaDoor
set_option maxRecDepth 100000
open Go.RowKit Txt Pg Flo

/-- What is wrong with a function by itself, and its ups. -/
def badB (t : Pr) (arg : Int) (anu : Nat) (top : Bool) : Bool := !(soundB t) || (top && decide (t.us.length > 0)) || !(findB t.us arg anu)

theorem sound_of (pa rg : Int) (us : List Upp) (cs : List Ins) (ks : List Vl) (ps : List Pr) : soundB (.mk pa rg us cs ks ps) = (inB pa 31 && decide (pa ≤ rg) && !(ks.any noC) && endB cs && cs.all (ordB ⟨rg, us.length, cs.length, ks.length, ps.length⟩)) := rfl

set_option maxHeartbeats 16000000 in
theorem alone_any (t : Pr) (x : Six) (pa' rg' : Int) (au' : Option Addr) (nu' cu' : Nat) (vc' vk' vp' : Value) (top : Bool) (w : World) (h : PR w t x) :
    Calls Tryd.prog 65 #[x.v, .agg #[.int .i64 pa', .int .i64 rg', .slice au' nu' cu', vc', vk', vp'], .bool top] w fun e w' => e = .returned (.int .i64 (if badB t rg' nu' top then 1 else 0)) ∧ Below w.heap.size w w' := by
  obtain ⟨pa, rg, us, cs, ks, ps⟩ := t
  rw [PR_mk] at h
  obtain ⟨xpa, xrg, vu, vc, vk, vp⟩ := x
  simp only at h
  obtain ⟨rfl, rfl, hpa, hrg, hu, hc, hk, f, hp, -⟩ := h
  obtain ⟨au, cu, rfl, hul, huc, lu⟩ := hu.1.val
  obtain ⟨ac, cc, rfl, hcl, hcc, lc⟩ := hc.1.val
  obtain ⟨ak, ck, rfl, hkl, hkc, lk⟩ := hk.1.val
  obtain ⟨ap, cp, rfl, -, -, lp⟩ := hp.val
  unfold Six.v
  simp only
  have HBAD : Hid (badB (.mk xpa xrg us cs ks ps) rg' nu' top = (!(inB xpa 31 && decide (xpa ≤ xrg) && !(ks.any noC) && endB cs && cs.all (ordB ⟨xrg, us.length, cs.length, ks.length, ps.length⟩)) || (top && decide (us.length > 0)) || !(findB us rg' nu'))) := rfl
  rw [HBAD.out]
  obtain ⟨nu, hnu⟩ : ∃ n, n = us.length := ⟨_, rfl⟩
  obtain ⟨nc, hnc⟩ : ∃ n, n = cs.length := ⟨_, rfl⟩
  obtain ⟨nk, hnk⟩ : ∃ n, n = ks.length := ⟨_, rfl⟩
  obtain ⟨np, hnp⟩ : ∃ n, n = ps.length := ⟨_, rfl⟩
  have HN : Hid (nu = us.length ∧ nc = cs.length ∧ nk = ks.length) := ⟨hnu, hnc, hnk⟩
  have HSU : Hid (SU w (.slice au nu cu) us) := by rw [hnu]; exact hu
  have HSC : Hid (SI w (.slice ac nc cc) cs) := by rw [hnc]; exact hc
  have HSK : Hid (SV w (.slice ak nk ck) ks) := by rw [hnk]; exact hk
  rw [← hnu, ← hnc, ← hnk, ← hnp]
  rw [← hnu] at hul lu
  rw [← hnc] at hcl lc
  rw [← hnk] at hkl lk
  unfold far at lu lc lk
  clear hu hc hk hp hnu hnc hnk hnp lp HBAD
  have HRG := hide_p hrg
  unfold i64 at hrg hpa
  obtain ⟨w0, hw0⟩ : ∃ w0, w0 = (w.alloc (.cells #[.int .i64 xpa, .int .i64 xrg, .slice au nu cu, .slice ac nc cc, .slice ak nk ck, .slice ap np cp] 31)).alloc (.cells #[.int .i64 pa', .int .i64 rg', .slice au' nu' cu', vc', vk', vp'] 31) := ⟨_, rfl⟩
  have HB0 : Hid (Below w.heap.size w w0) := by rw [hw0]; exact ((Below.refl _ w).alloc (Nat.le_refl _) _).alloc (by simp) _
  have HA : Hid (∀ j, w0.cell? ⟨w.heap.size, j, none⟩ = (#[.int .i64 xpa, .int .i64 xrg, .slice au nu cu, .slice ac nc cc, .slice ak nk ck, .slice ap np cp] : Array Value)[j]?) := by
    intro j
    rw [hw0, World.cell?_alloc_lt _ _ _ (by simp), World.cell?_alloc_new]
  have HD : Hid (∀ j, w0.cell? ⟨w.heap.size + 1, j, none⟩ = (#[.int .i64 pa', .int .i64 rg', .slice au' nu' cu', vc', vk', vp'] : Array Value)[j]?) := by
    intro j
    rw [hw0, World.cell?_alloc_at _ _ _ _ (by simp)]
  have HS0 : Hid (w0.heap.size = w.heap.size + 2) := by show _ = _; rw [hw0]; simp
  have q0 : w0.cell? ⟨w.heap.size, 0, none⟩ = some (.int .i64 xpa) := HA.out 0
  have q1 : w0.cell? ⟨w.heap.size, 1, none⟩ = some (.int .i64 xrg) := HA.out 1
  have q2 : w0.cell? ⟨w.heap.size, 2, none⟩ = some (.slice au nu cu) := HA.out 2
  have q3 : w0.cell? ⟨w.heap.size, 3, none⟩ = some (.slice ac nc cc) := HA.out 3
  obtain ⟨R, hR⟩ : ∃ R : Int, R = if (!(inB xpa 31 && decide (xpa ≤ xrg) && !(ks.any noC) && endB cs && cs.all (ordB ⟨xrg, nu, nc, nk, np⟩)) || (top && decide (nu > 0)) || !(findB us rg' nu')) = true then 1 else 0 := ⟨_, rfl⟩
  rw [← hR]
  have HR := hide_p hR
  clear hR
  go_enter Tryd.func65, Tryd.ntmps65
  go_upto_region 1 with fail
  rw [← hw0]
  clear hw0
  by_cases c1 : xpa < 0
  · have HF : Hid (R = 1) := by show _ = _; rw [HR.out, show inB xpa 31 = false by unfold inB; simp; omega]; simp
    go_wp2
    go_ret
    exact ⟨by rw [HF.out]; rfl, HB0.out⟩
  by_cases c2 : xpa > 30
  · have HF : Hid (R = 1) := by show _ = _; rw [HR.out, show inB xpa 31 = false by unfold inB; simp; omega]; simp
    go_wp2
    go_ret
    exact ⟨by rw [HF.out]; rfl, HB0.out⟩
  have HIN : Hid (inB xpa 31 = true) := by show _ = _; unfold inB; simp; omega
  by_cases c3 : xpa > xrg
  · have HF : Hid (R = 1) := by show _ = _; rw [HR.out, show decide (xpa ≤ xrg) = false by simp; omega]; simp
    go_wp2
    go_ret
    exact ⟨by rw [HF.out]; rfl, HB0.out⟩
  have HPR : Hid (decide (xpa ≤ xrg) = true) := by show _ = _; simp; omega
  by_cases c4 : nc = 0
  · have HF : Hid (R = 1) := by
      have : cs = [] := List.eq_nil_of_length_eq_zero (by have := HN.out; omega)
      show _ = _
      rw [HR.out, this, show endB [] = false from rfl]
      simp
    subst c4
    go_wp2
    go_ret
    exact ⟨by rw [HF.out]; rfl, HB0.out⟩
  have c5 : ¬ (nc : Int) = 0 := by omega
  have c6 : ((nc : Int) == 0) = false := by simp; omega
  by_cases c7 : top = true ∧ 0 < nu
  · obtain ⟨rfl, c8⟩ := c7
    have HF : Hid (R = 1) := by show _ = _; rw [HR.out, show decide (nu > 0) = true by simp; omega]; simp
    have c9 : (nu : Int) > 0 := by omega
    go_wp2
    go_ret
    exact ⟨by rw [HF.out]; rfl, HB0.out⟩
  have HTP : Hid ((top && decide (nu > 0)) = false) := by
    show _ = _
    cases top with
    | false => rfl
    | true => simp at c7 ⊢; omega
  have HNO : Hid (∀ z : Bool, ks.any noC = z ∨ True → True) := fun _ _ => trivial
  clear HNO
  have hrg0 : 0 ≤ xrg := by omega
  go_cut [43] (fun t43 wx => t43 = .bool false ∧ wx = w0)
  case first =>
    cases top with
    | false =>
      go_wp2_with fail
      go_meet
      exact ⟨rfl, rfl⟩
    | true =>
      have c8 : ¬ (nu : Int) > 0 := by simp at c7; omega
      go_wp2_with fail
      go_meet
      exact ⟨by rw [show decide (0 < nu) = false by simp; omega], rfl⟩
  case rest =>
    obtain ⟨rfl, hwc⟩ := hcut
    have hwc2 := hwc.symm
    clear hwc
    subst hwc2
    clear q0 q1 q2 q3 c7 c5 c6
    go_wp2_with fail
    go_loopw [7, 8] (fun t7 t8 wr => ∃ (i : Nat), i ≤ nk ∧ t7 = .int .i64 i ∧ Hid ((ks.take i).any noC = false) ∧ Hid (Below w0.heap.size w0 wr)) (fun t7 _ _ => nk - (intOf t7).toNat)
    case atStart => exact ⟨0, Nat.zero_le _, rfl, rfl, Below.refl _ _⟩
    case round =>
      obtain ⟨i, hi, rfl, HJ, HB⟩ := hrel
      have HBw : Hid (Below w.heap.size w wr) := HB0.out.trans (HB.out.mono HB0.out.size)
      have r4 : wr.cell? ⟨w.heap.size, 4, none⟩ = some (.slice ak nk ck) := box6 HA.out HB.out (Nat.le_refl _) rfl
      by_cases c : i < nk
      · have i1 : i < ks.length := by have := HN.out; omega
        obtain ⟨-, g, o, rfl, K, N, S, O, hl, ⟨b1, b2, b3, b4⟩, e0, e1, e2, e3⟩ := (HSK.out.kept HBw.out (Nat.le_refl _)).get i1
        have HT1 : Hid ((ks.take (i + 1)).any noC = noC ⟨K, N, S, O⟩) := by
          show _ = _
          rw [List.take_succ_eq_append_getElem i1, List.any_append, HJ.out, hl]
          simp
        have HT2 : Hid (noC ⟨K, N, S, O⟩ = true → R = 1) := by
          intro e
          have : ks.any noC = true := List.any_eq_true.2 ⟨ks[i], List.getElem_mem i1, by rw [hl]; exact e⟩
          rw [HR.out, this]
          simp
        obtain ⟨bv, hbv⟩ : ∃ bv, bv = wr.heap.size := ⟨_, rfl⟩
        obtain ⟨wv, hwv⟩ : ∃ wv, wv = wr.alloc (.cells #[.int .i64 K, .int .u64 N, .string S, .int .i64 O] 86) := ⟨_, rfl⟩
        have HBv : Hid (Below wr.heap.size wr wv) := by rw [hwv]; exact (Below.refl _ _).alloc (Nat.le_refl _) _
        have p0 : ∀ p : BelowOf wv, p.u.cell? ⟨bv, 0, none⟩ = some (.int .i64 K) := fun p => cell_kept p.h (Nat.le_refl _) (by rw [hwv, hbv]; simp)
        have p1 : ∀ p : BelowOf wv, p.u.cell? ⟨bv, 1, none⟩ = some (.int .u64 N) := fun p => cell_kept p.h (Nat.le_refl _) (by rw [hwv, hbv]; simp)
        have p2 : ∀ p : BelowOf wv, p.u.cell? ⟨bv, 2, none⟩ = some (.string S) := fun p => cell_kept p.h (Nat.le_refl _) (by rw [hwv, hbv]; simp)
        have p3 : ∀ p : BelowOf wv, p.u.cell? ⟨bv, 3, none⟩ = some (.int .i64 O) := fun p => cell_kept p.h (Nat.le_refl _) (by rw [hwv, hbv]; simp)
        have HNm : Hid (∀ w, Calls Tryd.prog 89 #[.agg #[.int .i64 K, .int .u64 N, .string S, .int .i64 O]] w fun e w' => e = .returned (.agg #[.int .i64 (nK K), .int .u64 (nN K N), .string (nS K S), .int .i64 (nO K O)]) ∧ Below w.heap.size w w') := fun w => refNormal_any K N S O w ⟨b2.1, b2.2⟩
        have HQ := fun w => neqV (nK K) K (nN K N) N (nS K S) S (nO K O) O w
        have HM : Hid (((nK K == K) && (nN K N == N) && ((nS K S).toList == S.toList) && (nO K O == O)) = normB K N S O) := rfl
        rw [HM.out] at HQ
        have hInh : Inhabited (BelowOf wv) := ⟨⟨wv, Below.refl _ _⟩⟩
        have HC : Hid (noC ⟨K, N, S, O⟩ = (!(inB K 5) || !(normB K N S O))) := rfl
        have HNXT : Hid (∀ wq, Below wv.heap.size wv wq → Below w0.heap.size w0 wq) := fun wq hq => HB.out.trans ((HBv.out.mono HB.out.size).trans (hq.mono (Nat.le_trans HB.out.size HBv.out.size)))
        clear hl
        go_upto_region 7 with fail
        rw [← hbv, ← hwv]
        clear hbv hwv e0 e1 e2 e3
        generalize normB K N S O = zn at *
        generalize nK K = K' at *
        generalize nN K N = N' at *
        generalize nS K S = S' at *
        generalize nO K O = O' at *
        by_cases k1 : K < 0
        · have hd1 : decide (K < 0) = true := by simp [k1]
          have HF : Hid (R = 1) := HT2.out (by rw [HC.out, show inB K 5 = false by unfold inB; simp; omega]; rfl)
          refine wp_region_below (by kernel_rfl) (by kernel_rfl) ?_
          repeat (quiet_step (fail))
          refine wpQuiet_nil ?_
          intro wq hw'
          obtain ⟨⟨w9, hwq⟩, hw''⟩ := hw'
          subst hw''
          have HBq := hide_p (HNXT.out _ hwq)
          clear p0 p1 p2 p3 hwq
          go_wp2
          go_ret
          exact ⟨by rw [HF.out]; rfl, HB0.out.trans (HBq.out.mono HB0.out.size)⟩
        · have hd1 : decide (K < 0) = false := by simp; omega
          by_cases k2 : K > 4
          · have hd2 : decide (K > 4) = true := by simp; omega
            have HF : Hid (R = 1) := HT2.out (by rw [HC.out, show inB K 5 = false by unfold inB; simp; omega]; rfl)
            refine wp_region_below (by kernel_rfl) (by kernel_rfl) ?_
            repeat (quiet_step (fail))
            refine wpQuiet_nil ?_
            intro wq hw'
            obtain ⟨⟨w9, hwq⟩, hw''⟩ := hw'
            subst hw''
            have HBq := hide_p (HNXT.out _ hwq)
            clear p0 p1 p2 p3 hwq
            go_wp2
            go_ret
            exact ⟨by rw [HF.out]; rfl, HB0.out.trans (HBq.out.mono HB0.out.size)⟩
          · have hd2 : decide (K > 4) = false := by simp; omega
            have HC2 : Hid (noC ⟨K, N, S, O⟩ = !zn) := by show _ = _; rw [HC.out, show inB K 5 = true by unfold inB; simp; omega]; rfl
            rw [HC2.out] at HT1 HT2
            refine wp_region_below (by kernel_rfl) (by kernel_rfl) ?_
            repeat (quiet_step (fail))
            quiet_step ((go_at_call 89; exact below_of (HNm.out _)))
            repeat (quiet_step (fail))
            refine wpQuiet_nil ?_
            intro wq hw'
            obtain ⟨⟨w9, hwq⟩, hw''⟩ := hw'
            subst hw''
            have HBq := hide_p (HNXT.out _ hwq)
            clear p0 p1 p2 p3 hwq HQ HNm
            cases zn with
            | false =>
              have HF : Hid (R = 1) := HT2.out rfl
              go_wp2
              go_ret
              exact ⟨by rw [HF.out]; rfl, HB0.out.trans (HBq.out.mono HB0.out.size)⟩
            | true =>
              have HT3 : Hid ((ks.take (i + 1)).any noC = false) := HT1.out
              go_wp2
              go_roundw
              case rel => exact ⟨i + 1, by omega, by go_num, HT3, HBq⟩
              case measure => simp [intOf]; omega
      · have e : i = nk := by omega
        have HKS : Hid (ks.any noC = false) := by
          have := HJ.out
          rw [List.take_of_length_le (by have := HN.out; omega)] at this
          exact this
        subst e
        obtain ⟨l1, hl1⟩ : ∃ l, l + 1 = nc := ⟨nc - 1, by omega⟩
        have i1 : l1 < cs.length := by have := HN.out; omega
        obtain ⟨-, g, o, rfl, op, xa, xb, xc, hl, -, e0, -, -, -⟩ := (HSC.out.kept HBw.out (Nat.le_refl _)).get i1
        have HEN : Hid (endB cs = ((op == 29) || (op == 33) || (op == 34))) := by
          show _ = _
          unfold endB
          rw [List.getLast?_eq_getElem?, show cs.length - 1 = l1 by have := HN.out; omega, List.getElem?_eq_getElem i1, hl]
        have r3 : wr.cell? ⟨w.heap.size, 3, none⟩ = some (.slice (some ⟨g, o, none⟩) nc cc) := box6 HA.out HB.out (Nat.le_refl _) rfl
        have hm1 : (nc : Int) - 1 = (l1 : Int) := by omega
        have hm2 : (l1 : Int) < (nc : Int) := by omega
        clear hl HJ
        obtain ⟨ze, HZE⟩ : ∃ z, Hid (endB cs = z) := ⟨_, rfl⟩
        rw [HZE.out] at HEN
        go_upto_region 10 with fail
        go_cut [88] (fun t88 wx => t88 = .bool (!ze) ∧ wx = wr)
        case first =>
          by_cases d1 : op = 29
          · subst d1
            have hz : ze = true := HEN.out
            subst hz
            go_wp2_with fail
            go_meet
            exact ⟨rfl, rfl⟩
          · have m1 : (op != 29) = true := by simp [d1]
            by_cases d2 : op = 33
            · subst d2
              have hz : ze = true := HEN.out
              subst hz
              go_wp2_with fail
              go_meet
              exact ⟨rfl, rfl⟩
            · have m2 : (op != 33) = true := by simp [d2]
              have hz : ze = (op == 34) := by rw [HEN.out]; simp [d1, d2]
              subst hz
              go_wp2_with fail
              go_meet
              exact ⟨rfl, rfl⟩
        case rest =>
          obtain ⟨rfl, rfl⟩ := hcut
          clear e0 r3 r4 hm1 hm2 hl1 i1
          cases ze with
          | false =>
            have HF : Hid (R = 1) := by show _ = _; rw [HR.out, HZE.out]; simp
            go_wp2
            go_ret
            exact ⟨by rw [HF.out]; rfl, HBw.out⟩
          | true =>
            go_wp2_with fail
            go_loopw [10, 11, 12] (fun t10 t11 t12 wr => ∃ (j : Nat), j ≤ nu ∧ t10 = .int .i64 j ∧ Hid (findB (us.take j) rg' nu' = true) ∧ Hid (Below w0.heap.size w0 wr)) (fun t10 _ _ _ => nu - (intOf t10).toNat)
            case atStart => exact ⟨0, Nat.zero_le _, rfl, rfl, HB⟩
            case round =>
              obtain ⟨j, hj, rfl, HJ, HB2⟩ := hrel
              have HB2w : Hid (Below w.heap.size w wr) := HB0.out.trans (HB2.out.mono HB0.out.size)
              have r2 : wr.cell? ⟨w.heap.size, 2, none⟩ = some (.slice au nu cu) := box6 HA.out HB2.out (Nat.le_refl _) rfl
              by_cases cj : j < nu
              · have j1 : j < us.length := by have := HN.out; omega
                obtain ⟨-, g2, o2, rfl, own, pl, hl, -, e0, e1⟩ := (HSU.out.kept HB2w.out (Nat.le_refl _)).get j1
                have HT1 : Hid (findB (us.take (j + 1)) rg' nu' = inB pl (if own then rg' else nu')) := by
                  show _ = _
                  unfold findB
                  rw [List.take_succ_eq_append_getElem j1, List.all_append]
                  have := HJ.out
                  unfold findB at this
                  rw [this, hl]
                  simp
                have HT2 : Hid (inB pl (if own then rg' else nu') = false → R = 1) := by
                  intro e
                  have : findB us rg' nu' = false := by
                    rw [Bool.eq_false_iff]
                    intro e2
                    have := List.all_eq_true.1 e2 _ (List.getElem_mem j1)
                    rw [hl] at this
                    simp only at this
                    rw [e] at this
                    cases this
                  rw [HR.out, this]
                  simp
                have s2 : wr.cell? ⟨w.heap.size + 1, 2, none⟩ = some (.slice au' nu' cu') := box6 HD.out HB2.out (Nat.le_refl _) rfl
                have s1 : wr.cell? ⟨w.heap.size + 1, 1, none⟩ = some (.int .i64 rg') := box6 HD.out HB2.out (Nat.le_refl _) rfl
                have hszr : w.heap.size + 2 ≤ wr.heap.size := by have := HB2.out.size; have := HS0.out; omega
                have HB3 : Hid (Below w0.heap.size w0 ((wr.alloc (.cells #[.bool own, .int .i64 pl] 79)).drew)) := (HB2.out.alloc HB2.out.size _).drew
                clear hl
                go_wp2_with fail
                go_region_held3 (fun w' => w'.cell? ⟨w.heap.size, 2, none⟩ = some (.slice (some ⟨g2, o2, none⟩) nu cu) ∧ w'.cell? ⟨g2, o2 + j * 2, none⟩ = some (.bool own) ∧ w'.cell? ⟨g2, o2 + j * 2 + 1, none⟩ = some (.int .i64 pl) ∧ w'.cell? ⟨w.heap.size + 1, 2, none⟩ = some (.slice au' nu' cu')) (go_keep) (fail)
                rename_i hHeld
                clear hHeld
                obtain ⟨w7, hw7⟩ : ∃ w7, w7 = (wr.alloc (.cells #[.bool own, .int .i64 pl] 79)).drew := ⟨_, rfl⟩
                rw [← hw7] at HB3 ⊢
                have z0 : w7.cell? ⟨wr.heap.size, 0, none⟩ = some (.bool own) := by rw [hw7]; simp
                have z1 : w7.cell? ⟨wr.heap.size, 1, none⟩ = some (.int .i64 pl) := by rw [hw7]; simp
                have z2 : w7.cell? ⟨w.heap.size + 1, 1, none⟩ = some (.int .i64 rg') := by
                  have hb : Below wr.heap.size wr w7 := by rw [hw7]; exact ((Below.refl _ _).alloc (Nat.le_refl _) _).drew
                  exact cell_kept hb (Nat.le_refl _) s1
                clear hw7 e0 e1 r2 s1 s2
                cases own
                case false =>
                  simp only [Bool.false_eq_true, if_false] at HT1 HT2
                  by_cases y1 : pl < 0
                  · have HF : Hid (R = 1) := HT2.out (by unfold inB; simp; omega)
                    go_wp2
                    go_ret
                    exact ⟨by rw [HF.out]; rfl, HB0.out.trans (HB3.out.mono HB0.out.size)⟩
                  · by_cases y2 : pl ≥ (nu' : Int)
                    · have HF : Hid (R = 1) := HT2.out (by unfold inB; simp; omega)
                      go_wp2
                      go_ret
                      exact ⟨by rw [HF.out]; rfl, HB0.out.trans (HB3.out.mono HB0.out.size)⟩
                    · have HT3 : Hid (findB (us.take (j + 1)) rg' nu' = true) := by show _ = _; rw [HT1.out]; unfold inB; simp; omega
                      go_wp2
                      go_roundw
                      case rel => first | exact ⟨j + 1, by omega, by go_num, HT3, HB3⟩ | exact ⟨j + 1, by omega, by omega, HT3⟩
                      case measure => simp [intOf]; omega
                case true =>
                  simp only [if_true] at HT1 HT2
                  by_cases y1 : pl < 0
                  · have HF : Hid (R = 1) := HT2.out (by unfold inB; simp; omega)
                    go_wp2
                    go_ret
                    exact ⟨by rw [HF.out]; rfl, HB0.out.trans (HB3.out.mono HB0.out.size)⟩
                  · by_cases y2 : pl ≥ rg'
                    · have HF : Hid (R = 1) := HT2.out (by unfold inB; simp; omega)
                      go_wp2
                      go_ret
                      exact ⟨by rw [HF.out]; rfl, HB0.out.trans (HB3.out.mono HB0.out.size)⟩
                    · have HT3 : Hid (findB (us.take (j + 1)) rg' nu' = true) := by show _ = _; rw [HT1.out]; unfold inB; simp; omega
                      go_wp2
                      go_roundw
                      case rel => first | exact ⟨j + 1, by omega, by go_num, HT3, HB3⟩ | exact ⟨j + 1, by omega, by omega, HT3⟩
                      case measure => simp [intOf]; omega
              · have e : j = nu := by omega
                have HFU : Hid (findB us rg' nu' = true) := by
                  have := HJ.out
                  rw [List.take_of_length_le (by have := HN.out; omega)] at this
                  exact this
                subst e
                clear HJ
                go_wp2_with fail
                clear r2
                go_loopw [13] (fun t13 wr => ∃ (k : Nat), k ≤ nc ∧ t13 = .int .i64 k ∧ Hid ((cs.take k).all (ordB ⟨xrg, j, nc, i, np⟩) = true) ∧ Hid (Below w0.heap.size w0 wr)) (fun t13 _ => nc - (intOf t13).toNat)
                case atStart => exact ⟨0, Nat.zero_le _, rfl, rfl, HB2⟩
                case round =>
                  obtain ⟨k, hk, rfl, HJ, HB4⟩ := hrel
                  have HB4w : Hid (Below w.heap.size w wr) := HB0.out.trans (HB4.out.mono HB0.out.size)
                  have r3 : wr.cell? ⟨w.heap.size, 3, none⟩ = some (.slice (some ⟨g, o, none⟩) nc cc) := box6 HA.out HB4.out (Nat.le_refl _) rfl
                  by_cases ck5 : k < nc
                  · have k1 : k < cs.length := by have := HN.out; omega
                    obtain ⟨-, g5, o5, hgo, op5, ya, yb, yc, hl, hok, f0, f1, f2, f3⟩ := (HSC.out.kept HB4w.out (Nat.le_refl _)).get k1
                    injection hgo with hgo
                    injection hgo with hg1 hg2
                    subst hg1 hg2
                    have HT1 : Hid ((cs.take (k + 1)).all (ordB ⟨xrg, j, nc, i, np⟩) = ordB ⟨xrg, j, nc, i, np⟩ ⟨op5, ya, yb, yc⟩) := by
                      show _ = _
                      rw [List.take_succ_eq_append_getElem k1, List.all_append, HJ.out, hl]
                      simp
                    have HT2 : Hid (ordB ⟨xrg, j, nc, i, np⟩ ⟨op5, ya, yb, yc⟩ = false → R = 1) := by
                      intro e
                      have : cs.all (ordB ⟨xrg, j, nc, i, np⟩) = false := by
                        rw [Bool.eq_false_iff]
                        intro e2
                        have := List.all_eq_true.1 e2 _ (List.getElem_mem k1)
                        rw [hl, e] at this
                        cases this
                      rw [HR.out, this]
                      simp
                    have HCA : Hid (∀ w, Calls Tryd.prog 90 #[.agg #[.int .i64 xpa, .int .i64 xrg, .slice au j cu, .slice (some ⟨g, o, none⟩) nc cc, .slice ak i ck, .slice ap np cp], .agg #[.int .i64 op5, .int .i64 ya, .int .i64 yb, .int .i64 yc]] w fun e w' => e = .returned (.bool (ordB ⟨xrg, j, nc, i, np⟩ ⟨op5, ya, yb, yc⟩)) ∧ Below w.heap.size w w') := fun w => by
                      have := can_any op5 ya yb yc xpa xrg au (some ⟨g, o, none⟩) ak ap j cu nc cc i ck np cp w hrg0 HRG.out hok.2.1
                      rw [can_ord _ _ hrg0] at this
                      exact this
                    have p0 : ∀ p : BelowOf wr, p.u.cell? ⟨w.heap.size, 0, none⟩ = some (.int .i64 xpa) := fun p => cell_kept p.h (Nat.le_refl _) (box6 HA.out HB4.out (Nat.le_refl _) rfl)
                    have p1 : ∀ p : BelowOf wr, p.u.cell? ⟨w.heap.size, 1, none⟩ = some (.int .i64 xrg) := fun p => cell_kept p.h (Nat.le_refl _) (box6 HA.out HB4.out (Nat.le_refl _) rfl)
                    have p2 : ∀ p : BelowOf wr, p.u.cell? ⟨w.heap.size, 2, none⟩ = some (.slice au j cu) := fun p => cell_kept p.h (Nat.le_refl _) (box6 HA.out HB4.out (Nat.le_refl _) rfl)
                    have p3 : ∀ p : BelowOf wr, p.u.cell? ⟨w.heap.size, 3, none⟩ = some (.slice (some ⟨g, o, none⟩) nc cc) := fun p => cell_kept p.h (Nat.le_refl _) r3
                    have p4 : ∀ p : BelowOf wr, p.u.cell? ⟨w.heap.size, 4, none⟩ = some (.slice ak i ck) := fun p => cell_kept p.h (Nat.le_refl _) (box6 HA.out HB4.out (Nat.le_refl _) rfl)
                    have p5 : ∀ p : BelowOf wr, p.u.cell? ⟨w.heap.size, 5, none⟩ = some (.slice ap np cp) := fun p => cell_kept p.h (Nat.le_refl _) (box6 HA.out HB4.out (Nat.le_refl _) rfl)
                    have t0 : ∀ p : BelowOf wr, p.u.cell? ⟨g, o + k * 4, none⟩ = some (.int .i64 op5) := fun p => cell_kept p.h (Nat.le_refl _) f0
                    have t1 : ∀ p : BelowOf wr, p.u.cell? ⟨g, o + k * 4 + 1, none⟩ = some (.int .i64 ya) := fun p => cell_kept p.h (Nat.le_refl _) f1
                    have t2 : ∀ p : BelowOf wr, p.u.cell? ⟨g, o + k * 4 + 2, none⟩ = some (.int .i64 yb) := fun p => cell_kept p.h (Nat.le_refl _) f2
                    have t3 : ∀ p : BelowOf wr, p.u.cell? ⟨g, o + k * 4 + 3, none⟩ = some (.int .i64 yc) := fun p => cell_kept p.h (Nat.le_refl _) f3
                    have hInh : Inhabited (BelowOf wr) := ⟨⟨wr, Below.refl _ _⟩⟩
                    generalize ordB ⟨xrg, j, nc, i, np⟩ ⟨op5, ya, yb, yc⟩ = zo at *
                    clear hl hok f0 f1 f2 f3
                    go_wp2_with fail
                    refine wp_region_below (by kernel_rfl) (by kernel_rfl) ?_
                    repeat (quiet_step (fail))
                    quiet_step ((go_at_call 90; exact below_of (HCA.out _)))
                    repeat (quiet_step (fail))
                    refine wpQuiet_nil ?_
                    intro wq hw'
                    obtain ⟨⟨w9, hwq⟩, hw''⟩ := hw'
                    subst hw''
                    have HBq : Hid (Below w0.heap.size w0 wq) := HB4.out.trans (hwq.mono HB4.out.size)
                    clear p0 p1 p2 p3 p4 p5 t0 t1 t2 t3 hwq HCA r3
                    cases zo with
                    | false =>
                      have HF : Hid (R = 1) := HT2.out rfl
                      go_wp2
                      go_ret
                      exact ⟨by rw [HF.out]; rfl, HB0.out.trans (HBq.out.mono HB0.out.size)⟩
                    | true =>
                      have HT3 : Hid ((cs.take (k + 1)).all (ordB ⟨xrg, j, nc, i, np⟩) = true) := HT1.out
                      go_wp2
                      go_roundw
                      case rel => first | exact ⟨k + 1, by omega, by go_num, HT3, HBq⟩ | exact ⟨_, _, _, _, _, _, _, _, _, _, _, _, _, _, _, _, _, ⟨k + 1, by omega, by go_num, HT3, HBq⟩, rfl⟩
                      case measure => simp [intOf]; omega
                  · have e : k = nc := by omega
                    have HF : Hid (R = 0) := by
                      have h1 := HJ.out
                      rw [List.take_of_length_le (by have := HN.out; omega)] at h1
                      show _ = _
                      rw [HR.out, HIN.out, HPR.out, HKS.out, HZE.out, h1, HTP.out, HFU.out]
                      simp
                    subst e
                    go_wp2
                    go_ret
                    exact ⟨by rw [HF.out]; rfl, HB4w.out⟩

end Go.Proofs.YtlfbjnbjnfmnlaaDoor
