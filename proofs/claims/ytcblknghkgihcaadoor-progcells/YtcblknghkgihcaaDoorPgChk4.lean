/-
  Layer 13: the landed isSound and findsUps, walked.
-/
import Derived.Test.YtcblknghkgihcaaDoorPgChk3
namespace Go.Proofs.YtcblknghkgihcaaDoor
set_option maxRecDepth 100000
open Go.RowKit Txt Pg Flo

namespace Pg
def Pr.lens : Pr → Lens
  | .mk _ rg us cs ks ps => ⟨rg, us.length, cs.length, ks.length, ps.length⟩
end Pg
def soundB (t : Pr) : Bool := inB t.pa 31 && decide (t.pa ≤ t.rg) && !(t.ks.any noC) && endB t.cs && t.cs.all (ordB t.lens)
/-- Six cells in a box, whatever has come since. -/
theorem box6 {w0 wr : World} {B g : Nat} {A : Array Value} (hA : ∀ j, w0.cell? ⟨g, j, none⟩ = A[j]?) (h : Below B w0 wr) (hB : w0.heap.size ≤ B) {j : Nat} {v : Value} (hv : A[j]? = some v) : wr.cell? ⟨g, j, none⟩ = some v :=
  cell_kept h hB ((hA j).trans hv)

set_option maxHeartbeats 4000000 in
theorem isSound_any (t : Pr) (x : Six) (w : World) (h : PR w t x) (hT : Ot w) :
    Calls Tryd.prog 39 #[x.v] w fun e w' => e = .returned (.bool (soundB t)) ∧ Below w.heap.size w w' := by
  obtain ⟨pa, rg, us, cs, ks, ps⟩ := t
  rw [PR_mk] at h
  obtain ⟨pa', rg', vu, vc, vk, vp⟩ := x
  simp only at h
  obtain ⟨rfl, rfl, hpa, hrg, hu, hc, hk, f, hp, -⟩ := h
  obtain ⟨au, cu, rfl, -, -, lu⟩ := hu.1.val
  obtain ⟨ac, cc, rfl, hcl, hcc, lc⟩ := hc.1.val
  obtain ⟨ak, ck, rfl, -, -, lk⟩ := hk.1.val
  obtain ⟨ap, cp, rfl, -, -, lp⟩ := hp.val
  have h00 := hT.1
  unfold Six.v
  simp only
  have HS : Hid (soundB (.mk pa' rg' us cs ks ps) = (inB pa' 31 && decide (pa' ≤ rg') && !(ks.any noC) && endB cs && cs.all (ordB ⟨rg', us.length, cs.length, ks.length, ps.length⟩))) := rfl
  rw [HS.out]
  clear HS hu hp
  obtain ⟨nu, hnu⟩ : ∃ n, n = us.length := ⟨_, rfl⟩
  obtain ⟨nc, hnc⟩ : ∃ n, n = cs.length := ⟨_, rfl⟩
  obtain ⟨nk, hnk⟩ : ∃ n, n = ks.length := ⟨_, rfl⟩
  obtain ⟨np, hnp⟩ : ∃ n, n = ps.length := ⟨_, rfl⟩
  have HSC : Hid (SI w (.slice ac nc cc) cs) := by rw [hnc]; exact hc
  have HSK : Hid (SV w (.slice ak nk ck) ks) := by rw [hnk]; exact hk
  have HNC : Hid (nc = cs.length) := hnc
  rw [← hnu, ← hnc, ← hnk, ← hnp]
  rw [← hnc] at hcl lc
  unfold far at lc
  clear hnu hnc hnk hnp lu lk lp hc hk
  obtain ⟨w0, hw0⟩ : ∃ w0, w0 = w.alloc (.cells #[.int .i64 pa', .int .i64 rg', .slice au nu cu, .slice ac nc cc, .slice ak nk ck, .slice ap np cp] 27) := ⟨_, rfl⟩
  have HB0 : Hid (Below w.heap.size w w0) := by rw [hw0]; exact (Below.refl _ w).alloc (Nat.le_refl _) _
  have HA0 : Hid (∀ j, w0.cell? ⟨w.heap.size, j, none⟩ = (#[.int .i64 pa', .int .i64 rg', .slice au nu cu, .slice ac nc cc, .slice ak nk ck, .slice ap np cp] : Array Value)[j]?) := by
    intro j
    rw [hw0, World.cell?_alloc_new]
  have hs0 : w0.heap.size = w.heap.size + 1 := by rw [hw0]; simp
  have HT0 : Hid (Ot w0) := hT.below HB0.out h00
  have hin := fun w => isIn_any pa' 31 w
  have q0 := HA0.out 0
  have q1 := HA0.out 1
  have q3 := HA0.out 3
  have q4 := HA0.out 4
  simp only [List.getElem?_toArray, List.getElem?_cons_zero, List.getElem?_cons_succ] at q0 q1 q3 q4
  have hcont := containsFunc_any ks _ w0 (HSK.out.kept HB0.out (Nat.le_refl _))
  have HIN : Hid (inB pa' 31 = true → 0 ≤ pa') := by intro e; unfold inB at e; simp at e; omega
  generalize inB pa' 31 = z1 at *
  generalize ks.any noC = z2 at *
  cases z1 with
  | false =>
    go_enter Tryd.func39, Tryd.ntmps39
    go_wp2_with fail
    rw [← hw0]
    clear hw0
    refine (hin _).mono ?_
    rintro e w1 ⟨rfl, rfl⟩
    go_wp2
    go_ret
    exact ⟨by simp, HB0.out⟩
  | true =>
    by_cases c1 : pa' > rg'
    · have hd : decide (pa' ≤ rg') = false := by simp; omega
      rw [hd]
      go_enter Tryd.func39, Tryd.ntmps39
      go_wp2_with fail
      rw [← hw0]
      clear hw0
      refine (hin _).mono ?_
      rintro e w1 ⟨rfl, rfl⟩
      go_wp2
      go_ret
      exact ⟨by simp, HB0.out⟩
    · have hd : decide (pa' ≤ rg') = true := by simp; omega
      rw [hd]
      have hrg0 : 0 ≤ rg' := by have := HIN.out rfl; omega
      go_enter Tryd.func39, Tryd.ntmps39
      go_wp2_with fail
      rw [← hw0]
      clear hw0
      refine (hin _).mono ?_
      rintro e w1 ⟨rfl, rfl⟩
      go_wp2_with fail
      refine hcont.mono ?_
      rintro e w2 ⟨rfl, hb2⟩
      have HB2 : Hid (Below w1.heap.size w1 w2) := hb2
      have HB2w : Hid (Below w.heap.size w w2) := HB0.out.trans (hb2.mono HB0.out.size)
      have q3' : w2.cell? ⟨w.heap.size, 3, none⟩ = some (.slice ac nc cc) := cell_kept hb2 (Nat.le_refl _) q3
      have hend := endsWell_any cs _ w2 (HSC.out.kept HB2w.out (Nat.le_refl _))
      clear hb2 hcont q0 q1 q3 q4
      obtain ⟨z3, HE⟩ : ∃ z, Hid (endB cs = z) := ⟨_, rfl⟩
      rw [HE.out] at hend
      cases z2 with
      | true =>
        go_wp2
        go_ret
        exact ⟨by simp, HB2w.out⟩
      | false =>
        go_wp2_with fail
        refine hend.mono ?_
        rintro e w3 ⟨rfl, hb3⟩
        have HB3 : Hid (Below w1.heap.size w1 w3) := HB2.out.trans (hb3.mono HB2.out.size)
        have HB3w : Hid (Below w.heap.size w w3) := HB2w.out.trans (hb3.mono HB2w.out.size)
        have q3'' : w3.cell? ⟨w.heap.size, 3, none⟩ = some (.slice ac nc cc) := cell_kept hb3 (Nat.le_refl _) q3'
        clear hb3 hend q3'
        cases z3 with
        | false =>
          go_wp2
          go_ret
          exact ⟨by rw [HE.out]; simp, HB3w.out⟩
        | true =>
          go_wp2_with fail
          go_loopw [28] (fun t28 wr => ∃ i : Nat, i ≤ nc ∧ t28 = .int .i64 i ∧ Hid ((cs.take i).all (ordB ⟨rg', nu, nc, nk, np⟩) = true) ∧ Hid (Below w1.heap.size w1 wr)) (fun t28 _ => nc - (intOf t28).toNat)
          case atStart => exact ⟨0, Nat.zero_le _, rfl, rfl, HB3⟩
          case round =>
            obtain ⟨i, hi, rfl, HA, HB⟩ := hrel
            have HBw : Hid (Below w.heap.size w wr) := HB0.out.trans (HB.out.mono HB0.out.size)
            by_cases c : i < nc
            · have i1 : i < cs.length := by rw [← HNC.out]; exact c
              obtain ⟨-, g, o, rfl, op, xa, xb, xc, hl, -, e0, e1, e2, e3⟩ := (HSC.out.kept HBw.out (Nat.le_refl _)).get i1
              have HT1 : Hid ((cs.take (i + 1)).all (ordB ⟨rg', nu, nc, nk, np⟩) = ordB ⟨rg', nu, nc, nk, np⟩ ⟨op, xa, xb, xc⟩) := by
                show _ = _
                rw [List.take_succ_eq_append_getElem i1, List.all_append, HA.out, hl]
                simp
              have HT2 : Hid (ordB ⟨rg', nu, nc, nk, np⟩ ⟨op, xa, xb, xc⟩ = false → cs.all (ordB ⟨rg', nu, nc, nk, np⟩) = false) := by
                intro e
                rw [Bool.eq_false_iff]
                intro e2
                have := List.all_eq_true.1 e2 _ (List.getElem_mem i1)
                rw [hl, e] at this
                cases this
              have HC : Hid (∀ w', Below w1.heap.size w1 w' → Calls Tryd.prog 64 #[.agg #[.int .i64 op, .int .i64 xa, .int .i64 xb, .int .i64 xc], .agg #[.int .i64 pa', .int .i64 rg', .slice au nu cu, .slice (some ⟨g, o, none⟩) nc cc, .slice ak nk ck, .slice ap np cp]] w' fun e w'' => e = .returned (.bool (ordB ⟨rg', nu, nc, nk, np⟩ ⟨op, xa, xb, xc⟩)) ∧ Below w'.heap.size w' w'') :=
                fun w' hb => isOrder_any op xa xb xc pa' rg' au _ ak ap nu cu nc cc nk ck np cp w' hrg0 hrg (HT0.out.below hb (by omega))
              have r0 : wr.cell? ⟨w.heap.size, 0, none⟩ = some (.int .i64 pa') := box6 HA0.out HB.out (Nat.le_refl _) rfl
              have r1 : wr.cell? ⟨w.heap.size, 1, none⟩ = some (.int .i64 rg') := box6 HA0.out HB.out (Nat.le_refl _) rfl
              have r2 : wr.cell? ⟨w.heap.size, 2, none⟩ = some (.slice au nu cu) := box6 HA0.out HB.out (Nat.le_refl _) rfl
              have r3 : wr.cell? ⟨w.heap.size, 3, none⟩ = some (.slice (some ⟨g, o, none⟩) nc cc) := box6 HA0.out HB.out (Nat.le_refl _) rfl
              have r4 : wr.cell? ⟨w.heap.size, 4, none⟩ = some (.slice ak nk ck) := box6 HA0.out HB.out (Nat.le_refl _) rfl
              have r5 : wr.cell? ⟨w.heap.size, 5, none⟩ = some (.slice ap np cp) := box6 HA0.out HB.out (Nat.le_refl _) rfl
              have hlt : w.heap.size < wr.heap.size := by have := HB.out.size; omega
              have HB5 : Hid (Below w1.heap.size w1 (wr.alloc (.cells #[.int .i64 op, .int .i64 xa, .int .i64 xb, .int .i64 xc] 58))) := HB.out.alloc HB.out.size _
              generalize ordB ⟨rg', nu, nc, nk, np⟩ ⟨op, xa, xb, xc⟩ = z at *
              clear hl q3''
              go_wp2_with fail
              refine (HC.out _ HB5.out).mono ?_
              rintro e w6 ⟨rfl, hb6⟩
              have HB6 : Hid (Below w1.heap.size w1 w6) := HB5.out.trans (hb6.mono HB5.out.size)
              have HB6w : Hid (Below w.heap.size w w6) := HB0.out.trans (HB6.out.mono HB0.out.size)
              clear hb6 r0 r1 r2 r3 r4 r5 e0 e1 e2 e3
              cases z with
              | false =>
                have HF : Hid (cs.all (ordB ⟨rg', nu, nc, nk, np⟩) = false) := HT2.out rfl
                clear HT2 HT1
                go_wp2
                go_ret
                exact ⟨by rw [HF.out]; simp, HB6w.out⟩
              | true =>
                clear HT2
                go_wp2
                go_roundw
                case rel => exact ⟨i + 1, by omega, by go_num, HT1, HB6⟩
                case measure => simp [intOf]; omega
            · have e : i = nc := by omega
              have HF : Hid (cs.all (ordB ⟨rg', nu, nc, nk, np⟩) = true) := by
                have := HA.out
                rw [List.take_of_length_le (by rw [← HNC.out]; omega)] at this
                exact this
              subst e
              go_wp2
              go_ret
              exact ⟨by rw [HF.out, HE.out]; simp, HBw.out⟩

/-- Whether each up is in a register of the function about it, or among its ups. -/
def findB (us : List Upp) (rg : Int) (nu : Nat) : Bool := us.all fun u => inB u.pl (if u.own then rg else nu)
set_option maxHeartbeats 4000000 in
theorem findsUps_any (us : List Upp) (pa rg : Int) (vu vc vk vp : Value) (pa' rg' : Int) (au : Option Addr) (nu cu : Nat) (vc' vk' vp' : Value) (w : World) (h : SU w vu us) :
    Calls Tryd.prog 65 #[.agg #[.int .i64 pa, .int .i64 rg, vu, vc, vk, vp], .agg #[.int .i64 pa', .int .i64 rg', .slice au nu cu, vc', vk', vp']] w fun e w' => e = .returned (.bool (findB us rg' nu)) ∧ Below w.heap.size w w' := by
  obtain ⟨a, cap, rfl, h1, h2, h3⟩ := h.1.val
  obtain ⟨n, hn⟩ : ∃ n, n = us.length := ⟨_, rfl⟩
  have HSU : Hid (SU w (.slice a n cap) us) := by rw [hn]; exact h
  have HN : Hid (n = us.length) := hn
  rw [← hn]
  rw [← hn] at h1 h3
  unfold far at h3
  clear hn h
  obtain ⟨w0, hw0⟩ : ∃ w0, w0 = (w.alloc (.cells #[.int .i64 pa, .int .i64 rg, .slice a n cap, vc, vk, vp] 27)).alloc (.cells #[.int .i64 pa', .int .i64 rg', .slice au nu cu, vc', vk', vp'] 27) := ⟨_, rfl⟩
  have HB0 : Hid (Below w.heap.size w w0) := by rw [hw0]; exact ((Below.refl _ w).alloc (Nat.le_refl _) _).alloc (by simp) _
  have hs0 : w0.heap.size = w.heap.size + 2 := by rw [hw0]; simp
  have B1 : w0.cell? ⟨w.heap.size + 1, 1, none⟩ = some (.int .i64 rg') := by rw [hw0, World.cell?_alloc_at _ _ _ _ (by simp)]; rfl
  have B2 : w0.cell? ⟨w.heap.size + 1, 2, none⟩ = some (.slice au nu cu) := by rw [hw0, World.cell?_alloc_at _ _ _ _ (by simp)]; rfl
  go_enter Tryd.func65, Tryd.ntmps65
  go_wp2_with fail
  rw [← hw0]
  clear hw0
  go_loopw [11] (fun t11 wr => ∃ i : Nat, i ≤ n ∧ t11 = .int .i64 i ∧ Hid (findB (us.take i) rg' nu = true) ∧ Hid (Below w0.heap.size w0 wr)) (fun t11 _ => n - (intOf t11).toNat)
  case atStart => exact ⟨0, Nat.zero_le _, rfl, rfl, Below.refl _ _⟩
  case round =>
    obtain ⟨i, hi, rfl, HA, HB⟩ := hrel
    have HBw : Hid (Below w.heap.size w wr) := HB0.out.trans (HB.out.mono HB0.out.size)
    by_cases c : i < n
    · have i1 : i < us.length := by rw [← HN.out]; exact c
      obtain ⟨-, g, o, rfl, own, pl, hl, -, e0, e1⟩ := (HSU.out.kept HBw.out (Nat.le_refl _)).get i1
      have HT1 : Hid (findB (us.take (i + 1)) rg' nu = inB pl (if own then rg' else nu)) := by
        show _ = _
        unfold findB
        rw [List.take_succ_eq_append_getElem i1, List.all_append]
        have := HA.out
        unfold findB at this
        rw [this, hl]
        simp
      have HT2 : Hid (inB pl (if own then rg' else nu) = false → findB us rg' nu = false) := by
        intro e
        rw [Bool.eq_false_iff]
        intro e2
        have := List.all_eq_true.1 e2 _ (List.getElem_mem i1)
        rw [hl] at this
        simp only at this
        rw [e] at this
        cases this
      have r1 : wr.cell? ⟨w.heap.size + 1, 1, none⟩ = some (.int .i64 rg') := cell_kept HB.out (Nat.le_refl _) B1
      have r2 : wr.cell? ⟨w.heap.size + 1, 2, none⟩ = some (.slice au nu cu) := cell_kept HB.out (Nat.le_refl _) B2
      have hlt : w.heap.size + 1 < wr.heap.size := by have := HB.out.size; omega
      have HB5 : Hid (Below w0.heap.size w0 (wr.alloc (.cells #[.bool own, .int .i64 pl] 54))) := HB.out.alloc HB.out.size _
      clear hl
      have hin : ∀ w, Calls Tryd.prog 60 #[.int .i64 pl, .int .i64 (if own then rg' else nu)] w fun e w' => e = .returned (.bool (inB pl (if own then rg' else nu))) ∧ w' = w := fun w => isIn_any pl _ w
      generalize inB pl (if own then rg' else nu) = z at HT1 HT2 hin
      cases own
      all_goals
        simp only [Bool.false_eq_true, if_false, if_true] at hin
        go_wp2_with fail
        refine (hin _).mono ?_
        rintro e w6 ⟨rfl, rfl⟩
        have HB6 : Hid (Below w0.heap.size w0 _) := HB5
        have HB6w : Hid (Below w.heap.size w _) := HB0.out.trans (HB6.out.mono HB0.out.size)
        clear hin r1 r2 e0 e1
        cases z with
        | false =>
          have HF : Hid (findB us rg' nu = false) := HT2.out rfl
          clear HT2 HT1
          go_wp2
          go_ret
          exact ⟨by rw [HF.out]; simp, HB6w.out⟩
        | true =>
          clear HT2
          go_wp2
          go_roundw
          case rel => exact ⟨i + 1, by omega, by go_num, HT1, HB6⟩
          case measure => simp [intOf]; omega
    · have e : i = n := by omega
      have HF : Hid (findB us rg' nu = true) := by
        have := HA.out
        rw [List.take_of_length_le (by rw [← HN.out]; omega)] at this
        exact this
      subst e
      go_wp2
      go_ret
      exact ⟨by rw [HF.out]; simp, HBw.out⟩

end Go.Proofs.YtcblknghkgihcaaDoor
