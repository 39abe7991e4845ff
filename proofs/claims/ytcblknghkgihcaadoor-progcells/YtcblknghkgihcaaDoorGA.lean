/-
  ProgStays: in a function that can be, from each order the machine goes on at one that there is, walked.
-/
import Derived.Test.YtcblknghkgihcaaDoorPgPrn1
import Derived.Test.YtcblknghkgihcaaDoorPgRow2
import Derived.Test.YtcblknghkgihcaaDoorTxtMath
import Derived.Test.YtcblknghkgihcaaDoorCdOwn
import Derived.Deep.RegionHeld3
import Derived.Deep.CutBlock
import Derived.Test.YtcblknghkgihcaaDoorPgLives
namespace Go.Proofs.YtcblknghkgihcaaDoor
set_option maxRecDepth 100000
open Go.RowKit Pg

namespace Pg
def Pr.cnt : Pr → Nat
  | .mk _ _ us cs ks ps => 1 + cs.length + ks.length + us.length + (ps.map Pr.cnt).sum
def pcnts (l : List Pr) : Nat := (l.map Pr.cnt).sum
theorem Pr.cnt_mk (pa rg : Int) (us : List Upp) (cs : List Ins) (ks : List Vl) (ps : List Pr) : (Pr.mk pa rg us cs ks ps).cnt = 1 + cs.length + ks.length + us.length + pcnts ps := by rw [Pr.cnt]; rfl
theorem pcnts_nil : pcnts [] = 0 := rfl
theorem pcnts_cons (t : Pr) (l : List Pr) : pcnts (t :: l) = t.cnt + pcnts l := by unfold pcnts; simp
def Pr.dep : Pr → Nat
  | .mk _ _ _ _ _ ps => (ps.map (fun t => t.dep + 1)).foldr max 0
def pdeps (l : List Pr) : Nat := (l.map (fun t => t.dep + 1)).foldr max 0
theorem Pr.dep_mk (pa rg : Int) (us : List Upp) (cs : List Ins) (ks : List Vl) (ps : List Pr) : (Pr.mk pa rg us cs ks ps).dep = pdeps ps := by rw [Pr.dep]; rfl
theorem pdeps_nil : pdeps [] = 0 := rfl
theorem pdeps_cons (t : Pr) (l : List Pr) : pdeps (t :: l) = max (t.dep + 1) (pdeps l) := rfl
theorem pcnts_append (l m : List Pr) : pcnts (l ++ m) = pcnts l + pcnts m := by
  induction l with
  | nil => simp [pcnts_nil]
  | cons t l ih => simp only [List.cons_append, pcnts_cons, ih]; omega
theorem pdeps_append (l m : List Pr) : pdeps (l ++ m) = max (pdeps l) (pdeps m) := by
  induction l with
  | nil => simp [pdeps_nil]
  | cons t l ih => simp only [List.cons_append, pdeps_cons, ih]; omega
theorem pcnts_take (l : List Pr) (i : Nat) (h : i < l.length) : pcnts (l.take (i + 1)) = pcnts (l.take i) + l[i].cnt := by
  rw [List.take_succ_eq_append_getElem h, pcnts_append]; simp [pcnts_cons, pcnts_nil]
theorem pdeps_take (l : List Pr) (i : Nat) (h : i < l.length) : pdeps (l.take (i + 1)) = max (pdeps (l.take i)) (l[i].dep + 1) := by
  rw [List.take_succ_eq_append_getElem h, pdeps_append]; simp [pdeps_cons, pdeps_nil]
theorem pcnt_pos (t : Pr) : 1 ≤ t.cnt := by cases t; rw [Pr.cnt_mk]; omega
theorem pcnts_get {l : List Pr} (i : Nat) (h : i < l.length) : l[i].cnt ≤ pcnts l := by
  have h1 := pcnts_take l i h
  have h2 := pcnts_append (l.take (i + 1)) (l.drop (i + 1))
  rw [List.take_append_drop] at h2
  omega
theorem pdeps_get : ∀ {l : List Pr} (i : Nat) (h : i < l.length), l[i].dep + 1 ≤ pdeps l
  | a :: l, 0, _ => by rw [pdeps_cons]; simp; omega
  | a :: l, i + 1, h => by
    have := pdeps_get (l := l) i (by simpa using h)
    rw [pdeps_cons]; simp; omega
theorem plen_cnts : ∀ l : List Pr, l.length ≤ pcnts l := by
  intro l
  induction l with
  | nil => simp [pcnts_nil]
  | cons t l ih => simp only [pcnts_cons, List.length_cons]; have := pcnt_pos t; omega
end Pg

/-- What Small tells. -/
def ToldP (t : Pr) (most : Int) (D : Nat) (n : Nat) (ok : Bool) : Prop := 1 ≤ n ∧ n ≤ (D + 1) * 1125899906842624 ∧ (ok = true → n = t.cnt ∧ t.dep + 1 ≤ D ∧ (n : Int) ≤ most)

set_option maxHeartbeats 4000000 in
theorem smallP_any : ∀ (D : Nat), D ≤ 201 → ∀ (t : Pr) (x : Six) (w : World) (most : Int), PR w t x → -(1125899906842624 * (202 - (D : Int))) ≤ most → most ≤ 3000 →
    Calls Tryd.prog 19 #[x.v, .int .i64 most, .int .i64 (201 - (D : Int))] w fun e w' => ∃ (n : Nat) (ok : Bool), e = .returned (.tuple #[.int .i64 n, .bool ok]) ∧ ToldP t most D n ok ∧ Below w.heap.size w w' := by
  intro D
  induction D with
  | zero =>
    intro _ t x w most h hm1 hm2
    obtain ⟨pa, rg, us, cs, ks, ps⟩ := t
    rw [PR_mk] at h
    obtain ⟨pa', rg', vu, vc, vk, vp⟩ := x
    simp only at h
    obtain ⟨rfl, rfl, hpa, hrg, hu, hc, hk, f, hp, -⟩ := h
    obtain ⟨au, cu, rfl, -, -, lu⟩ := hu.1.val
    obtain ⟨ac, cc, rfl, -, -, lc⟩ := hc.1.val
    obtain ⟨ak, ck, rfl, -, -, lk⟩ := hk.1.val
    obtain ⟨ap, cp, rfl, -, -, -⟩ := hp.val
    unfold far at lu lc lk
    unfold Six.v
    simp only
    clear hu hc hk hp
    generalize us.length = nu at *
    generalize cs.length = nc at *
    generalize ks.length = nk at *
    rw [show (201 : Int) - ((0 : Nat) : Int) = 201 by omega]
    go_enter Tryd.func19, Tryd.ntmps19
    go_wp2
    go_ret2
    exact ⟨1 + nc + nk + nu, false, by simp, ⟨by omega, by omega, by intro e; cases e⟩, (Below.refl _ _).alloc (Nat.le_refl _) _⟩
  | succ D ih =>
    intro hD t x w most h hm1 hm2
    obtain ⟨pa, rg, us, cs, ks, ps⟩ := t
    rw [PR_mk] at h
    obtain ⟨pa', rg', vu, vc, vk, vp⟩ := x
    simp only at h
    obtain ⟨rfl, rfl, hpa, hrg, hu, hc, hk, f, hp, hch⟩ := h
    obtain ⟨au, cu, rfl, -, -, lu⟩ := hu.1.val
    obtain ⟨ac, cc, rfl, -, -, lc⟩ := hc.1.val
    obtain ⟨ak, ck, rfl, -, -, lk⟩ := hk.1.val
    obtain ⟨ap, cp, rfl, hpl, hpc, lp⟩ := hp.val
    unfold far at lu lc lk lp
    unfold Six.v
    simp only
    have HI : Hid _ := ih
    have HCH := (show Hid (∀ i (h : i < ps.length), PR w ps[i] (f i)) from hch)
    obtain ⟨nu, hnu⟩ : ∃ n, n = us.length := ⟨_, rfl⟩
    obtain ⟨nc, hnc⟩ : ∃ n, n = cs.length := ⟨_, rfl⟩
    obtain ⟨nk, hnk⟩ : ∃ n, n = ks.length := ⟨_, rfl⟩
    obtain ⟨np, hnp⟩ : ∃ n, n = ps.length := ⟨_, rfl⟩
    have HN : Hid (nu = us.length ∧ nc = cs.length ∧ nk = ks.length ∧ np = ps.length) := ⟨hnu, hnc, hnk, hnp⟩
    have HSP : Hid (SL w (.slice ap np cp) ps.length 6 (fun i j u => u = (f i).at j)) := by rw [hnp]; exact hp
    rw [← hnu, ← hnc, ← hnk, ← hnp]
    rw [← hnu] at lu
    rw [← hnc] at lc
    rw [← hnk] at lk
    rw [← hnp] at lp hpl
    rw [show (201 : Int) - ((D + 1 : Nat) : Int) = 200 - (D : Int) by omega]
    have hd1 : ¬ (200 : Int) - (D : Int) > 200 := by omega
    clear hu hc hk hp hch ih hnu hnc hnk hnp
    obtain ⟨w0, hw0⟩ : ∃ w0, w0 = w.alloc (.cells #[.int .i64 pa', .int .i64 rg', .slice au nu cu, .slice ac nc cc, .slice ak nk ck, .slice ap np cp] 27) := ⟨_, rfl⟩
    have HB0 : Hid (Below w.heap.size w w0) := by rw [hw0]; exact (Below.refl _ w).alloc (Nat.le_refl _) _
    have HA5 : Hid (w0.cell? ⟨w.heap.size, 5, none⟩ = some (.slice ap np cp)) := by show _ = _; rw [hw0, World.cell?_alloc_new]; rfl
    obtain ⟨N0, hN0⟩ : ∃ N : Nat, N = 1 + nc + nk + nu := ⟨_, rfl⟩
    go_enter Tryd.func19, Tryd.ntmps19
    go_wp2_with fail
    rw [← hw0]
    clear hw0
    go_loopw [8, 9] (fun t8 t9 wr => ∃ (i m : Nat), i ≤ np ∧ t9 = .int .i64 i ∧ t8 = .int .i64 m ∧ m ≤ 1125899906842624 ∧ Hid (1 ≤ m ∧ m = 1 + nc + nk + nu + pcnts (ps.take i) ∧ pdeps (ps.take i) ≤ D ∧ (i = 0 ∨ (m : Int) ≤ most)) ∧ Hid (Below w0.heap.size w0 wr)) (fun _ t9 _ => np - (intOf t9).toNat)
    case atStart => exact ⟨0, N0, Nat.zero_le _, rfl, by rw [hN0]; simp, by omega, ⟨by omega, by rw [hN0]; simp [pcnts_nil], by simp [pdeps_nil], Or.inl rfl⟩, Below.refl _ _⟩
    case round =>
      obtain ⟨i, m, hi, rfl, rfl, hm, HC, HB⟩ := hrel
      have hbox : wr.cell? ⟨w.heap.size, 5, none⟩ = some (.slice ap np cp) := cell_kept HB.out (Nat.le_refl _) HA5.out
      have HBW : Hid (Below w.heap.size w wr) := HB0.out.trans (HB.out.mono HB0.out.size)
      clear hN0
      by_cases c : i < np
      · have i1 : i < ps.length := by have := HN.out; omega
        obtain ⟨-, g, o, rfl, e0, e1, e2, e3, e4, e5⟩ := SP.get (HSP.out.kept HBW.out (Nat.le_refl _)) i1
        have hcall := HI.out (by omega) ps[i] (f i) wr (most - (m : Int)) (PR.kept HBW.out (Nat.le_refl _) _ _ (HCH.out i i1)) (by have := HC.out; omega) (by omega)
        rw [show (201 : Int) - (D : Int) = 200 - (D : Int) + 1 by omega] at hcall
        unfold Six.v at hcall
        generalize f i = y at *
        obtain ⟨ypa, yrg, yu, yc, yk, yp⟩ := y
        simp only at e0 e1 e2 e3 e4 e5 hcall
        go_wp2_with fail
        refine hcall.mono ?_
        rintro e w2 ⟨m2, ok, rfl, hT, hb2⟩
        have HB2 : Hid (Below w.heap.size w w2) := HBW.out.trans (hb2.mono HBW.out.size)
        have HB3 : Hid (Below w0.heap.size w0 w2) := HB.out.trans (hb2.mono HB.out.size)
        obtain ⟨T1, T2, T3⟩ := hT
        have hm5 : m2 ≤ 203 * 1125899906842624 := by
          refine Nat.le_trans T2 (Nat.mul_le_mul_right _ (by omega))
        have HT : Hid (∀ t, ToldP t most (D + 1) (m + m2) false) := fun t => ⟨by omega, by rw [show (D + 1 + 1) * 1125899906842624 = (D + 1) * 1125899906842624 + 1125899906842624 by rw [Nat.add_mul]]; omega, by intro e; cases e⟩
        clear hb2 hcall e0 e1 e2 e3 e4 e5 T2
        cases ok with
        | false =>
          clear T3
          go_wp2
          go_ret2
          exact ⟨m + m2, false, by simp, HT.out _, HB2.out⟩
        | true =>
          have T4 := T3 rfl
          clear T3
          by_cases c2 : (m : Int) + (m2 : Int) > most
          · clear T4
            go_wp2
            go_ret2
            exact ⟨m + m2, false, by simp, HT.out _, HB2.out⟩
          · have HK : Hid (1 ≤ m + m2 ∧ m + m2 = 1 + nc + nk + nu + pcnts (ps.take (i + 1)) ∧ pdeps (ps.take (i + 1)) ≤ D ∧ (i + 1 = 0 ∨ ((m + m2 : Nat) : Int) ≤ most)) := by
              have := HC.out
              refine ⟨by omega, ?_, ?_, Or.inr (by omega)⟩
              · rw [pcnts_take ps i i1]; omega
              · rw [pdeps_take ps i i1]; omega
            clear T4
            go_wp2
            go_roundw
            case rel => exact ⟨i + 1, m + m2, by omega, by go_num, by go_num, by omega, HK, HB3⟩
            case measure => simp [intOf]; omega
      · have e : i = np := by omega
        have HE : Hid (1 ≤ m ∧ m = 1 + cs.length + ks.length + us.length + pcnts ps ∧ pdeps ps ≤ D) := by
          have := HC.out
          rw [List.take_of_length_le (by have := HN.out; omega)] at this
          obtain ⟨q1, q2, q3, q4⟩ := HN.out
          refine ⟨by omega, ?_, by omega⟩
          omega
        subst e
        by_cases c2 : (m : Int) ≤ most
        · go_wp2
          go_ret2
          refine ⟨m, true, by simp, ⟨HE.out.1, by omega, fun _ => ⟨by rw [Pr.cnt_mk]; exact HE.out.2.1, by rw [Pr.dep_mk]; have := HE.out.2.2; omega, c2⟩⟩, HBW.out⟩
        · go_wp2
          go_ret2
          exact ⟨m, Or.inl ⟨by simp, ⟨HE.out.1, by omega, by intro e; cases e⟩, HBW.out⟩⟩

set_option maxHeartbeats 1000000 in
theorem small_law (t : Pr) (x : Six) (w : World) (h : PR w t x) :
    Calls Tryd.prog 5 #[x.v] w fun e w' => ∃ ok : Bool, e = .returned (.bool ok) ∧ (ok = true → t.cnt ≤ 3000 ∧ t.dep ≤ 200) ∧ Below w.heap.size w w' := by
  have hs := smallP_any 201 (by omega) t x
  have HP := hide_p h
  have hforms : ∃ a1 n1 c1 a2 n2 c2 a3 n3 c3 a4 n4 c4, x.u = .slice a1 n1 c1 ∧ x.c = .slice a2 n2 c2 ∧ x.k = .slice a3 n3 c3 ∧ x.p = .slice a4 n4 c4 := by
    obtain ⟨qpa, qrg, qus, qcs, qks, qps⟩ := t
    rw [PR_mk] at h
    obtain ⟨-, -, -, -, hqu, hqc, hqk, f', hqp, -⟩ := h
    obtain ⟨a1, c1, h1, -⟩ := hqu.1.val
    obtain ⟨a2, c2, h2, -⟩ := hqc.1.val
    obtain ⟨a3, c3, h3, -⟩ := hqk.1.val
    obtain ⟨a4, c4, h4, -⟩ := hqp.val
    exact ⟨_, _, _, _, _, _, _, _, _, _, _, _, h1, h2, h3, h4⟩
  obtain ⟨pa, rg, vu, vc, vk, vp⟩ := x
  simp only at hforms
  obtain ⟨a1, n1, c1, a2, n2, c2, a3, n3, c3, a4, n4, c4, rfl, rfl, rfl, rfl⟩ := hforms
  clear h
  unfold Six.v
  simp only
  have hs1 := hs (w.alloc (.cells #[.int .i64 pa, .int .i64 rg, .slice a1 n1 c1, .slice a2 n2 c2, .slice a3 n3 c3, .slice a4 n4 c4] 27)) 3000 (PR.kept ((Below.refl _ _).alloc (Nat.le_refl _) _) (Nat.le_refl _) _ _ HP.out) (by omega) (by omega)
  unfold Six.v at hs1
  simp only at hs1
  rw [show (201 : Int) - ((201 : Nat) : Int) = 0 by omega] at hs1
  clear hs
  go_enter Tryd.func5, Tryd.ntmps5
  go_wp2_with fail
  refine hs1.mono ?_
  rintro e w1 ⟨n, ok, rfl, hT, hb⟩
  have HR : Hid (ok = true → t.cnt ≤ 3000 ∧ t.dep ≤ 200) := fun e => by have := hT.2.2 e; omega
  have HB : Hid (Below w.heap.size w w1) := ((Below.refl _ w).alloc (Nat.le_refl _) _).trans (hb.mono (by simp))
  clear hT hb hs1
  go_wp2
  go_ret
  exact ⟨ok, rfl, HR.out, HB.out⟩

end Go.Proofs.YtcblknghkgihcaaDoor
namespace Go.Proofs.YtcblknghkgihcaaDoor
set_option maxRecDepth 100000
open Go.RowKit Pg

theorem infoUp : (Tryd.prog.info? 54).map (fun i => (i.zero, i.size, i.bytes)) = some (some (.agg #[.bool false, .int .i64 0]), 2, 16) := by kernel_rfl
theorem infoIns : (Tryd.prog.info? 58).map (fun i => (i.zero, i.size, i.bytes)) = some (some (.agg #[.int .i64 0, .int .i64 0, .int .i64 0, .int .i64 0]), 4, 32) := by kernel_rfl
theorem infoVal : (Tryd.prog.info? 63).map (fun i => (i.zero, i.size, i.bytes)) = some (some (.agg #[.int .i64 0, .int .u64 0, .string ⟨#[]⟩, .int .i64 0]), 4, 40) := by kernel_rfl
theorem infoProto : (Tryd.prog.info? 27).map (fun i => (i.zero, i.size, i.bytes)) = some (some (.agg #[.int .i64 0, .int .i64 0, .slice none 0 0, .slice none 0 0, .slice none 0 0, .slice none 0 0]), 6, 112) := by kernel_rfl

theorem infoP : (Tryd.prog.info? 27).map (·.size) = some 6 := by kernel_rfl

set_option maxHeartbeats 16000000 in
theorem ownP_any : ∀ (t : Pr) (x : Six) (w : World), PR w t x → t.cnt ≤ 100000 →
    Calls Tryd.prog 8 #[x.v] w fun e w' => ∃ x' : Six, e = .returned x'.v ∧ PRS (fun b => w.heap.size ≤ b) w' t x' ∧ Below w.heap.size w w' := by
  refine Pr.ind' fun pa rg us cs ks ps ih => ?_
  intro x w h hcnt
  rw [PR_mk] at h
  obtain ⟨pa', rg', vu, vc, vk, vp⟩ := x
  simp only at h
  obtain ⟨rfl, rfl, hpa, hrg, hu, hc, hk, f, hp, hch⟩ := h
  obtain ⟨au, cu, rfl, hcu, hcu2, lu⟩ := hu.1.val
  obtain ⟨ac, cc, rfl, hcc, hcc2, lc⟩ := hc.1.val
  obtain ⟨ak, ck, rfl, hck, hck2, lk⟩ := hk.1.val
  obtain ⟨ap, cp, rfl, hpl, hpc, lp⟩ := hp.val
  rw [Pr.cnt_mk] at hcnt
  obtain ⟨iu0, iu1, iu2, iu3, iu4⟩ := info_parts infoUp
  obtain ⟨ic0, ic1, ic2, ic3, ic4⟩ := info_parts infoIns
  obtain ⟨ik0, ik1, ik2, ik3, ik4⟩ := info_parts infoVal
  obtain ⟨ip0, ip1, ip2, ip3, ip4⟩ := info_parts infoProto
  unfold Six.v
  simp only
  have HI : Hid _ := ih
  have HCH := (show Hid (∀ i (h : i < ps.length), PR w ps[i] (f i)) from hch)
  obtain ⟨nu, hnu⟩ : ∃ n, n = us.length := ⟨_, rfl⟩
  obtain ⟨nc, hnc⟩ : ∃ n, n = cs.length := ⟨_, rfl⟩
  obtain ⟨nk, hnk⟩ : ∃ n, n = ks.length := ⟨_, rfl⟩
  obtain ⟨np, hnp⟩ : ∃ n, n = ps.length := ⟨_, rfl⟩
  obtain ⟨xu, hxu⟩ : ∃ l, l = cellsF us.length 2 (uppC us) := ⟨_, rfl⟩
  obtain ⟨xc, hxc⟩ : ∃ l, l = cellsF cs.length 4 (insC cs) := ⟨_, rfl⟩
  obtain ⟨xk, hxk⟩ : ∃ l, l = cellsF ks.length 4 (vlC ks) := ⟨_, rfl⟩
  have HXS : Hid (xu = cellsF us.length 2 (uppC us) ∧ xc = cellsF cs.length 4 (insC cs) ∧ xk = cellsF ks.length 4 (vlC ks)) := ⟨hxu, hxc, hxk⟩
  have HN : Hid (nu = us.length ∧ nc = cs.length ∧ nk = ks.length ∧ np = ps.length) := ⟨hnu, hnc, hnk, hnp⟩
  have HSP : Hid (SL w (.slice ap np cp) ps.length 6 (fun i j u => u = (f i).at j)) := by rw [hnp]; exact hp
  have HSU0 : Hid (SU w (.slice au nu cu) us) := by rw [hnu]; exact hu
  have HSC0 : Hid (SI w (.slice ac nc cc) cs) := by rw [hnc]; exact hc
  have HSK0 : Hid (SV w (.slice ak nk ck) ks) := by rw [hnk]; exact hk
  have HCN : Hid (pcnts ps ≤ 100000) := by show _ ≤ _; omega
  have hl1 : us.length ≤ 100000 := by omega
  have hl2 : cs.length ≤ 100000 := by omega
  have hl3 : ks.length ≤ 100000 := by omega
  have hl4 : ps.length ≤ 100000 := by have := plen_cnts ps; omega
  rw [← hnu, ← hnc, ← hnk, ← hnp]
  rw [← hnu] at hl1
  rw [← hnc] at hl2
  rw [← hnk] at hl3
  rw [← hnp] at hl4
  clear hu hc hk hp hch ih hnu hnc hnk hnp hxu hxc hxk lu lc lk lp hcnt hcu hcu2 hcc hcc2 hck hck2 hpl hpc
  obtain ⟨bx, hbx⟩ : ∃ bx, bx = w.heap.size := ⟨_, rfl⟩
  obtain ⟨wq, hwq⟩ : ∃ wq, wq = (w.alloc (.cells #[.int .i64 pa', .int .i64 rg', .slice au nu cu, .slice ac nc cc, .slice ak nk ck, .slice ap np cp] 27)).alloc (.cells #[.int .i64 0, .int .i64 0, .slice none 0 0, .slice none 0 0, .slice none 0 0, .slice none 0 0] 27) := ⟨_, rfl⟩
  have hsq : wq.heap.size = bx + 2 := by rw [hwq, hbx]; simp
  have HBq : Hid (Below w.heap.size w wq) := by rw [hwq]; exact ((Below.refl _ _).alloc (Nat.le_refl _) _).alloc (by simp) _
  have HK1 : Hid (wq.heap[bx]? = some (.cells #[.int .i64 pa', .int .i64 rg', .slice au nu cu, .slice ac nc cc, .slice ak nk ck, .slice ap np cp] 27 (0, 0))) := by
    show _ = _
    rw [hwq, hbx, Below.heap_alloc _ _ _ (by simp)]
    exact heap_alloc_new w _
  have HK2 : Hid (wq.heap[bx + 1]? = some (.cells #[.int .i64 0, .int .i64 0, .slice none 0 0, .slice none 0 0, .slice none 0 0, .slice none 0 0] 27 (0, 0))) := by
    show _ = _
    rw [hwq, hbx]
    have := heap_alloc_new (w.alloc (.cells #[.int .i64 pa', .int .i64 rg', .slice au nu cu, .slice ac nc cc, .slice ak nk ck, .slice ap np cp] 27)) (.cells #[.int .i64 0, .int .i64 0, .slice none 0 0, .slice none 0 0, .slice none 0 0, .slice none 0 0] 27)
    simpa using this
  have HBK : Hid (∀ w', Kb bx wq w' → Below w.heap.size w w') := fun w' hk => HBq.out.trans (hk.below (by omega) (by omega))
  have HSU : Hid (∀ w', Kb bx wq w' → Src w' 2 (.slice au nu cu) nu xu) := fun w' hk => by
    have := (HSU0.out.kept (HBK.out w' hk) (Nat.le_refl _)).src
    rw [HXS.out.1, ← HN.out.1]; rw [← HN.out.1] at this; exact this
  have HSC : Hid (∀ w', Kb bx wq w' → Src w' 4 (.slice ac nc cc) nc xc) := fun w' hk => by
    have := (HSC0.out.kept (HBK.out w' hk) (Nat.le_refl _)).src
    rw [HXS.out.2.1, ← HN.out.2.1]; rw [← HN.out.2.1] at this; exact this
  have HSK : Hid (∀ w', Kb bx wq w' → Src w' 4 (.slice ak nk ck) nk xk) := fun w' hk => by
    have := (HSK0.out.kept (HBK.out w' hk) (Nat.le_refl _)).src
    rw [HXS.out.2.2, ← HN.out.2.2.1]; rw [← HN.out.2.2.1] at this; exact this
  have HS0 : Hid (OwS 27 54 58 63 wq wq.drew bx wq.heap.size (.int .i64 pa') (.int .i64 rg') (.slice ap np cp) nu nc nk xu xc xk (.slice au nu cu) (.slice ac nc cc) (.slice ak nk ck) undef undef undef undef undef undef false false false false false false false false false) :=
    ⟨Kb.of_below (Below.refl _ _).drew, Nat.le_refl _, by decide, HK1.out, ⟨(fun q => by cases q), (fun q => by cases q)⟩, ⟨(fun q => by cases q), (fun q => by cases q)⟩, ⟨(fun q => by cases q), (fun q => by cases q)⟩⟩
  go_enter Tryd.func8, Tryd.ntmps8
  go_upto_region 1 with fail
  rw [← hwq]
  rw [← hbx]
  have HBX := hide_p hbx
  clear hwq hbx
  go_cut [5] (fun t5 wx => ∃ v5 v8 v9 v12 v13 v16, Hid (OwS 27 54 58 63 wq wx bx wq.heap.size (.int .i64 pa') (.int .i64 rg') (.slice ap np cp) nu nc nk xu xc xk (.slice au nu cu) (.slice ac nc cc) (.slice ak nk ck) v5 v8 v9 v12 v13 v16 true true true true true true true true true))
  case first =>
    refine wp_region_inv2 (by kernel_rfl) [5, 6, 7, 8, 9, 10, 11, 12, 13, 14, 15, 16, 17, 18, 19] (fun L vs w' => ∃ v5 v6 v7 v8 v9 v10 v11 v12 v13 v14 v15 v16 v17 v18 v19, vs = [v5, v6, v7, v8, v9, v10, v11, v12, v13, v14, v15, v16, v17, v18, v19] ∧ (L 1 = true → v6 = .pointer (some ⟨bx, 2, none⟩)) ∧ (L 2 = true → v7 = .slice au nu cu) ∧ (L 5 = true → v10 = .pointer (some ⟨bx, 3, none⟩)) ∧ (L 6 = true → v11 = .slice ac nc cc) ∧ (L 9 = true → v14 = .pointer (some ⟨bx, 4, none⟩)) ∧ (L 10 = true → v15 = .slice ak nk ck) ∧ (L 12 = true → v17 = .pointer (some ⟨bx, 2, none⟩)) ∧ (L 14 = true → v18 = .pointer (some ⟨bx, 3, none⟩)) ∧ (L 16 = true → v19 = .pointer (some ⟨bx, 4, none⟩)) ∧ (L 3 = true → L 0 = true ∧ L 2 = true) ∧ (L 7 = true → L 4 = true ∧ L 6 = true ∧ L 3 = true) ∧ (L 11 = true → L 8 = true ∧ L 10 = true ∧ L 7 = true) ∧ (L 13 = true → L 12 = true ∧ L 11 = true) ∧ (L 15 = true → L 14 = true ∧ L 13 = true) ∧ (L 17 = true → L 16 = true ∧ L 15 = true) ∧ Hid (OwS 27 54 58 63 wq w' bx wq.heap.size (.int .i64 pa') (.int .i64 rg') (.slice ap np cp) nu nc nk xu xc xk (.slice au nu cu) (.slice ac nc cc) (.slice ak nk ck) v5 v8 v9 v12 v13 v16 (L 0) (L 3) (L 4) (L 7) (L 8) (L 11) (L 13) (L 15) (L 17))) (by kernel_rfl) (by decide) (by simp) ?_ ⟨?_, ?_, ?_, ?_, ?_, ?_, ?_, ?_, ?_, ?_, ?_, ?_, ?_, ?_, ?_, ?_, ?_, ?_, trivial⟩ ?_
    · exact ⟨_, _, _, _, _, _, _, _, _, _, _, _, _, _, _, rfl, fun q => by (cases q), fun q => by (cases q), fun q => by (cases q), fun q => by (cases q), fun q => by (cases q), fun q => by (cases q), fun q => by (cases q), fun q => by (cases q), fun q => by (cases q), fun q => by (cases q), fun q => by (cases q), fun q => by (cases q), fun q => by (cases q), fun q => by (cases q), fun q => by (cases q), HS0.out⟩
    · rintro A L vs w' F G ⟨v5, v6, v7, v8, v9, v10, v11, v12, v13, v14, v15, v16, v17, v18, v19, rfl, d1, d2, d5, d6, d9, d10, d12, d14, d16, m3, m7, m11, m13, m15, m17, HW⟩ hL hdep K' hK hK0
      have hn : L 3 = false := not_yet hL (fun q => (m3 q).1)
      have hw := HW.out
      rw [hn] at hw
      have HW2 := hide_p hw.made0
      have HW3 : Hid (OwS 27 54 58 63 wq (w'.alloc (.cells #[] 54)) bx wq.heap.size (.int .i64 pa') (.int .i64 rg') (.slice ap np cp) nu nc nk xu xc xk (.slice au nu cu) (.slice ac nc cc) (.slice ak nk ck) (.slice (some ⟨w'.heap.size, 0, none⟩) 0 0) v8 v9 v12 v13 v16 (Later L 0 0) (Later L 0 3) (Later L 0 4) (Later L 0 7) (Later L 0 8) (Later L 0 11) (Later L 0 13) (Later L 0 15) (Later L 0 17)) := by rw [show Later L 0 3 = false from hn]; exact HW2.out
      clear F G hw HW HW2
      go_simp
      refine hK 0 5 _ _ rfl ⟨_, _, _, _, _, _, _, _, _, _, _, _, _, _, _, rfl, d1, d2, d5, d6, d9, d10, d12, d14, d16, (fun q => ⟨laterT (m3 q).1, laterT (m3 q).2⟩), (fun q => ⟨laterT (m7 q).1, laterT (m7 q).2.1, laterT (m7 q).2.2⟩), (fun q => ⟨laterT (m11 q).1, laterT (m11 q).2.1, laterT (m11 q).2.2⟩), (fun q => ⟨laterT (m13 q).1, laterT (m13 q).2⟩), (fun q => ⟨laterT (m15 q).1, laterT (m15 q).2⟩), (fun q => ⟨laterT (m17 q).1, laterT (m17 q).2⟩), HW3⟩
    · rintro A L vs w' F G ⟨v5, v6, v7, v8, v9, v10, v11, v12, v13, v14, v15, v16, v17, v18, v19, rfl, d1, d2, d5, d6, d9, d10, d12, d14, d16, m3, m7, m11, m13, m15, m17, HW⟩ hL hdep K' hK hK0
      have g1 : A.tmps[1]?.getD undef = .pointer (some ⟨bx, 0, none⟩) := evT ((G 1 (by decide)).trans rfl)
      clear F G
      go_simp
      refine hK 1 6 _ w' rfl ⟨_, _, _, _, _, _, _, _, _, _, _, _, _, _, _, rfl, (fun _ => rfl), d2, d5, d6, d9, d10, d12, d14, d16, (fun q => ⟨laterT (m3 q).1, laterT (m3 q).2⟩), (fun q => ⟨laterT (m7 q).1, laterT (m7 q).2.1, laterT (m7 q).2.2⟩), (fun q => ⟨laterT (m11 q).1, laterT (m11 q).2.1, laterT (m11 q).2.2⟩), (fun q => ⟨laterT (m13 q).1, laterT (m13 q).2⟩), (fun q => ⟨laterT (m15 q).1, laterT (m15 q).2⟩), (fun q => ⟨laterT (m17 q).1, laterT (m17 q).2⟩), HW⟩
    · rintro A L vs w' F G ⟨v5, v6, v7, v8, v9, v10, v11, v12, v13, v14, v15, v16, v17, v18, v19, rfl, d1, d2, d5, d6, d9, d10, d12, d14, d16, m3, m7, m11, m13, m15, m17, HW⟩ hL hdep K' hK hK0
      have p1 : L 1 = true := hdep { on := 1, ground := Ground.data } (by simp) rfl
      have hn : L 13 = false := not_yet hL (fun q => (m3 (m7 (m11 (m13 q).2).2.2).2.2).2)
      have cc : w'.cell? ⟨bx, 2, none⟩ = some (.slice au nu cu) := HW.out.cell (by rw [hn]; rfl)
      have q := d1 p1
      subst q
      have gg := evT (F 1 6 _ rfl rfl)
      clear F G
      go_simp
      refine hK 2 7 _ w' rfl ⟨_, _, _, _, _, _, _, _, _, _, _, _, _, _, _, rfl, (fun _ => rfl), (fun _ => rfl), d5, d6, d9, d10, d12, d14, d16, (fun q => ⟨laterT (m3 q).1, laterT (m3 q).2⟩), (fun q => ⟨laterT (m7 q).1, laterT (m7 q).2.1, laterT (m7 q).2.2⟩), (fun q => ⟨laterT (m11 q).1, laterT (m11 q).2.1, laterT (m11 q).2.2⟩), (fun q => ⟨laterT (m13 q).1, laterT (m13 q).2⟩), (fun q => ⟨laterT (m15 q).1, laterT (m15 q).2⟩), (fun q => ⟨laterT (m17 q).1, laterT (m17 q).2⟩), HW⟩
    · rintro A L vs w' F G ⟨v5, v6, v7, v8, v9, v10, v11, v12, v13, v14, v15, v16, v17, v18, v19, rfl, d1, d2, d5, d6, d9, d10, d12, d14, d16, m3, m7, m11, m13, m15, m17, HW⟩ hL hdep K' hK hK0
      have p0 : L 0 = true := hdep { on := 0, ground := Ground.data } (by simp) rfl
      have p2 : L 2 = true := hdep { on := 2, ground := Ground.data } (by simp) rfl
      have hn : L 13 = false := not_yet hL (fun q => (m7 (m11 (m13 q).2).2.2).2.2)
      have hw := HW.out
      rw [hL, p0, hn] at hw
      have hrow := hw.ru.1 rfl rfl
      have hB := hw.kb.size
      have q := d2 p2
      subst q
      refine step_append_src w' rfl (.tmp 5) (.tmp 7) 22 rfl wq.heap.size 54 iu0 _ 2 16 Tryd.underlying22 iu1 iu2 iu3 iu4 rfl (by decide) v5 0 [] (F 0 5 _ rfl rfl) hrow (.slice au nu cu) nu xu (F 2 7 _ rfl rfl) (HSU.out w' hw.kb) (by unfold maxLen; omega) (by omega) hB ?_
      intro a' c' w2 q1 q2 q3
      rw [Nat.zero_add, List.nil_append] at q1
      rw [Nat.zero_add] at ⊢
      have HW2 := hide_p (hw.app3 (Nat.le_refl _) q1 q2)
      have HW3 : Hid (OwS 27 54 58 63 wq w2 bx wq.heap.size (.int .i64 pa') (.int .i64 rg') (.slice ap np cp) nu nc nk xu xc xk (.slice au nu cu) (.slice ac nc cc) (.slice ak nk ck) v5 (.slice a' nu c') v9 v12 v13 v16 (Later L 3 0) (Later L 3 3) (Later L 3 4) (Later L 3 7) (Later L 3 8) (Later L 3 11) (Later L 3 13) (Later L 3 15) (Later L 3 17)) := by rw [show Later L 3 0 = true from p0, show Later L 3 13 = false from hn]; exact HW2.out
      clear hw hrow q1 q2 q3
      refine hK 3 8 _ w2 rfl ⟨_, _, _, _, _, _, _, _, _, _, _, _, _, _, _, rfl, d1, (fun _ => rfl), d5, d6, d9, d10, d12, d14, d16, (fun _ => ⟨laterT p0, laterT p2⟩), (fun q => ⟨laterT (m7 q).1, laterT (m7 q).2.1, laterT (m7 q).2.2⟩), (fun q => ⟨laterT (m11 q).1, laterT (m11 q).2.1, laterT (m11 q).2.2⟩), (fun q => ⟨laterT (m13 q).1, laterT (m13 q).2⟩), (fun q => ⟨laterT (m15 q).1, laterT (m15 q).2⟩), (fun q => ⟨laterT (m17 q).1, laterT (m17 q).2⟩), HW3⟩
    · rintro A L vs w' F G ⟨v5, v6, v7, v8, v9, v10, v11, v12, v13, v14, v15, v16, v17, v18, v19, rfl, d1, d2, d5, d6, d9, d10, d12, d14, d16, m3, m7, m11, m13, m15, m17, HW⟩ hL hdep K' hK hK0
      have hn : L 7 = false := not_yet hL (fun q => (m7 q).1)
      have hw := HW.out
      rw [hn] at hw
      have HW2 := hide_p hw.made4
      have HW3 : Hid (OwS 27 54 58 63 wq (w'.alloc (.cells #[] 58)) bx wq.heap.size (.int .i64 pa') (.int .i64 rg') (.slice ap np cp) nu nc nk xu xc xk (.slice au nu cu) (.slice ac nc cc) (.slice ak nk ck) v5 v8 (.slice (some ⟨w'.heap.size, 0, none⟩) 0 0) v12 v13 v16 (Later L 4 0) (Later L 4 3) (Later L 4 4) (Later L 4 7) (Later L 4 8) (Later L 4 11) (Later L 4 13) (Later L 4 15) (Later L 4 17)) := by rw [show Later L 4 7 = false from hn]; exact HW2.out
      clear F G hw HW HW2
      go_simp
      refine hK 4 9 _ _ rfl ⟨_, _, _, _, _, _, _, _, _, _, _, _, _, _, _, rfl, d1, d2, d5, d6, d9, d10, d12, d14, d16, (fun q => ⟨laterT (m3 q).1, laterT (m3 q).2⟩), (fun q => ⟨laterT (m7 q).1, laterT (m7 q).2.1, laterT (m7 q).2.2⟩), (fun q => ⟨laterT (m11 q).1, laterT (m11 q).2.1, laterT (m11 q).2.2⟩), (fun q => ⟨laterT (m13 q).1, laterT (m13 q).2⟩), (fun q => ⟨laterT (m15 q).1, laterT (m15 q).2⟩), (fun q => ⟨laterT (m17 q).1, laterT (m17 q).2⟩), HW3⟩
    · rintro A L vs w' F G ⟨v5, v6, v7, v8, v9, v10, v11, v12, v13, v14, v15, v16, v17, v18, v19, rfl, d1, d2, d5, d6, d9, d10, d12, d14, d16, m3, m7, m11, m13, m15, m17, HW⟩ hL hdep K' hK hK0
      have g1 : A.tmps[1]?.getD undef = .pointer (some ⟨bx, 0, none⟩) := evT ((G 1 (by decide)).trans rfl)
      clear F G
      go_simp
      refine hK 5 10 _ w' rfl ⟨_, _, _, _, _, _, _, _, _, _, _, _, _, _, _, rfl, d1, d2, (fun _ => rfl), d6, d9, d10, d12, d14, d16, (fun q => ⟨laterT (m3 q).1, laterT (m3 q).2⟩), (fun q => ⟨laterT (m7 q).1, laterT (m7 q).2.1, laterT (m7 q).2.2⟩), (fun q => ⟨laterT (m11 q).1, laterT (m11 q).2.1, laterT (m11 q).2.2⟩), (fun q => ⟨laterT (m13 q).1, laterT (m13 q).2⟩), (fun q => ⟨laterT (m15 q).1, laterT (m15 q).2⟩), (fun q => ⟨laterT (m17 q).1, laterT (m17 q).2⟩), HW⟩
    · rintro A L vs w' F G ⟨v5, v6, v7, v8, v9, v10, v11, v12, v13, v14, v15, v16, v17, v18, v19, rfl, d1, d2, d5, d6, d9, d10, d12, d14, d16, m3, m7, m11, m13, m15, m17, HW⟩ hL hdep K' hK hK0
      have p5 : L 5 = true := hdep { on := 5, ground := Ground.data } (by simp) rfl
      have hn : L 15 = false := not_yet hL (fun q => (m7 (m11 (m13 (m15 q).2).2).2.2).2.1)
      have cc : w'.cell? ⟨bx, 3, none⟩ = some (.slice ac nc cc) := HW.out.cell (by rw [hn]; rfl)
      have q := d5 p5
      subst q
      have gg := evT (F 5 10 _ rfl rfl)
      clear F G
      go_simp
      refine hK 6 11 _ w' rfl ⟨_, _, _, _, _, _, _, _, _, _, _, _, _, _, _, rfl, d1, d2, (fun _ => rfl), (fun _ => rfl), d9, d10, d12, d14, d16, (fun q => ⟨laterT (m3 q).1, laterT (m3 q).2⟩), (fun q => ⟨laterT (m7 q).1, laterT (m7 q).2.1, laterT (m7 q).2.2⟩), (fun q => ⟨laterT (m11 q).1, laterT (m11 q).2.1, laterT (m11 q).2.2⟩), (fun q => ⟨laterT (m13 q).1, laterT (m13 q).2⟩), (fun q => ⟨laterT (m15 q).1, laterT (m15 q).2⟩), (fun q => ⟨laterT (m17 q).1, laterT (m17 q).2⟩), HW⟩
    · rintro A L vs w' F G ⟨v5, v6, v7, v8, v9, v10, v11, v12, v13, v14, v15, v16, v17, v18, v19, rfl, d1, d2, d5, d6, d9, d10, d12, d14, d16, m3, m7, m11, m13, m15, m17, HW⟩ hL hdep K' hK hK0
      have p4 : L 4 = true := hdep { on := 4, ground := Ground.data } (by simp) rfl
      have p6 : L 6 = true := hdep { on := 6, ground := Ground.data } (by simp) rfl
      have p3 : L 3 = true := hdep { on := 3, ground := Ground.chain } (by simp) rfl
      have hn : L 15 = false := not_yet hL (fun q => (m11 (m13 (m15 q).2).2).2.2)
      have hw := HW.out
      rw [hL, p4, hn] at hw
      have hrow := hw.rc.1 rfl rfl
      have hB := hw.kb.size
      have q := d6 p6
      subst q
      refine step_append_src w' rfl (.tmp 9) (.tmp 11) 23 rfl wq.heap.size 58 ic0 _ 4 32 Tryd.underlying23 ic1 ic2 ic3 ic4 rfl (by decide) v9 0 [] (F 4 9 _ rfl rfl) hrow (.slice ac nc cc) nc xc (F 6 11 _ rfl rfl) (HSC.out w' hw.kb) (by unfold maxLen; omega) (by omega) hB ?_
      intro a' c' w2 q1 q2 q3
      rw [Nat.zero_add, List.nil_append] at q1
      rw [Nat.zero_add] at ⊢
      have HW2 := hide_p (hw.app7 (Nat.le_refl _) q1 q2)
      have HW3 : Hid (OwS 27 54 58 63 wq w2 bx wq.heap.size (.int .i64 pa') (.int .i64 rg') (.slice ap np cp) nu nc nk xu xc xk (.slice au nu cu) (.slice ac nc cc) (.slice ak nk ck) v5 v8 v9 (.slice a' nc c') v13 v16 (Later L 7 0) (Later L 7 3) (Later L 7 4) (Later L 7 7) (Later L 7 8) (Later L 7 11) (Later L 7 13) (Later L 7 15) (Later L 7 17)) := by rw [show Later L 7 4 = true from p4, show Later L 7 15 = false from hn]; exact HW2.out
      clear hw hrow q1 q2 q3
      refine hK 7 12 _ w2 rfl ⟨_, _, _, _, _, _, _, _, _, _, _, _, _, _, _, rfl, d1, d2, d5, (fun _ => rfl), d9, d10, d12, d14, d16, (fun q => ⟨laterT (m3 q).1, laterT (m3 q).2⟩), (fun _ => ⟨laterT p4, laterT p6, laterT p3⟩), (fun q => ⟨laterT (m11 q).1, laterT (m11 q).2.1, laterT (m11 q).2.2⟩), (fun q => ⟨laterT (m13 q).1, laterT (m13 q).2⟩), (fun q => ⟨laterT (m15 q).1, laterT (m15 q).2⟩), (fun q => ⟨laterT (m17 q).1, laterT (m17 q).2⟩), HW3⟩
    · rintro A L vs w' F G ⟨v5, v6, v7, v8, v9, v10, v11, v12, v13, v14, v15, v16, v17, v18, v19, rfl, d1, d2, d5, d6, d9, d10, d12, d14, d16, m3, m7, m11, m13, m15, m17, HW⟩ hL hdep K' hK hK0
      have hn : L 11 = false := not_yet hL (fun q => (m11 q).1)
      have hw := HW.out
      rw [hn] at hw
      have HW2 := hide_p hw.made8
      have HW3 : Hid (OwS 27 54 58 63 wq (w'.alloc (.cells #[] 63)) bx wq.heap.size (.int .i64 pa') (.int .i64 rg') (.slice ap np cp) nu nc nk xu xc xk (.slice au nu cu) (.slice ac nc cc) (.slice ak nk ck) v5 v8 v9 v12 (.slice (some ⟨w'.heap.size, 0, none⟩) 0 0) v16 (Later L 8 0) (Later L 8 3) (Later L 8 4) (Later L 8 7) (Later L 8 8) (Later L 8 11) (Later L 8 13) (Later L 8 15) (Later L 8 17)) := by rw [show Later L 8 11 = false from hn]; exact HW2.out
      clear F G hw HW HW2
      go_simp
      refine hK 8 13 _ _ rfl ⟨_, _, _, _, _, _, _, _, _, _, _, _, _, _, _, rfl, d1, d2, d5, d6, d9, d10, d12, d14, d16, (fun q => ⟨laterT (m3 q).1, laterT (m3 q).2⟩), (fun q => ⟨laterT (m7 q).1, laterT (m7 q).2.1, laterT (m7 q).2.2⟩), (fun q => ⟨laterT (m11 q).1, laterT (m11 q).2.1, laterT (m11 q).2.2⟩), (fun q => ⟨laterT (m13 q).1, laterT (m13 q).2⟩), (fun q => ⟨laterT (m15 q).1, laterT (m15 q).2⟩), (fun q => ⟨laterT (m17 q).1, laterT (m17 q).2⟩), HW3⟩
    · rintro A L vs w' F G ⟨v5, v6, v7, v8, v9, v10, v11, v12, v13, v14, v15, v16, v17, v18, v19, rfl, d1, d2, d5, d6, d9, d10, d12, d14, d16, m3, m7, m11, m13, m15, m17, HW⟩ hL hdep K' hK hK0
      have g1 : A.tmps[1]?.getD undef = .pointer (some ⟨bx, 0, none⟩) := evT ((G 1 (by decide)).trans rfl)
      clear F G
      go_simp
      refine hK 9 14 _ w' rfl ⟨_, _, _, _, _, _, _, _, _, _, _, _, _, _, _, rfl, d1, d2, d5, d6, (fun _ => rfl), d10, d12, d14, d16, (fun q => ⟨laterT (m3 q).1, laterT (m3 q).2⟩), (fun q => ⟨laterT (m7 q).1, laterT (m7 q).2.1, laterT (m7 q).2.2⟩), (fun q => ⟨laterT (m11 q).1, laterT (m11 q).2.1, laterT (m11 q).2.2⟩), (fun q => ⟨laterT (m13 q).1, laterT (m13 q).2⟩), (fun q => ⟨laterT (m15 q).1, laterT (m15 q).2⟩), (fun q => ⟨laterT (m17 q).1, laterT (m17 q).2⟩), HW⟩
    · rintro A L vs w' F G ⟨v5, v6, v7, v8, v9, v10, v11, v12, v13, v14, v15, v16, v17, v18, v19, rfl, d1, d2, d5, d6, d9, d10, d12, d14, d16, m3, m7, m11, m13, m15, m17, HW⟩ hL hdep K' hK hK0
      have p9 : L 9 = true := hdep { on := 9, ground := Ground.data } (by simp) rfl
      have hn : L 17 = false := not_yet hL (fun q => (m11 (m13 (m15 (m17 q).2).2).2).2.1)
      have cc : w'.cell? ⟨bx, 4, none⟩ = some (.slice ak nk ck) := HW.out.cell (by rw [hn]; rfl)
      have q := d9 p9
      subst q
      have gg := evT (F 9 14 _ rfl rfl)
      clear F G
      go_simp
      refine hK 10 15 _ w' rfl ⟨_, _, _, _, _, _, _, _, _, _, _, _, _, _, _, rfl, d1, d2, d5, d6, (fun _ => rfl), (fun _ => rfl), d12, d14, d16, (fun q => ⟨laterT (m3 q).1, laterT (m3 q).2⟩), (fun q => ⟨laterT (m7 q).1, laterT (m7 q).2.1, laterT (m7 q).2.2⟩), (fun q => ⟨laterT (m11 q).1, laterT (m11 q).2.1, laterT (m11 q).2.2⟩), (fun q => ⟨laterT (m13 q).1, laterT (m13 q).2⟩), (fun q => ⟨laterT (m15 q).1, laterT (m15 q).2⟩), (fun q => ⟨laterT (m17 q).1, laterT (m17 q).2⟩), HW⟩
    · rintro A L vs w' F G ⟨v5, v6, v7, v8, v9, v10, v11, v12, v13, v14, v15, v16, v17, v18, v19, rfl, d1, d2, d5, d6, d9, d10, d12, d14, d16, m3, m7, m11, m13, m15, m17, HW⟩ hL hdep K' hK hK0
      have p8 : L 8 = true := hdep { on := 8, ground := Ground.data } (by simp) rfl
      have p10 : L 10 = true := hdep { on := 10, ground := Ground.data } (by simp) rfl
      have p7 : L 7 = true := hdep { on := 7, ground := Ground.chain } (by simp) rfl
      have hn : L 17 = false := not_yet hL (fun q => (m13 (m15 (m17 q).2).2).2)
      have hw := HW.out
      rw [hL, p8, hn] at hw
      have hrow := hw.rk.1 rfl rfl
      have hB := hw.kb.size
      have q := d10 p10
      subst q
      refine step_append_src w' rfl (.tmp 13) (.tmp 15) 24 rfl wq.heap.size 63 ik0 _ 4 40 Tryd.underlying24 ik1 ik2 ik3 ik4 rfl (by decide) v13 0 [] (F 8 13 _ rfl rfl) hrow (.slice ak nk ck) nk xk (F 10 15 _ rfl rfl) (HSK.out w' hw.kb) (by unfold maxLen; omega) (by omega) hB ?_
      intro a' c' w2 q1 q2 q3
      rw [Nat.zero_add, List.nil_append] at q1
      rw [Nat.zero_add] at ⊢
      have HW2 := hide_p (hw.app11 (Nat.le_refl _) q1 q2)
      have HW3 : Hid (OwS 27 54 58 63 wq w2 bx wq.heap.size (.int .i64 pa') (.int .i64 rg') (.slice ap np cp) nu nc nk xu xc xk (.slice au nu cu) (.slice ac nc cc) (.slice ak nk ck) v5 v8 v9 v12 v13 (.slice a' nk c') (Later L 11 0) (Later L 11 3) (Later L 11 4) (Later L 11 7) (Later L 11 8) (Later L 11 11) (Later L 11 13) (Later L 11 15) (Later L 11 17)) := by rw [show Later L 11 8 = true from p8, show Later L 11 17 = false from hn]; exact HW2.out
      clear hw hrow q1 q2 q3
      refine hK 11 16 _ w2 rfl ⟨_, _, _, _, _, _, _, _, _, _, _, _, _, _, _, rfl, d1, d2, d5, d6, d9, (fun _ => rfl), d12, d14, d16, (fun q => ⟨laterT (m3 q).1, laterT (m3 q).2⟩), (fun q => ⟨laterT (m7 q).1, laterT (m7 q).2.1, laterT (m7 q).2.2⟩), (fun _ => ⟨laterT p8, laterT p10, laterT p7⟩), (fun q => ⟨laterT (m13 q).1, laterT (m13 q).2⟩), (fun q => ⟨laterT (m15 q).1, laterT (m15 q).2⟩), (fun q => ⟨laterT (m17 q).1, laterT (m17 q).2⟩), HW3⟩
    · rintro A L vs w' F G ⟨v5, v6, v7, v8, v9, v10, v11, v12, v13, v14, v15, v16, v17, v18, v19, rfl, d1, d2, d5, d6, d9, d10, d12, d14, d16, m3, m7, m11, m13, m15, m17, HW⟩ hL hdep K' hK hK0
      have g1 : A.tmps[1]?.getD undef = .pointer (some ⟨bx, 0, none⟩) := evT ((G 1 (by decide)).trans rfl)
      clear F G
      go_simp
      refine hK 12 17 _ w' rfl ⟨_, _, _, _, _, _, _, _, _, _, _, _, _, _, _, rfl, d1, d2, d5, d6, d9, d10, (fun _ => rfl), d14, d16, (fun q => ⟨laterT (m3 q).1, laterT (m3 q).2⟩), (fun q => ⟨laterT (m7 q).1, laterT (m7 q).2.1, laterT (m7 q).2.2⟩), (fun q => ⟨laterT (m11 q).1, laterT (m11 q).2.1, laterT (m11 q).2.2⟩), (fun q => ⟨laterT (m13 q).1, laterT (m13 q).2⟩), (fun q => ⟨laterT (m15 q).1, laterT (m15 q).2⟩), (fun q => ⟨laterT (m17 q).1, laterT (m17 q).2⟩), HW⟩
    · rintro A L vs w' F G ⟨v5, v6, v7, v8, v9, v10, v11, v12, v13, v14, v15, v16, v17, v18, v19, rfl, d1, d2, d5, d6, d9, d10, d12, d14, d16, m3, m7, m11, m13, m15, m17, HW⟩ hL hdep K' hK hK0
      have p12 : L 12 = true := hdep { on := 12, ground := Ground.data } (by simp) rfl
      have p3 : L 3 = true := hdep { on := 3, ground := Ground.data } (by simp) rfl
      have p11 : L 11 = true := hdep { on := 11, ground := Ground.chain } (by simp) rfl
      have hw := HW.out
      rw [hL] at hw
      obtain ⟨ax, cx, ex⟩ := owns_form (hw.ru.2 p3)
      subst ex
      have cc := hw.cell (j := 2) rfl
      have fz := hw.fz 2
      have HW2 := hide_p hw.st13
      have q := d12 p12
      subst q
      have gg := evT (F 12 17 _ rfl rfl)
      have gv := evT (F 3 8 _ rfl rfl)
      simp only [Bool.false_eq_true, if_false] at cc
      clear F G hw HW
      go_simp
      refine hK0 _ ⟨_, _, _, _, _, _, _, _, _, _, _, _, _, _, _, rfl, d1, d2, d5, d6, d9, d10, (fun _ => rfl), d14, d16, (fun q => ⟨laterT (m3 q).1, laterT (m3 q).2⟩), (fun q => ⟨laterT (m7 q).1, laterT (m7 q).2.1, laterT (m7 q).2.2⟩), (fun q => ⟨laterT (m11 q).1, laterT (m11 q).2.1, laterT (m11 q).2.2⟩), (fun _ => ⟨laterT p12, laterT p11⟩), (fun q => ⟨laterT (m15 q).1, laterT (m15 q).2⟩), (fun q => ⟨laterT (m17 q).1, laterT (m17 q).2⟩), HW2⟩
    · rintro A L vs w' F G ⟨v5, v6, v7, v8, v9, v10, v11, v12, v13, v14, v15, v16, v17, v18, v19, rfl, d1, d2, d5, d6, d9, d10, d12, d14, d16, m3, m7, m11, m13, m15, m17, HW⟩ hL hdep K' hK hK0
      have g1 : A.tmps[1]?.getD undef = .pointer (some ⟨bx, 0, none⟩) := evT ((G 1 (by decide)).trans rfl)
      clear F G
      go_simp
      refine hK 13 18 _ w' rfl ⟨_, _, _, _, _, _, _, _, _, _, _, _, _, _, _, rfl, d1, d2, d5, d6, d9, d10, d12, (fun _ => rfl), d16, (fun q => ⟨laterT (m3 q).1, laterT (m3 q).2⟩), (fun q => ⟨laterT (m7 q).1, laterT (m7 q).2.1, laterT (m7 q).2.2⟩), (fun q => ⟨laterT (m11 q).1, laterT (m11 q).2.1, laterT (m11 q).2.2⟩), (fun q => ⟨laterT (m13 q).1, laterT (m13 q).2⟩), (fun q => ⟨laterT (m15 q).1, laterT (m15 q).2⟩), (fun q => ⟨laterT (m17 q).1, laterT (m17 q).2⟩), HW⟩
    · rintro A L vs w' F G ⟨v5, v6, v7, v8, v9, v10, v11, v12, v13, v14, v15, v16, v17, v18, v19, rfl, d1, d2, d5, d6, d9, d10, d12, d14, d16, m3, m7, m11, m13, m15, m17, HW⟩ hL hdep K' hK hK0
      have p14 : L 14 = true := hdep { on := 14, ground := Ground.data } (by simp) rfl
      have p7 : L 7 = true := hdep { on := 7, ground := Ground.data } (by simp) rfl
      have p13 : L 13 = true := hdep { on := 13, ground := Ground.chain } (by simp) rfl
      have hw := HW.out
      rw [hL] at hw
      obtain ⟨ax, cx, ex⟩ := owns_form (hw.rc.2 p7)
      subst ex
      have cc := hw.cell (j := 3) rfl
      have fz := hw.fz 3
      have HW2 := hide_p hw.st15
      have q := d14 p14
      subst q
      have gg := evT (F 13 18 _ rfl rfl)
      have gv := evT (F 7 12 _ rfl rfl)
      simp only [Bool.false_eq_true, if_false] at cc
      clear F G hw HW
      go_simp
      refine hK0 _ ⟨_, _, _, _, _, _, _, _, _, _, _, _, _, _, _, rfl, d1, d2, d5, d6, d9, d10, d12, (fun _ => rfl), d16, (fun q => ⟨laterT (m3 q).1, laterT (m3 q).2⟩), (fun q => ⟨laterT (m7 q).1, laterT (m7 q).2.1, laterT (m7 q).2.2⟩), (fun q => ⟨laterT (m11 q).1, laterT (m11 q).2.1, laterT (m11 q).2.2⟩), (fun q => ⟨laterT (m13 q).1, laterT (m13 q).2⟩), (fun _ => ⟨laterT p14, laterT p13⟩), (fun q => ⟨laterT (m17 q).1, laterT (m17 q).2⟩), HW2⟩
    · rintro A L vs w' F G ⟨v5, v6, v7, v8, v9, v10, v11, v12, v13, v14, v15, v16, v17, v18, v19, rfl, d1, d2, d5, d6, d9, d10, d12, d14, d16, m3, m7, m11, m13, m15, m17, HW⟩ hL hdep K' hK hK0
      have g1 : A.tmps[1]?.getD undef = .pointer (some ⟨bx, 0, none⟩) := evT ((G 1 (by decide)).trans rfl)
      clear F G
      go_simp
      refine hK 14 19 _ w' rfl ⟨_, _, _, _, _, _, _, _, _, _, _, _, _, _, _, rfl, d1, d2, d5, d6, d9, d10, d12, d14, (fun _ => rfl), (fun q => ⟨laterT (m3 q).1, laterT (m3 q).2⟩), (fun q => ⟨laterT (m7 q).1, laterT (m7 q).2.1, laterT (m7 q).2.2⟩), (fun q => ⟨laterT (m11 q).1, laterT (m11 q).2.1, laterT (m11 q).2.2⟩), (fun q => ⟨laterT (m13 q).1, laterT (m13 q).2⟩), (fun q => ⟨laterT (m15 q).1, laterT (m15 q).2⟩), (fun q => ⟨laterT (m17 q).1, laterT (m17 q).2⟩), HW⟩
    · rintro A L vs w' F G ⟨v5, v6, v7, v8, v9, v10, v11, v12, v13, v14, v15, v16, v17, v18, v19, rfl, d1, d2, d5, d6, d9, d10, d12, d14, d16, m3, m7, m11, m13, m15, m17, HW⟩ hL hdep K' hK hK0
      have p16 : L 16 = true := hdep { on := 16, ground := Ground.data } (by simp) rfl
      have p11 : L 11 = true := hdep { on := 11, ground := Ground.data } (by simp) rfl
      have p15 : L 15 = true := hdep { on := 15, ground := Ground.chain } (by simp) rfl
      have hw := HW.out
      rw [hL] at hw
      obtain ⟨ax, cx, ex⟩ := owns_form (hw.rk.2 p11)
      subst ex
      have cc := hw.cell (j := 4) rfl
      have fz := hw.fz 4
      have HW2 := hide_p hw.st17
      have q := d16 p16
      subst q
      have gg := evT (F 14 19 _ rfl rfl)
      have gv := evT (F 11 16 _ rfl rfl)
      simp only [Bool.false_eq_true, if_false] at cc
      clear F G hw HW
      go_simp
      refine hK0 _ ⟨_, _, _, _, _, _, _, _, _, _, _, _, _, _, _, rfl, d1, d2, d5, d6, d9, d10, d12, d14, (fun _ => rfl), (fun q => ⟨laterT (m3 q).1, laterT (m3 q).2⟩), (fun q => ⟨laterT (m7 q).1, laterT (m7 q).2.1, laterT (m7 q).2.2⟩), (fun q => ⟨laterT (m11 q).1, laterT (m11 q).2.1, laterT (m11 q).2.2⟩), (fun q => ⟨laterT (m13 q).1, laterT (m13 q).2⟩), (fun q => ⟨laterT (m15 q).1, laterT (m15 q).2⟩), (fun _ => ⟨laterT p16, laterT p15⟩), HW2⟩
    · rintro L vs w' hall ⟨v5, v6, v7, v8, v9, v10, v11, v12, v13, v14, v15, v16, v17, v18, v19, rfl, d1, d2, d5, d6, d9, d10, d12, d14, d16, m3, m7, m11, m13, m15, m17, HW⟩
      have hw := HW.out
      rw [hall 0 (by decide), hall 3 (by decide), hall 4 (by decide), hall 7 (by decide), hall 8 (by decide), hall 11 (by decide), hall 13 (by decide), hall 15 (by decide), hall 17 (by decide)] at hw
      have HE := hide_p hw
      clear d1 d2 d5 d6 d9 d10 d12 d14 d16 m3 m7 m11 m13 m15 m17 HW hw
      simp only [puts]
      go_simp
      go_step
      go_meet
      exact ⟨_, _, _, _, _, _, HE⟩
  case rest =>
    obtain ⟨v5, v8, v9, v12, v13, v16, HO⟩ := hcut
    have hbxc := HO.out.lt
    have hszc := HO.out.kb.size
    obtain ⟨B2, hB2⟩ : ∃ B2, B2 = wc.heap.size := ⟨_, rfl⟩
    have HB2 := hide_p hB2
    have hb2 : bx + 2 ≤ B2 := by omega
    have HWc : Hid (Below w.heap.size w wc) := HBK.out wc HO.out.kb
    have HR0 : Hid (PW 27 (wc.alloc (.cells #[] 27)) B2 (.slice (some ⟨wc.heap.size, 0, none⟩) 0 0) (ps.take 0) f) := by
      refine PW.nil _ ?_
      rw [hB2]
      exact World.ownsRow_made wc #[] 0 (Nat.le_refl _) (by unfold maxLen; omega) (by simp)
    have HB0 : Hid (Below B2 wc (wc.alloc (.cells #[] 27))) := by rw [hB2]; exact (Below.refl _ _).alloc (Nat.le_refl _) _
    clear hszc hB2
    go_wp2_with fail
    go_loopw [3, 4] (fun t3 t4 wr => ∃ (i : Nat) (y : Nat → Six), i ≤ np ∧ t4 = .int .i64 i ∧ Hid (PW 27 wr B2 t3 (ps.take i) y) ∧ Hid (Below B2 wc wr)) (fun _ t4 _ => np - (intOf t4).toNat)
    case atStart => exact ⟨0, f, Nat.zero_le _, rfl, HR0, HB0⟩
    case round =>
      obtain ⟨i, y, hi, rfl, HP, HB⟩ := hrel
      have HBW : Hid (Below w.heap.size w wr) := HWc.out.trans (HB.out.mono (by have := HBX.out; omega))
      have b5 : wr.cell? ⟨bx, 5, none⟩ = some (.slice ap np cp) := (HB.out.cell (p := ⟨bx, 5, none⟩) (by show bx < B2; omega)).trans (HO.out.cell rfl)
      have hszr : B2 ≤ wr.heap.size := by have := HB.out.size; rw [HB2.out]; exact this
      have hlen : (ps.take i).length = i := by rw [List.length_take]; have := HN.out; omega
      by_cases c : i < np
      · have i1 : i < ps.length := by have := HN.out; omega
        obtain ⟨-, g, o, rfl, e0, e1, e2, e3, e4, e5⟩ := SP.get (HSP.out.kept HBW.out (Nat.le_refl _)) i1
        have hcall := HI.out ps[i] (List.getElem_mem i1) (f i) wr (PR.kept HBW.out (Nat.le_refl _) _ _ (HCH.out i i1)) (by have := pcnts_get i i1; have := HCN.out; omega)
        unfold Six.v at hcall
        generalize f i = z at *
        obtain ⟨ypa, yrg, yu, yc, yk, yp⟩ := z
        simp only at e0 e1 e2 e3 e4 e5 hcall
        have HLEN := hide_p hlen
        clear hlen
        go_wp2_with fail
        refine hcall.mono ?_
        rintro e w2 ⟨x', rfl, hprs, hbw2⟩
        obtain ⟨a1, n1, c1, a2, n2, c2, a3, n3, c3, a4, n4, c4, h1, h2, h3, h4⟩ := six_form hprs
        obtain ⟨xpa, xrg, xu', xc', xk', xp'⟩ := x'
        simp only at h1 h2 h3 h4
        subst h1 h2 h3 h4
        have hs2 := hbw2.size
        have HPW2 : Hid (PW 27 (w2.alloc (.cells #[.int .i64 xpa, .int .i64 xrg, .slice a1 n1 c1, .slice a2 n2 c2, .slice a3 n3 c3, .slice a4 n4 c4] 27)) B2 u3 (ps.take i) y) := (HP.out.below hbw2).below ((Below.refl _ _).alloc (Nat.le_refl _) _)
        have HX2 : Hid (PRS (fun b => B2 ≤ b ∧ some b ≠ u3.ownBlock) (w2.alloc (.cells #[.int .i64 xpa, .int .i64 xrg, .slice a1 n1 c1, .slice a2 n2 c2, .slice a3 n3 c3, .slice a4 n4 c4] 27)) ps[i] ⟨xpa, xrg, .slice a1 n1 c1, .slice a2 n2 c2, .slice a3 n3 c3, .slice a4 n4 c4⟩) := by
          refine PRS.below ((Below.refl _ _).alloc (Nat.le_refl _) _) (Nat.le_refl _) _ _ (PRS.widen (fun b hb => ⟨by omega, fun e => ?_⟩) _ _ hprs)
          have := (HP.out.own.lt b e.symm).2
          omega
        have HB3 : Hid (Below B2 wc (w2.alloc (.cells #[.int .i64 xpa, .int .i64 xrg, .slice a1 n1 c1, .slice a2 n2 c2, .slice a3 n3 c3, .slice a4 n4 c4] 27))) := (HB.out.trans (hbw2.mono hszr)).alloc (by omega) _
        have hown : (w2.alloc (.cells #[.int .i64 xpa, .int .i64 xrg, .slice a1 n1 c1, .slice a2 n2 c2, .slice a3 n3 c3, .slice a4 n4 c4] 27)).ownsRow B2 27 6 u3 i (cellsF i 6 (sixC y)) := by
          have := HPW2.out.own
          rw [HLEN.out] at this
          exact this
        have hsrc : Src (w2.alloc (.cells #[.int .i64 xpa, .int .i64 xrg, .slice a1 n1 c1, .slice a2 n2 c2, .slice a3 n3 c3, .slice a4 n4 c4] 27)) 6 (.slice (some ⟨w2.heap.size, 0, none⟩) 1 1) 1 (cellsF 1 6 (sixC fun _ => ⟨xpa, xrg, .slice a1 n1 c1, .slice a2 n2 c2, .slice a3 n3 c3, .slice a4 n4 c4⟩)) := by
          have e6 : cellsF 1 6 (sixC fun _ => ⟨xpa, xrg, .slice a1 n1 c1, .slice a2 n2 c2, .slice a3 n3 c3, .slice a4 n4 c4⟩) = [.int .i64 xpa, .int .i64 xrg, .slice a1 n1 c1, .slice a2 n2 c2, .slice a3 n3 c3, .slice a4 n4 c4] := rfl
          rw [e6]
          refine Or.inr ⟨⟨w2.heap.size, 0, none⟩, 1, rfl, rfl, fun j u hu => ?_, fun u hu => ?_⟩
          · rw [addr_add, Nat.zero_add, World.cell?_alloc_new]
            simpa using hu
          · simp only [List.mem_cons, List.not_mem_nil, or_false] at hu
            rcases hu with rfl | rfl | rfl | rfl | rfl | rfl <;> rfl
        have HSN : Hid (∀ (w4 : World) (a' : Option Addr) (c' : Nat), w4.ownsRow B2 27 6 (.slice a' (i + 1) c') (i + 1) (cellsF i 6 (sixC y) ++ cellsF 1 6 (sixC fun _ => ⟨xpa, xrg, .slice a1 n1 c1, .slice a2 n2 c2, .slice a3 n3 c3, .slice a4 n4 c4⟩)) → (w2.alloc (.cells #[.int .i64 xpa, .int .i64 xrg, .slice a1 n1 c1, .slice a2 n2 c2, .slice a3 n3 c3, .slice a4 n4 c4] 27)).grownBy w4 u3.ownBlock → ((Value.slice a' (i + 1) c').ownBlock = u3.ownBlock ∨ (Value.slice a' (i + 1) c').ownBlock = some (w2.alloc (.cells #[.int .i64 xpa, .int .i64 xrg, .slice a1 n1 c1, .slice a2 n2 c2, .slice a3 n3 c3, .slice a4 n4 c4] 27)).heap.size) → ∃ y', PW 27 w4 B2 (.slice a' (i + 1) c') (ps.take (i + 1)) y') := by
          intro w4 a' c' q1 q2 q3
          have := HPW2.out.snoc (a' := a') (c' := c') HX2.out (by rw [HLEN.out]; exact q1) q2 (by rw [HLEN.out]; exact q3)
          rw [HLEN.out, ← List.take_succ_eq_append_getElem i1] at this
          exact ⟨_, this⟩
        clear hprs hbw2 hcall e0 e1 e2 e3 e4 e5
        go_wp2_with (at_builtin; refine wpList_append_src _ rfl _ _ 25 rfl B2 27 ip0 _ 6 112 Tryd.underlying25 ip1 ip2 ip3 ip4 rfl (by decide) _ i _ rfl hown _ 1 _ rfl hsrc (by unfold maxLen; omega) (by omega) (by simp; omega) ?_)
        intro a' c' w4 q1 q2 q3
        have HPW4 := hide_p (HSN.out w4 a' c' q1 q2 (by simpa using q3))
        have HB4 : Hid (Below B2 wc w4) := HB3.out.grown q2 (by simp; omega) (fun k hk => (hown.lt k hk).1)
        clear q1 q2 q3 hown hsrc HSN HPW2 HX2 HB3
        obtain ⟨y', hy'⟩ := HPW4.out
        have HPW5 := hide_p hy'
        clear hy' HPW4
        go_wp2
        go_roundw
        case rel => exact ⟨i + 1, y', by omega, by go_num, HPW5, HB4⟩
        case measure => simp [intOf]; omega
      · have e : i = np := by omega
        have HT : Hid (ps.take i = ps) := List.take_of_length_le (by have := HN.out; omega)
        subst e
        have hpw := HP.out
        rw [HT.out] at hpw
        have hw : Below wc.heap.size wc wr := by rw [← HB2.out]; exact HB.out
        have ru := own_below (HO.out.ru.2 rfl) hw
        have rc := own_below (HO.out.rc.2 rfl) hw
        have rk := own_below (HO.out.rk.2 rfl) hw
        obtain ⟨a8, c8, rfl⟩ := owns_form ru
        obtain ⟨a12, c12, rfl⟩ := owns_form rc
        obtain ⟨a16, c16, rfl⟩ := owns_form rk
        obtain ⟨a3, c3, e3⟩ : ∃ a3 c3, u3 = .slice a3 i c3 := by
          have := owns_form hpw.own
          rw [← HN.out.2.2.2] at this
          exact this
        subst e3
        have hblk : wr.heap[bx]? = some (.cells #[.int .i64 pa', .int .i64 rg', .slice a8 nu c8, .slice a12 nc c12, .slice a16 nk c16, .slice ap i cp] 27 (0, 0)) := (HB.out.block bx (by omega)).trans HO.out.blk
        have hblk2 : wr.heap[bx + 1]? = some (.cells #[.int .i64 0, .int .i64 0, .slice none 0 0, .slice none 0 0, .slice none 0 0, .slice none 0 0] 27 (0, 0)) := (HB.out.block (bx + 1) (by omega)).trans ((HO.out.kb.block (bx + 1) (by omega) (by omega)).trans HK2.out)
        have hprs : PRS (fun k => bx + 2 ≤ k) wr (.mk pa' rg' us cs ks ps) ⟨pa', rg', .slice a8 nu c8, .slice a12 nc c12, .slice a16 nk c16, .slice a3 i c3⟩ := by
          have hxs := HXS.out
          have hns := HN.out
          rw [PRS_mk]
          refine ⟨rfl, rfl, hpa, hrg, ⟨⟨?_, HSU0.out.2⟩, (InB.own ru).widen (fun b hb => by omega)⟩, ⟨⟨?_, HSC0.out.2⟩, (InB.own rc).widen (fun b hb => by omega)⟩, ⟨⟨?_, HSK0.out.2⟩, (InB.own rk).widen (fun b hb => by omega)⟩, y, ⟨?_, (InB.own hpw.own).widen (fun b hb => by omega)⟩, fun j hj => PRS.widen (fun b hb => by omega) _ _ (hpw.kid j hj)⟩
          · rw [hxs.1, hns.1] at ru
            show SL wr (.slice a8 nu c8) us.length 2 (uppF us)
            rw [hns.1]
            exact SL.of_owns ru (by unfold far; omega) (fun i j hi hj => uppC_F j hi)
          · rw [hxs.2.1, hns.2.1] at rc
            show SL wr (.slice a12 nc c12) cs.length 4 (insF cs)
            rw [hns.2.1]
            exact SL.of_owns rc (by unfold far; omega) (fun i j hi hj => insC_F j hi)
          · rw [hxs.2.2, hns.2.2.1] at rk
            show SL wr (.slice a16 nk c16) ks.length 4 (vlF ks)
            rw [hns.2.2.1]
            exact SL.of_owns rk (by unfold far; omega) (fun i j hi hj => vlC_F j hi)
          · exact hpw.sl (by unfold far; omega)
        have HKK : Hid (∀ W : World, W = ((((((wr.setCell ⟨bx, 5, none⟩ (.slice a3 i c3)).setCell ⟨bx + 1, 0, none⟩ (.int .i64 pa')).setCell ⟨bx + 1, 1, none⟩ (.int .i64 rg')).setCell ⟨bx + 1, 2, none⟩ (.slice a8 nu c8)).setCell ⟨bx + 1, 3, none⟩ (.slice a12 nc c12)).setCell ⟨bx + 1, 4, none⟩ (.slice a16 nk c16)).setCell ⟨bx + 1, 5, none⟩ (.slice a3 i c3) →
            W.heap[bx + 1]? = some (.cells #[.int .i64 pa', .int .i64 rg', .slice a8 nu c8, .slice a12 nc c12, .slice a16 nk c16, .slice a3 i c3] 27 (0, 0)) ∧ PRS (fun k => w.heap.size ≤ k) W (.mk pa' rg' us cs ks ps) ⟨pa', rg', .slice a8 nu c8, .slice a12 nc c12, .slice a16 nk c16, .slice a3 i c3⟩ ∧ Below w.heap.size w W) := by
          intro W hW
          subst hW
          have hbxw := HBX.out
          refine ⟨?_, ?_, ?_⟩
          · have z0 := (heap_setCell_other wr ⟨bx, 5, none⟩ (bx + 1) (.slice a3 i c3) (by simp)).trans hblk2
            have z1 := heap_setCell_same _ _ 0 _ _ (.int .i64 pa') z0
            have z2 := heap_setCell_same _ _ 1 _ _ (.int .i64 rg') z1
            have z3 := heap_setCell_same _ _ 2 _ _ (.slice a8 nu c8) z2
            have z4 := heap_setCell_same _ _ 3 _ _ (.slice a12 nc c12) z3
            have z5 := heap_setCell_same _ _ 4 _ _ (.slice a16 nk c16) z4
            have z6 := heap_setCell_same _ _ 5 _ _ (.slice a3 i c3) z5
            exact z6
          · refine PRS.widen (fun b hb => by omega) _ _ (PRS.same (S := fun k => bx + 2 ≤ k) (fun q hq => ?_) _ _ hprs)
            rw [heap_setCell_other _ _ _ _ (by simp; omega), heap_setCell_other _ _ _ _ (by simp; omega), heap_setCell_other _ _ _ _ (by simp; omega), heap_setCell_other _ _ _ _ (by simp; omega), heap_setCell_other _ _ _ _ (by simp; omega), heap_setCell_other _ _ _ _ (by simp; omega), heap_setCell_other _ _ _ _ (by simp; omega)]
          · exact ((((((HBW.out.setCell (by simp; omega) _).setCell (by simp; omega) _).setCell (by simp; omega) _).setCell (by simp; omega) _).setCell (by simp; omega) _).setCell (by simp; omega) _).setCell (by simp; omega) _
        have hA := fun j => Lib.cell_of_heap hblk j
        have hD := fun j => Lib.cell_of_heap hblk2 j
        have k0 : wr.cell? ⟨bx, 0, none⟩ = some (.int .i64 pa') := hA 0
        have k1 : wr.cell? ⟨bx, 1, none⟩ = some (.int .i64 rg') := hA 1
        have k2 : wr.cell? ⟨bx, 2, none⟩ = some (.slice a8 nu c8) := hA 2
        have k3 : wr.cell? ⟨bx, 3, none⟩ = some (.slice a12 nc c12) := hA 3
        have k4 : wr.cell? ⟨bx, 4, none⟩ = some (.slice a16 nk c16) := hA 4
        have f5 := Lib.frozen_of_heap hblk 5
        have d0 : wr.cell? ⟨bx + 1, 0, none⟩ = some (.int .i64 0) := hD 0
        have d1 : wr.cell? ⟨bx + 1, 1, none⟩ = some (.int .i64 0) := hD 1
        have d2 : wr.cell? ⟨bx + 1, 2, none⟩ = some (.slice none 0 0) := hD 2
        have d3 : wr.cell? ⟨bx + 1, 3, none⟩ = some (.slice none 0 0) := hD 3
        have d4 : wr.cell? ⟨bx + 1, 4, none⟩ = some (.slice none 0 0) := hD 4
        have d5 : wr.cell? ⟨bx + 1, 5, none⟩ = some (.slice none 0 0) := hD 5
        have g0 := Lib.frozen_of_heap hblk2 0
        have g1 := Lib.frozen_of_heap hblk2 1
        have g2 := Lib.frozen_of_heap hblk2 2
        have g3 := Lib.frozen_of_heap hblk2 3
        have g4 := Lib.frozen_of_heap hblk2 4
        have g5 := Lib.frozen_of_heap hblk2 5
        clear hA hD hpw hw ru rc rk hprs hblk hblk2 HP HO hlen
        go_wp2
        obtain ⟨y1, y2, y3⟩ := HKK.out _ rfl
        exact bodyPost_ret (results_cell_row rfl _ _ (bx + 1) _ _ _ _ rfl y1 Tryd.underlying27 rfl infoP) rfl ⟨⟨pa', rg', .slice a8 nu c8, .slice a12 nc c12, .slice a16 nk c16, .slice a3 i c3⟩, rfl, y2, y3⟩

end Go.Proofs.YtcblknghkgihcaaDoor
namespace Go.Proofs.YtcblknghkgihcaaDoor
set_option maxRecDepth 100000
open Go.RowKit Txt Pg

/-- The letters of each order's operands. -/
def usesL : List (List UInt8) := [[82, 75], [82, 82], [82, 82], [82], [82, 82], [82, 82], [82, 82], [82, 85], [85, 82], [82, 75], [75, 82], [82, 82, 82], [82, 82, 82], [82], [82, 82], [82, 82], [82, 82], [82, 82, 82], [82, 82, 82], [82, 82, 82], [82, 82, 82], [82, 82, 82], [82, 82, 82], [82, 82, 82], [82, 82, 82], [82, 82, 82], [82, 82, 82], [82, 82, 82], [82, 82, 82], [79], [82, 79], [82, 79], [82, 78], [82], [], [82, 80], [82, 79], [82, 79]]
def usesT (op : Int) : List UInt8 := usesL.getD op.toNat []
set_option maxHeartbeats 8000000 in
theorem uses_any (op : Int) (w : World) (h : isOp op = true) : Calls Tryd.prog 80 #[.int .i64 op] w fun e w' => e = .returned (.string (bs (usesT op))) ∧ w' = w := by
  have hc : op = 0 ∨ op = 1 ∨ op = 2 ∨ op = 3 ∨ op = 4 ∨ op = 5 ∨ op = 6 ∨ op = 7 ∨ op = 8 ∨ op = 9 ∨ op = 10 ∨ op = 11 ∨ op = 12 ∨ op = 13 ∨ op = 14 ∨ op = 15 ∨ op = 16 ∨ op = 17 ∨ op = 18 ∨ op = 19 ∨ op = 20 ∨ op = 21 ∨ op = 22 ∨ op = 23 ∨ op = 24 ∨ op = 25 ∨ op = 26 ∨ op = 27 ∨ op = 28 ∨ op = 29 ∨ op = 30 ∨ op = 31 ∨ op = 32 ∨ op = 33 ∨ op = 34 ∨ op = 35 ∨ op = 36 ∨ op = 37 := by
    unfold isOp at h
    simp at h
    omega
  clear h
  rcases hc with rfl | rfl | rfl | rfl | rfl | rfl | rfl | rfl | rfl | rfl | rfl | rfl | rfl | rfl | rfl | rfl | rfl | rfl | rfl | rfl | rfl | rfl | rfl | rfl | rfl | rfl | rfl | rfl | rfl | rfl | rfl | rfl | rfl | rfl | rfl | rfl | rfl | rfl
  all_goals
    go_enter Tryd.func80, Tryd.ntmps80
    go_wp2
    go_ret
    exact ⟨rfl, rfl⟩

namespace Pg
/-- A function and all within it, in order. -/
def flatT : Pr → List Pr
  | .mk pa rg us cs ks ps => ps.foldl (fun r q => r ++ flatT q) [.mk pa rg us cs ks ps]
def flatL (l : List Pr) (ps : List Pr) : List Pr := ps.foldl (fun r q => r ++ flatT q) l
theorem flatT_mk (pa rg : Int) (us : List Upp) (cs : List Ins) (ks : List Vl) (ps : List Pr) : flatT (.mk pa rg us cs ks ps) = flatL [.mk pa rg us cs ks ps] ps := by rw [flatT]; rfl
theorem flatL_take (l ps : List Pr) (i : Nat) (h : i < ps.length) : flatL l (ps.take (i + 1)) = flatL l (ps.take i) ++ flatT ps[i] := by
  unfold flatL
  rw [List.take_succ_eq_append_getElem h, List.foldl_append]
  rfl
theorem flatL_len : ∀ (ps : List Pr), (∀ q ∈ ps, (flatT q).length ≤ q.cnt) → ∀ l, (flatL l ps).length ≤ l.length + pcnts ps
  | [], _, l => by simp [flatL, pcnts_nil]
  | q :: ps, h, l => by
    have h1 := flatL_len ps (fun r hr => h r (List.mem_cons_of_mem _ hr)) (l ++ flatT q)
    have h2 := h q List.mem_cons_self
    rw [List.length_append] at h1
    rw [pcnts_cons]
    show (flatL (l ++ flatT q) ps).length ≤ _
    omega
theorem flatT_len : ∀ t : Pr, (flatT t).length ≤ t.cnt := by
  refine Pr.ind' fun pa rg us cs ks ps ih => ?_
  rw [flatT_mk, Pr.cnt_mk]
  have := flatL_len ps ih [.mk pa rg us cs ks ps]
  simp only [List.length_singleton] at this
  omega
theorem cellsF_append {n m z : Nat} (hz : 0 < z) (c c' : Nat → Nat → Value) : cellsF (n + m) z (fun i j => if i < n then c i j else c' (i - n) j) = cellsF n z c ++ cellsF m z c' := by
  apply List.ext_getElem?
  intro k
  by_cases h : k < n * z
  · rw [List.getElem?_append_left (by rw [cellsF_length]; exact h), cellsF_get h, cellsF_get (Nat.lt_of_lt_of_le h (Nat.mul_le_mul_right _ (Nat.le_add_right n m)))]
    have : k / z < n := Nat.div_lt_of_lt_mul (by rw [Nat.mul_comm]; exact h)
    simp [this]
  · by_cases h2 : k < (n + m) * z
    · have h3 : k - n * z < m * z := by rw [Nat.add_mul] at h2; omega
      rw [List.getElem?_append_right (by rw [cellsF_length]; omega), cellsF_length, cellsF_get h2, cellsF_get h3]
      obtain ⟨r, rfl⟩ : ∃ r, k = n * z + r := ⟨k - n * z, by omega⟩
      have e1 : (n * z + r) / z = n + r / z := by rw [Nat.mul_comm, Nat.mul_add_div hz]
      have e2 : (n * z + r) % z = r % z := by rw [Nat.mul_comm, Nat.mul_add_mod]
      have e3 : n * z + r - n * z = r := by omega
      rw [e1, e2, e3, if_neg (Nat.not_lt.2 (Nat.le_add_right _ _)), Nat.add_sub_cancel_left]
    · rw [List.getElem?_eq_none (by rw [cellsF_length]; omega), List.getElem?_eq_none (by rw [List.length_append, cellsF_length, cellsF_length, ← Nat.add_mul]; omega)]
end Pg

/-- A row of functions that lie elsewhere. -/
structure FW (e : TypeId) (W w : World) (B : Nat) (v : Value) (ts : List Pr) (y : Nat → Six) : Prop where
  own : w.ownsRow B e 6 v ts.length (cellsF ts.length 6 (sixC y))
  kid : ∀ i (h : i < ts.length), PR W ts[i] (y i)
theorem pr_one {w : World} {t : Pr} {x : Six} (h : PR w t x) (j : Nat) : (x.at j).oneCell' = true := sixC_one (y := fun _ => x) (i := 0) (PR.prs _ _ h) j
theorem FW.src {e : TypeId} {W w : World} {B : Nat} {v : Value} {ts : List Pr} {y : Nat → Six} (h : FW e W w B v ts y) : Src w 6 v ts.length (cellsF ts.length 6 (sixC y)) := by
  refine Src.of_owns h.own fun u hu => ?_
  obtain ⟨i, j, hi, hj, rfl⟩ := cellsF_mem (by decide) hu
  exact pr_one (h.kid i hi) j
theorem FW.more {e : TypeId} {W w w' : World} {B c' : Nat} {v : Value} {a' : Option Addr} {ts us : List Pr} {y z : Nat → Six} (h : FW e W w B v ts y) (hk : ∀ i (h : i < us.length), PR W us[i] (z i))
    (q1 : w'.ownsRow B e 6 (.slice a' (ts.length + us.length) c') (ts.length + us.length) (cellsF ts.length 6 (sixC y) ++ cellsF us.length 6 (sixC z))) : FW e W w' B (.slice a' (ts.length + us.length) c') (ts ++ us) (fun i => if i < ts.length then y i else z (i - ts.length)) := by
  refine ⟨?_, fun i hi => ?_⟩
  · rw [List.length_append]
    rw [← cellsF_append (by decide)] at q1
    rw [cellsF_congr (c' := fun i j => if i < ts.length then sixC y i j else sixC z (i - ts.length) j) (by decide) (fun i j _ _ => by unfold sixC; by_cases c : i < ts.length <;> simp [c])]
    exact q1
  · by_cases c : i < ts.length
    · rw [List.getElem_append_left c]
      simp only [if_pos c]
      exact h.kid i c
    · have hi2 : i - ts.length < us.length := by rw [List.length_append] at hi; omega
      rw [List.getElem_append_right (by omega)]
      simp only [if_neg c]
      exact hk _ hi2

set_option maxHeartbeats 8000000 in
theorem rflat_any : ∀ (t : Pr) (x : Six) (W w : World), PR W t x → Below W.heap.size W w → t.cnt ≤ 100000 →
    Calls Tryd.prog 16 #[x.v] w fun e w' => ∃ (v : Value) (y : Nat → Six), e = .returned v ∧ FW 27 W w' w.heap.size v (flatT t) y ∧ Below w.heap.size w w' := by
  refine Pr.ind' fun pa rg us cs ks ps ih => ?_
  intro x W w h hW hcnt
  have HPR := hide_p h
  rw [PR_mk] at h
  obtain ⟨pa', rg', vu, vc, vk, vp⟩ := x
  simp only at h
  obtain ⟨rfl, rfl, hpa, hrg, hu, hc, hk, f, hp, hch⟩ := h
  obtain ⟨au, cu, rfl, -, -, -⟩ := hu.1.val
  obtain ⟨ac, cc, rfl, -, -, -⟩ := hc.1.val
  obtain ⟨ak, ck, rfl, -, -, -⟩ := hk.1.val
  obtain ⟨ap, cp, rfl, hpl, hpc, lp⟩ := hp.val
  obtain ⟨ip0, ip1, ip2, ip3, ip4⟩ := info_parts infoProto
  have HFL : Hid (∀ i, (flatL [.mk pa' rg' us cs ks ps] (ps.take i)).length ≤ 100001) := by
    intro i
    have h1 := flatL_len (ps.take i) (fun q hq => flatT_len q) [.mk pa' rg' us cs ks ps]
    have h2 := pcnts_append (ps.take i) (ps.drop i)
    rw [List.take_append_drop] at h2
    rw [Pr.cnt_mk] at hcnt
    simp only [List.length_singleton] at h1
    omega
  rw [flatT_mk]
  rw [Pr.cnt_mk] at hcnt
  unfold Six.v
  simp only
  have HI : Hid _ := ih
  have HCH := (show Hid (∀ i (h : i < ps.length), PR W ps[i] (f i)) from hch)
  obtain ⟨np, hnp⟩ : ∃ n, n = ps.length := ⟨_, rfl⟩
  have HNP := hide_p hnp
  have HSP : Hid (SL W (.slice ap np cp) ps.length 6 (fun i j u => u = (f i).at j)) := by rw [hnp]; exact hp
  have HCN : Hid (pcnts ps ≤ 100000) := by show _ ≤ _; omega
  have hl4 : ps.length ≤ 100000 := by have := plen_cnts ps; omega
  rw [← hnp]
  rw [← hnp] at hl4
  have HHW := hide_p hW
  generalize us.length = nu at *
  generalize cs.length = nc at *
  generalize ks.length = nk at *
  clear hu hc hk hp hch ih hnp lp hcnt hpl hpc hW
  obtain ⟨bx, hbx⟩ : ∃ bx, bx = w.heap.size := ⟨_, rfl⟩
  obtain ⟨w1, hw1⟩ : ∃ w1, w1 = (w.alloc (.cells #[.int .i64 pa', .int .i64 rg', .slice au nu cu, .slice ac nc cc, .slice ak nk ck, .slice ap np cp] 27)).alloc (.cells #[.int .i64 pa', .int .i64 rg', .slice au nu cu, .slice ac nc cc, .slice ak nk ck, .slice ap np cp] 27) := ⟨_, rfl⟩
  have hs1 : w1.heap.size = bx + 2 := by rw [hw1, hbx]; simp
  have HB1 : Hid (Below w.heap.size w w1) := by rw [hw1]; exact ((Below.refl _ _).alloc (Nat.le_refl _) _).alloc (by simp) _
  have HA5 : Hid (w1.cell? ⟨bx, 5, none⟩ = some (.slice ap np cp)) := by show _ = _; rw [hw1, hbx, World.cell?_alloc_lt _ _ _ (by simp), World.cell?_alloc_new]; rfl
  have HR0 : Hid (FW 27 W w1 (bx + 1) (.slice (some ⟨bx + 1, 0, none⟩) 1 1) (flatL [.mk pa' rg' us cs ks ps] (ps.take 0)) (fun _ => ⟨pa', rg', .slice au nu cu, .slice ac nc cc, .slice ak nk ck, .slice ap np cp⟩)) := by
    refine ⟨⟨rfl, Or.inr ⟨bx + 1, 1, #[.int .i64 pa', .int .i64 rg', .slice au nu cu, .slice ac nc cc, .slice ak nk ck, .slice ap np cp], rfl, Nat.le_refl _, ?_, Nat.le_refl _, by unfold maxLen; omega, rfl, rfl⟩⟩, fun i hi => ?_⟩
    · rw [hw1, hbx]
      have := heap_alloc_new (w.alloc (.cells #[.int .i64 pa', .int .i64 rg', .slice au nu cu, .slice ac nc cc, .slice ak nk ck, .slice ap np cp] 27)) (.cells #[.int .i64 pa', .int .i64 rg', .slice au nu cu, .slice ac nc cc, .slice ak nk ck, .slice ap np cp] 27)
      simpa using this
    · have hi0 : i = 0 := by
        have : i < 1 := hi
        omega
      subst hi0
      have := HPR.out
      rw [← HNP.out] at this
      exact this
  go_enter Tryd.func16, Tryd.ntmps16
  go_wp2_with fail
  rw [← hw1]
  rw [← hbx]
  have HBX := hide_p hbx
  clear hw1 hbx
  go_loopw [3, 4] (fun t3 t4 wr => ∃ (i : Nat) (y : Nat → Six), i ≤ np ∧ t4 = .int .i64 i ∧ Hid (FW 27 W wr (bx + 1) t3 (flatL [.mk pa' rg' us cs ks ps] (ps.take i)) y) ∧ Hid (Below (bx + 1) w1 wr)) (fun _ t4 _ => np - (intOf t4).toNat)
  case atStart => exact ⟨0, _, Nat.zero_le _, rfl, HR0, Below.refl _ _⟩
  case round =>
    obtain ⟨i, y, hi, rfl, HF, HB⟩ := hrel
    have HBw : Hid (Below w.heap.size w wr) := HB1.out.trans (HB.out.mono (by have := HBX.out; omega))
    have HBW : Hid (Below W.heap.size W wr) := HHW.out.trans (HBw.out.mono HHW.out.size)
    have b5 : wr.cell? ⟨bx, 5, none⟩ = some (.slice ap np cp) := (HB.out.cell (p := ⟨bx, 5, none⟩) (by show bx < bx + 1; omega)).trans HA5.out
    have hszr : bx + 2 ≤ wr.heap.size := by have := HB.out.size; omega
    by_cases c : i < np
    · have i1 : i < ps.length := by rw [← HNP.out]; exact c
      obtain ⟨-, g, o, rfl, e0, e1, e2, e3, e4, e5⟩ := SP.get (HSP.out.kept HBW.out (Nat.le_refl _)) i1
      have hcall := HI.out ps[i] (List.getElem_mem i1) (f i) W wr (HCH.out i i1) HBW.out (by have := pcnts_get i i1; have := HCN.out; omega)
      have HTK : Hid (flatL [.mk pa' rg' us cs ks ps] (ps.take (i + 1)) = flatL [.mk pa' rg' us cs ks ps] (ps.take i) ++ flatT ps[i]) := flatL_take _ _ i i1
      have hbnd := HFL.out (i + 1)
      rw [HTK.out, List.length_append] at hbnd
      generalize ps[i] = q at *
      generalize hLL : flatL [.mk pa' rg' us cs ks ps] (ps.take i) = LL at *
      clear hLL
      unfold Six.v at hcall
      generalize f i = z at *
      obtain ⟨ypa, yrg, yu, yc, yk, yp⟩ := z
      simp only at e0 e1 e2 e3 e4 e5 hcall
      go_wp2_with fail
      refine hcall.mono ?_
      rintro e w2 ⟨v2, y2, rfl, hfw2, hb2⟩
      have hs2 := hb2.size
      have hown : w2.ownsRow (bx + 1) 27 6 u3 LL.length (cellsF LL.length 6 (sixC y)) := own_below HF.out.own hb2
      have hsrc := hfw2.src
      have HB2 : Hid (Below (bx + 1) w1 w2) := HB.out.trans (hb2.mono (by omega))
      have HKID := hide_p hfw2.kid
      have HMO : Hid (∀ (w4 : World) (a' : Option Addr) (c' : Nat), w4.ownsRow (bx + 1) 27 6 (.slice a' (LL.length + (flatT q).length) c') (LL.length + (flatT q).length) (cellsF LL.length 6 (sixC y) ++ cellsF (flatT q).length 6 (sixC y2)) → ∃ y', FW 27 W w4 (bx + 1) (.slice a' (LL.length + (flatT q).length) c') (LL ++ flatT q) y') := fun w4 a' c' q1 => ⟨_, HF.out.more HKID.out q1⟩
      clear hb2 hcall e0 e1 e2 e3 e4 e5 hfw2 HKID
      generalize (flatT q).length = n2 at *
      generalize LL.length = n1 at *
      go_wp2_with (at_builtin; refine wpList_append_src _ rfl _ _ 25 rfl (bx + 1) 27 ip0 _ 6 112 Tryd.underlying25 ip1 ip2 ip3 ip4 rfl (by decide) _ n1 _ rfl hown _ n2 _ rfl hsrc (by unfold maxLen; omega) (by omega) (by omega) ?_)
      intro a' c' w4 q1 q2 q3
      have HM4 := hide_p (HMO.out w4 a' c' q1)
      have HB4 : Hid (Below (bx + 1) w1 w4) := HB2.out.grown q2 (by omega) (fun k hk => (hown.lt k hk).1)
      clear q1 q2 q3 hown hsrc HMO HB2
      obtain ⟨y', hy'⟩ := HM4.out
      have HF4 : Hid (FW 27 W w4 (bx + 1) (.slice a' (n1 + n2) c') (flatL [.mk pa' rg' us cs ks ps] (ps.take (i + 1))) y') := by show FW _ _ _ _ _ _ _; rw [HTK.out]; exact hy'
      clear hy' HM4
      go_wp2
      go_roundw
      case rel => exact ⟨i + 1, y', by omega, by go_num, HF4, HB4⟩
      case measure => simp [intOf]; omega
    · have e : i = np := by omega
      have hfw := HF.out
      rw [List.take_of_length_le (by have := HNP.out; omega)] at hfw
      have HFE : Hid (FW 27 W wr w.heap.size u3 (flatL [.mk pa' rg' us cs ks ps] ps) y) := by
        refine ⟨⟨hfw.own.1, ?_⟩, hfw.kid⟩
        rcases hfw.own.2 with h | ⟨g, cap, cur, h1, h2, h3⟩
        · exact Or.inl h
        · exact Or.inr ⟨g, cap, cur, h1, by have := HBX.out; omega, h3⟩
      obtain ⟨a3, c3, e3⟩ := owns_form hfw.own
      subst e
      clear hfw HF
      go_wp2
      go_ret
      exact ⟨_, y, rfl, HFE.out, HBw.out⟩

end Go.Proofs.YtcblknghkgihcaaDoor
namespace Go.Proofs.YtcblknghkgihcaaDoor
set_option maxRecDepth 100000
open Go.RowKit Crc Pg

namespace Pg
def nob : ByteArray := ⟨#[]⟩
def uw (n : Int) : Nat := (n % 18446744073709551616).toNat
def numT (n : Int) : Tr := .mk 0 (uw n) nob []
def lisT (l : List Tr) : Tr := .mk 2 0 nob l
def upT (u : Upp) : Tr := lisT [numT (if u.own then 1 else 0), numT u.pl]
def insT (x : Ins) : Tr := lisT [numT x.op, numT x.a, numT x.b, numT x.c]
def vlT (v : Vl) : Tr := lisT (if v.k = 3 then [numT v.k, .mk 0 v.n.toNat nob []] else if v.k = 4 then [numT v.k, .mk 1 0 v.s []] else [numT v.k])
/-- A function as a tree of data. -/
def cellT : Pr → Tr
  | .mk pa rg us cs ks ps => lisT [numT pa, numT rg, lisT (us.map upT), lisT (cs.map insT), lisT (ks.map vlT), lisT (ps.map cellT)]
theorem cellT_mk (pa rg : Int) (us : List Upp) (cs : List Ins) (ks : List Vl) (ps : List Pr) : cellT (.mk pa rg us cs ks ps) = lisT [numT pa, numT rg, lisT (us.map upT), lisT (cs.map insT), lisT (ks.map vlT), lisT (ps.map cellT)] := by rw [cellT]
theorem uw_lt (n : Int) : uw n < 18446744073709551616 := by unfold uw; omega
theorem uw_val (n : Int) : ((uw n : Nat) : Int) = n % 18446744073709551616 := by unfold uw; omega

/-- A cell of four parts. -/
structure Q4 where
  k : Int
  n : Nat
  s : ByteArray
  u : Value
def Q4.l (q : Q4) : List Value := quad q.k q.n q.s q.u
def Q4.v (q : Q4) : Value := cellV q.k q.n q.s q.u
def qsL (l : List Q4) : List Value := l.flatMap Q4.l
def q0 : Q4 := ⟨0, 0, nob, .slice none 0 0⟩
theorem qsL_get : ∀ (l : List Q4) (i : Nat), i < l.length → (qsL l)[i * 4]? = some (.int .i64 (l.getD i q0).k) ∧ (qsL l)[i * 4 + 1]? = some (.int .u64 (l.getD i q0).n) ∧ (qsL l)[i * 4 + 2]? = some (.string (l.getD i q0).s) ∧ (qsL l)[i * 4 + 3]? = some (l.getD i q0).u
  | [], i, h => absurd h (Nat.not_lt_zero _)
  | q :: l, 0, _ => by
    show (q.l ++ qsL l)[0 * 4]? = _ ∧ (q.l ++ qsL l)[0 * 4 + 1]? = _ ∧ (q.l ++ qsL l)[0 * 4 + 2]? = _ ∧ (q.l ++ qsL l)[0 * 4 + 3]? = _
    simp [Q4.l, quad]
  | q :: l, i + 1, h => by
    have ih := qsL_get l i (by simpa using h)
    have e : ∀ j, (qsL (q :: l))[(i + 1) * 4 + j]? = (qsL l)[i * 4 + j]? := by
      intro j
      show (q.l ++ qsL l)[(i + 1) * 4 + j]? = _
      have hl : q.l.length = 4 := rfl
      rw [List.getElem?_append_right (by rw [hl]; omega), hl]
      congr 1
      omega
    have e0 := e 0
    simp only [Nat.add_zero] at e0
    rw [e0, e 1, e 2, e 3]
    simpa using ih
theorem qsL_quads (l : List Q4) : Quads (qsL l) l.length (fun i => (l.getD i q0).k) (fun i => (l.getD i q0).n) (fun i => (l.getD i q0).s) (fun i => (l.getD i q0).u) :=
  ⟨fun i h => (qsL_get l i h).1, fun i h => (qsL_get l i h).2.1, fun i h => (qsL_get l i h).2.2.1, fun i h => (qsL_get l i h).2.2.2⟩

theorem cs_num {w : World} {S : Nat → Prop} (n : Nat) (h : n < 18446744073709551616) : CS w S (.mk 0 n nob []) (cellV 0 n nob (.slice none 0 0)) :=
  CS.mk 0 n nob [] none 0 (fun _ => 0) (fun _ => 0) (fun _ => nob) (fun _ => .slice none 0 0) (by decide) h (by decide) (Nat.le_refl _) (by decide) (fun _ => rfl) (fun x e => by cases e) (fun x i e => by cases e) (fun i h => absurd h (Nat.not_lt_zero _))
theorem cs_numT {w : World} {S : Nat → Prop} (n : Int) : CS w S (numT n) (cellV 0 (uw n) nob (.slice none 0 0)) := cs_num _ (uw_lt n)
theorem cs_txt {w : World} {S : Nat → Prop} (s : ByteArray) (h : s.size ≤ 9223372036854775807) : CS w S (.mk 1 0 s []) (cellV 1 0 s (.slice none 0 0)) :=
  CS.mk 1 0 s [] none 0 (fun _ => 0) (fun _ => 0) (fun _ => nob) (fun _ => .slice none 0 0) (by decide) (by decide) h (Nat.le_refl _) (by decide) (fun _ => rfl) (fun x e => by cases e) (fun x i e => by cases e) (fun i h => absurd h (Nat.not_lt_zero _))

/-- Cells that lie in a block are a list. -/
theorem cs_block {w : World} {S : Nat → Prop} {g cap : Nat} {cs : Array Value} {T : TypeId} {fr : Nat × Nat} {l : List Q4} {ts : List Tr} (hb : w.heap[g]? = some (.cells cs T fr)) (hc : cs.toList = qsL l) (hl : l.length = ts.length) (hcap : ts.length ≤ cap) (hcap2 : cap ≤ 9223372036854775807) (hg : S g)
    (kid : ∀ i (h : i < ts.length), CS w S ts[i] (l.getD i q0).v) : CS w S (lisT ts) (cellV 2 0 nob (.slice (some ⟨g, 0, none⟩) ts.length cap)) := by
  have hq := qsL_quads l
  rw [← hc, hl] at hq
  refine CS.mk 2 0 nob ts _ cap _ _ _ _ (by decide) (by decide) (by decide) hcap hcap2 (fun e => by cases e) (fun x e _ => by cases e; exact hg) (fun x i e hi => ?_) kid
  cases e
  refine ⟨rfl, ?_, ?_, ?_, ?_⟩
  · rw [Lib.cell_of_heap hb]; simp only [Nat.zero_add]; rw [← Array.getElem?_toList]; exact hq.q0 i hi
  · rw [Lib.cell_of_heap hb]; simp only [Nat.zero_add]; rw [← Array.getElem?_toList]; exact hq.q1 i hi
  · rw [Lib.cell_of_heap hb]; simp only [Nat.zero_add]; rw [← Array.getElem?_toList]; exact hq.q2 i hi
  · rw [Lib.cell_of_heap hb]; simp only [Nat.zero_add]; rw [← Array.getElem?_toList]; exact hq.q3 i hi

/-- A row of cells under way: it lies in the block b, or in one from B0 on, and so does what it holds. -/
def TR (B0 : Nat) (w : World) (b : Nat) (v : Value) (ts : List Tr) : Prop := TWz (fun _ k => B0 ≤ k) w b v ts ∧ ∀ k, v.ownBlock = some k → k = b ∨ B0 ≤ k
theorem TR.mono {B0 B1 : Nat} {w : World} {b : Nat} {v : Value} {ts : List Tr} (h : TR B0 w b v ts) (k : B1 ≤ B0) : TR B1 w b v ts := by
  obtain ⟨⟨xs, ks, ns, ss, us, h1, h2, h3⟩, h4⟩ := h
  refine ⟨⟨xs, ks, ns, ss, us, h1, h2, fun i hi => (h3 i hi).widen (fun k hk => ⟨hk.1, hk.2.1, hk.2.2.1, by omega⟩)⟩, fun k hk => ?_⟩
  rcases h4 k hk with e | e
  · exact Or.inl e
  · exact Or.inr (by omega)
theorem TR.nil {B0 : Nat} {w : World} {b : Nat} {T : Nat × Nat} (hb : w.heap[b]? = some (.cells #[] 33 T)) (hT : T = (0, 0)) : TR B0 w b (.slice (some ⟨b, 0, none⟩) 0 0) [] := by
  subst hT
  refine ⟨⟨[], fun _ => 0, fun _ => 0, fun _ => nob, fun _ => .slice none 0 0, ⟨rfl, Or.inr ⟨b, 0, #[], rfl, Nat.le_refl _, hb, Nat.le_refl _, by unfold maxLen; omega, rfl, rfl⟩⟩, ⟨fun i h => absurd h (Nat.not_lt_zero _), fun i h => absurd h (Nat.not_lt_zero _), fun i h => absurd h (Nat.not_lt_zero _), fun i h => absurd h (Nat.not_lt_zero _)⟩, fun i h => absurd h (Nat.not_lt_zero _)⟩, fun k hk => Or.inl ?_⟩
  simp [Value.ownBlock] at hk
  exact hk.symm
/-- Another row may grow beside it. -/
theorem TR.kb {B0 : Nat} {w w' : World} {b b' : Nat} {v : Value} {ts : List Tr} (h : TR B0 w b v ts) (k : Kb b' w w') (h1 : b' < B0) (h2 : b ≠ b') : TR B0 w' b v ts := by
  obtain ⟨⟨xs, ks, ns, ss, us, o1, o2, o3⟩, o4⟩ := h
  refine ⟨⟨xs, ks, ns, ss, us, ?_, o2, fun i hi => ?_⟩, o4⟩
  · cases e : v.ownBlock with
    | none =>
      obtain ⟨l1, l2⟩ := o1
      refine ⟨l1, ?_⟩
      rcases l2 with l2 | ⟨g, cap, cur, rfl, _⟩
      · exact Or.inl l2
      · simp [Value.ownBlock] at e
    | some g0 =>
      refine ownsRow_far o1 (k.block g0 (o1.lt g0 e).2 (fun q => ?_)) e
      rcases o4 g0 e with c | c <;> omega
  · have := (o3 i hi).kept (w' := w') (fun q hq => k.block q hq.2.2.1 (fun c => by have := hq.2.2.2; omega))
    exact this.widen (fun q hq => ⟨hq.1, hq.2.1, Nat.lt_of_lt_of_le hq.2.2.1 k.size, hq.2.2.2⟩)
/-- One more. -/
theorem TR.snoc {B0 : Nat} {w w1 : World} {b : Nat} {v : Value} {ts : List Tr} {t : Tr} {k : Int} {n : Nat} {s : ByteArray} {u : Value} (h : TR B0 w b v ts) (hB : b ≤ w.heap.size) (hB0 : B0 ≤ w.heap.size) (hb : Below w.heap.size w w1)
    (hc : CS w1 (fun k => w.heap.size ≤ k) t (cellV k n s u)) (o : Obj) :
    ∃ xs, ((w1.alloc o).ownsRow b 33 4 v ts.length xs) ∧ (∀ (w3 : World) (g cap : Nat), w3.ownsRow b 33 4 (.slice (some ⟨g, 0, none⟩) (ts.length + 1) cap) (ts.length + 1) (xs ++ quad k n s u) → (w1.alloc o).grownBy w3 v.ownBlock → (v.ownBlock = some g ∨ g = (w1.alloc o).heap.size) →
      TR B0 w3 b (.slice (some ⟨g, 0, none⟩) (ts.length + 1) cap) (ts ++ [t]) ∧ ∀ wq, Kb b wq w → wq.heap.size ≤ B0 → Kb b wq w3) := by
  obtain ⟨xs, o1, o2, o3⟩ := h.1.snocK (fun _ _ _ _ h => h) hB hb.size (fun k _ hk => hb.block k hk) (hc.widen (fun q hq => ⟨hq, by omega⟩)) o
  refine ⟨xs, o2, fun w3 g cap q1 q2 q3 => ⟨⟨o3 w3 g cap q1 q2 q3, fun q hq => ?_⟩, fun wq hk hqs => ?_⟩⟩
  · simp [Value.ownBlock] at hq
    subst hq
    rcases q3 with e | e
    · exact h.2 g e
    · refine Or.inr ?_
      have := hb.size
      simp at e
      omega
  · have hs1 := hb.size
    have hs2 : (w1.alloc o).heap.size = w1.heap.size + 1 := by simp
    refine ⟨q2.os.trans (hb.os.trans hk.os), q2.tape.trans (hb.tape.trans hk.tape), q2.output.trans (hb.output.trans hk.output), by have := q2.size; have := hk.size; omega, fun i hi hne => ?_⟩
    have hi2 : i < w.heap.size := Nat.lt_of_lt_of_le hi hk.size
    rw [q2.block i (by omega) (fun e => ?_), Below.heap_alloc w1 _ i (by omega), hb.block i hi2, hk.block i hi hne]
    rcases h.2 i e.symm with c | c
    · exact hne c
    · omega
end Pg

theorem uw_wrap (n : Int) : IntKind.u64.wrap n = ((uw n : Nat) : Int) := by
  rw [uw_val]
  rfl
theorem set4_block {w : World} {b : Nat} {T : TypeId} {x0 x1 x2 x3 : Value} (h : w.heap[b]? = some (.cells #[x0, x1, x2, x3] T (0, 0))) (v0 v1 v2 v3 : Value) :
    ((((w.setCell ⟨b, 0, none⟩ v0).setCell ⟨b, 1, none⟩ v1).setCell ⟨b, 2, none⟩ v2).setCell ⟨b, 3, none⟩ v3).heap[b]? = some (.cells #[v0, v1, v2, v3] T (0, 0)) := by
  have z1 := heap_setCell_same _ _ 0 _ _ v0 h
  have z2 := heap_setCell_same _ _ 1 _ _ v1 z1
  have z3 := heap_setCell_same _ _ 2 _ _ v2 z2
  exact heap_setCell_same _ _ 3 _ _ v3 z3
theorem set4_below {w w0 : World} {b B : Nat} (hb : Below B w0 w) (h : B ≤ b) (v0 v1 v2 v3 : Value) :
    Below B w0 ((((w.setCell ⟨b, 0, none⟩ v0).setCell ⟨b, 1, none⟩ v1).setCell ⟨b, 2, none⟩ v2).setCell ⟨b, 3, none⟩ v3) :=
  (((hb.setCell (p := ⟨b, 0, none⟩) h _).setCell (p := ⟨b, 1, none⟩) h _).setCell (p := ⟨b, 2, none⟩) h _).setCell (p := ⟨b, 3, none⟩) h _
theorem set4_other {w : World} {b k : Nat} (h : k ≠ b) (v0 v1 v2 v3 : Value) :
    ((((w.setCell ⟨b, 0, none⟩ v0).setCell ⟨b, 1, none⟩ v1).setCell ⟨b, 2, none⟩ v2).setCell ⟨b, 3, none⟩ v3).heap[k]? = w.heap[k]? := by
  rw [heap_setCell_other _ _ _ _ (by simpa using h), heap_setCell_other _ _ _ _ (by simpa using h), heap_setCell_other _ _ _ _ (by simpa using h), heap_setCell_other _ _ _ _ (by simpa using h)]
/-- What is in a block of four cells. -/
theorem block4 {w : World} {b : Nat} {T : TypeId} {fr : Nat × Nat} {x0 x1 x2 x3 : Value} (h : w.heap[b]? = some (.cells #[x0, x1, x2, x3] T fr)) :
    w.cell? ⟨b, 0, none⟩ = some x0 ∧ w.cell? ⟨b, 1, none⟩ = some x1 ∧ w.cell? ⟨b, 2, none⟩ = some x2 ∧ w.cell? ⟨b, 3, none⟩ = some x3 :=
  ⟨by rw [Lib.cell_of_heap h]; rfl, by rw [Lib.cell_of_heap h]; rfl, by rw [Lib.cell_of_heap h]; rfl, by rw [Lib.cell_of_heap h]; rfl⟩

set_option maxHeartbeats 1000000 in
theorem rnumber_any (n : Int) (w : World) :
    Calls Tryd.prog 32 #[.int .i64 n] w fun e w' => e = .returned (cellV 0 (uw n) nob (.slice none 0 0)) ∧ Below w.heap.size w w' := by
  have h1 := fun o : Obj => rfnumber_any (uw n) (w.alloc o)
  have hn := uw_wrap n
  have HB0 : Hid (∀ o : Obj, Below w.heap.size w (w.alloc o)) := fun o => (Below.refl _ w).alloc (Nat.le_refl _) o
  go_enter Tryd.func32, Tryd.ntmps32
  go_wp2_with fail
  refine (h1 _).mono ?_
  rintro e w2 ⟨rfl, hb⟩
  have hsz := hb.size
  have K := (hb.block w.heap.size (by simp)).trans (heap_alloc_new w _)
  obtain ⟨c0, c1, c2, c3⟩ := block4 K
  have fz := Lib.frozen_of_heap K
  have f0 := fz 0
  have f1 := fz 1
  have f2 := fz 2
  have f3 := fz 3
  have HK := hide_p (set4_block K (.int .i64 0) (.int .u64 (uw n)) (.string nob) (.slice none 0 0))
  have HB : Hid (Below w.heap.size w w2) := (HB0.out _).trans (hb.mono (by simp))
  clear K hb h1 fz hsz
  unfold cellV
  go_wp2
  exact bodyPost_ret (results_cell_row rfl _ _ w.heap.size _ _ _ _ rfl HK.out Tryd.underlying33 rfl info25) rfl ⟨rfl, set4_below HB.out (Nat.le_refl _) _ _ _ _⟩

end Go.Proofs.YtcblknghkgihcaaDoor
namespace Go.Proofs.YtcblknghkgihcaaDoor
set_option maxRecDepth 100000
open Go.RowKit Crc Pg

theorem heap_alloc_at (w : World) (k : Nat) (cs : Array Value) {t : TypeId} (h : w.heap.size = k) : (w.alloc (.cells cs t)).heap[k]? = some (.cells cs t (0, 0)) := by
  subst h
  exact heap_alloc_new w _
theorem keep2 {w w' : World} {B : Nat} {a1 a2 : Addr} {u1 u2 : Value} (h : w.cell? a1 = some u1 ∧ w.cell? a2 = some u2) (hb : Below B w w') (hB : w.heap.size ≤ B) : w'.cell? a1 = some u1 ∧ w'.cell? a2 = some u2 :=
  ⟨cell_kept hb hB h.1, cell_kept hb hB h.2⟩

theorem keep2g {w w' : World} {row : Option Nat} {B : Nat} {a1 a2 : Addr} {u1 u2 : Value} (h : w.cell? a1 = some u1 ∧ w.cell? a2 = some u2) (hg : w.grownBy w' row) (hr : ∀ k, row = some k → B ≤ k) (h1 : a1.block < B) (h2 : a2.block < B) : w'.cell? a1 = some u1 ∧ w'.cell? a2 = some u2 :=
  ⟨(hg.cell_far a1 (World.block_lt_of_cell? w a1 h.1) (fun e => by have := hr _ e.symm; omega)).trans h.1, (hg.cell_far a2 (World.block_lt_of_cell? w a2 h.2) (fun e => by have := hr _ e.symm; omega)).trans h.2⟩
theorem keep4 {w w' : World} {B : Nat} {a1 a2 a3 a4 : Addr} {u1 u2 u3 u4 : Value} (h : w.cell? a1 = some u1 ∧ w.cell? a2 = some u2 ∧ w.cell? a3 = some u3 ∧ w.cell? a4 = some u4) (hb : Below B w w') (hB : w.heap.size ≤ B) : w'.cell? a1 = some u1 ∧ w'.cell? a2 = some u2 ∧ w'.cell? a3 = some u3 ∧ w'.cell? a4 = some u4 :=
  ⟨cell_kept hb hB h.1, cell_kept hb hB h.2.1, cell_kept hb hB h.2.2.1, cell_kept hb hB h.2.2.2⟩
theorem keep4g {w w' : World} {row : Option Nat} {b j1 j2 j3 j4 : Nat} {u1 u2 u3 u4 : Value} (h : w.cell? ⟨b, j1, none⟩ = some u1 ∧ w.cell? ⟨b, j2, none⟩ = some u2 ∧ w.cell? ⟨b, j3, none⟩ = some u3 ∧ w.cell? ⟨b, j4, none⟩ = some u4) (hg : w.grownBy w' row) (hr : ∀ k, row = some k → k ≠ b) : w'.cell? ⟨b, j1, none⟩ = some u1 ∧ w'.cell? ⟨b, j2, none⟩ = some u2 ∧ w'.cell? ⟨b, j3, none⟩ = some u3 ∧ w'.cell? ⟨b, j4, none⟩ = some u4 := by
  have hlt := World.block_lt_of_cell? w _ h.1
  have hne : some b ≠ row := fun e => hr b e.symm rfl
  exact ⟨(hg.cell_far _ hlt hne).trans h.1, (hg.cell_far ⟨b, j2, none⟩ hlt hne).trans h.2.1, (hg.cell_far ⟨b, j3, none⟩ hlt hne).trans h.2.2.1, (hg.cell_far ⟨b, j4, none⟩ hlt hne).trans h.2.2.2⟩
theorem Pg.TR.ownlt {B0 : Nat} {w : World} {b : Nat} {v : Value} {ts : List Tr} (h : TR B0 w b v ts) : ∀ k, v.ownBlock = some k → b ≤ k ∧ k < w.heap.size := by
  obtain ⟨⟨xs, ks, ns, ss, us, o1, o2, o3⟩, o4⟩ := h
  exact fun k hk => o1.lt k hk
/-- A row of one number that was just made. -/
theorem tw_one (w2 : World) (n : Nat) (hn : n < 18446744073709551616) : TW (w2.alloc (.cells #[.int .i64 0, .int .u64 n, .string nob, .slice none 0 0] 33)) w2.heap.size (.slice (some ⟨w2.heap.size, 0, none⟩) 1 1) [.mk 0 n nob []] := by
  refine ⟨quad 0 n nob (.slice none 0 0), fun _ => 0, fun _ => n, fun _ => nob, fun _ => .slice none 0 0, ⟨rfl, Or.inr ⟨w2.heap.size, 1, #[.int .i64 0, .int .u64 n, .string nob, .slice none 0 0], rfl, Nat.le_refl _, heap_alloc_new w2 _, Nat.le_refl _, by unfold maxLen; omega, rfl, rfl⟩⟩, ⟨?_, ?_, ?_, ?_⟩, fun i hi => ?_⟩
  · intro i hi; have e : i = 0 := by simp at hi; exact hi
    subst e; rfl
  · intro i hi; have e : i = 0 := by simp at hi; exact hi
    subst e; rfl
  · intro i hi; have e : i = 0 := by simp at hi; exact hi
    subst e; rfl
  · intro i hi; have e : i = 0 := by simp at hi; exact hi
    subst e; rfl
  · have e : i = 0 := by simp at hi; exact hi
    subst e
    exact cs_num n hn
/-- A row that is shut, as a list, in a later world. -/
theorem tw_cs {w6 w7 : World} {B B' N cap : Nat} {a : Option Addr} {ts : List Tr} (h : TW w6 B (.slice a N cap) ts) (hN : N = ts.length) (hB : B' ≤ B) (hb : Below w6.heap.size w6 w7) : CS w7 (fun k => B' ≤ k) (lisT ts) (cellV 2 0 nob (.slice a N cap)) :=
  ((h.cs hN 2 0 nob (by decide) (by decide) (by decide)).real.kept (fun k hk => hb.block k hk.2)).widen (fun k hk => by have := hk.1; omega)
theorem Pg.TR.tw {B0 : Nat} {w : World} {b : Nat} {v : Value} {ts : List Tr} (h : TR B0 w b v ts) : TW w b v ts ∧ ∃ a c, v = .slice a ts.length c := by
  obtain ⟨⟨xs, ks, ns, ss, us, o1, o2, o3⟩, o4⟩ := h
  exact ⟨⟨xs, ks, ns, ss, us, o1, o2, fun i hi => (o3 i hi).widen (fun k hk => ⟨hk.1, hk.2.1, hk.2.2.1, trivial⟩)⟩, owns_form o1⟩
/-- A row, as a list, in a later world. -/
theorem Pg.TR.cs {B0 : Nat} {w w' : World} {b x N c : Nat} {a : Option Addr} {ts : List Tr} (h : TR B0 w b (.slice a N c) ts) (hN : N = ts.length) (hx : x < b) (k : Kb x w w') : CS w' (fun k => b ≤ k) (lisT ts) (cellV 2 0 nob (.slice a N c)) :=
  ((h.tw.1.cs hN 2 0 nob (by decide) (by decide) (by decide)).real.kept (fun q hq => k.block q hq.2 (by have := hq.1; omega))).widen (fun _ hk => hk.1)
theorem Pg.Kb.set4 {b : Nat} {x w : World} (h : Kb b x w) (v0 v1 v2 v3 : Value) : Kb b x ((((w.setCell ⟨b, 0, none⟩ v0).setCell ⟨b, 1, none⟩ v1).setCell ⟨b, 2, none⟩ v2).setCell ⟨b, 3, none⟩ v3) :=
  (((h.trans (Kb.set _ _ _ _)).trans (Kb.set _ _ _ _)).trans (Kb.set _ _ _ _)).trans (Kb.set _ _ _ _)
def nq (n : Int) : Q4 := ⟨0, uw n, nob, .slice none 0 0⟩
/-- A list of numbers that was just made. -/
theorem nums_cs {w2 w3 : World} {B cap : Nat} {l : List Int} {cs : Array Value} {T : TypeId} (hc : cs.toList = qsL (l.map nq)) (hB : B ≤ w2.heap.size) (hcap : l.length ≤ cap) (hcap2 : cap ≤ 9223372036854775807) (hb : Below (w2.alloc (.cells cs T)).heap.size (w2.alloc (.cells cs T)) w3) : CS w3 (fun k => B ≤ k) (lisT (l.map numT)) (cellV 2 0 nob (.slice (some ⟨w2.heap.size, 0, none⟩) l.length cap)) := by
  have h := cs_block (S := fun k => B ≤ k) (l := l.map nq) (ts := l.map numT) (cap := cap) ((hb.block w2.heap.size (by simp)).trans (heap_alloc_new w2 _)) hc (by simp) (by simpa using hcap) hcap2 hB (fun i hi => by
    have hi2 : i < l.length := by simpa using hi
    rw [List.getElem_map, List.getD_eq_getElem?_getD, List.getElem?_map, List.getElem?_eq_getElem hi2]
    exact cs_numT _)
  simpa using h

set_option maxHeartbeats 16000000 in
theorem rtoCell_any : ∀ (t : Pr) (x : Six) (W w : World), PR W t x → Below W.heap.size W w → t.cnt ≤ 100000 →
    Calls Tryd.prog 10 #[x.v] w fun e w' => ∃ v, e = .returned v ∧ CS w' (fun k => w.heap.size ≤ k) (cellT t) v ∧ Below w.heap.size w w' := by
  refine Pr.ind' fun pa rg us cs ks ps ih => ?_
  intro x W w h hW hcnt
  rw [PR_mk] at h
  obtain ⟨pa', rg', vu, vc, vk, vp⟩ := x
  simp only at h
  obtain ⟨rfl, rfl, hpa, hrg, hu, hc, hk, f, hp, hch⟩ := h
  obtain ⟨au, cu, rfl, lu1, lu2, -⟩ := hu.1.val
  obtain ⟨ac, cc, rfl, lc1, lc2, -⟩ := hc.1.val
  obtain ⟨ak, ck, rfl, lk1, lk2, -⟩ := hk.1.val
  obtain ⟨ap, cp, rfl, lp1, lp2, -⟩ := hp.val
  obtain ⟨i0, hi0, hz0, hz1, hz2⟩ := info_parts info25b
  rw [cellT_mk]
  rw [Pr.cnt_mk] at hcnt
  unfold Six.v
  simp only
  have HI : Hid _ := ih
  have HCH := (show Hid (∀ i (h : i < ps.length), PR W ps[i] (f i)) from hch)
  obtain ⟨nu, hnu⟩ : ∃ n, n = us.length := ⟨_, rfl⟩
  obtain ⟨nc, hnc⟩ : ∃ n, n = cs.length := ⟨_, rfl⟩
  obtain ⟨nk, hnk⟩ : ∃ n, n = ks.length := ⟨_, rfl⟩
  obtain ⟨np, hnp⟩ : ∃ n, n = ps.length := ⟨_, rfl⟩
  have HN : Hid (nu = us.length ∧ nc = cs.length ∧ nk = ks.length ∧ np = ps.length) := ⟨hnu, hnc, hnk, hnp⟩
  have HSP : Hid (SL W (.slice ap np cp) ps.length 6 (fun i j u => u = (f i).at j)) := by rw [hnp]; exact hp
  have HSU : Hid (SU W (.slice au nu cu) us) := by rw [hnu]; exact hu
  have HSC : Hid (SI W (.slice ac nc cc) cs) := by rw [hnc]; exact hc
  have HSK : Hid (SV W (.slice ak nk ck) ks) := by rw [hnk]; exact hk
  have HCN : Hid (pcnts ps ≤ 100000) := by show _ ≤ _; omega
  have hl1 : us.length ≤ 100000 := by omega
  have hl2 : cs.length ≤ 100000 := by omega
  have hl3 : ks.length ≤ 100000 := by omega
  have hl4 : ps.length ≤ 100000 := by have := plen_cnts ps; omega
  rw [← hnu, ← hnc, ← hnk, ← hnp]
  rw [← hnu] at hl1 lu1
  rw [← hnc] at hl2 lc1
  rw [← hnk] at hl3 lk1
  rw [← hnp] at hl4 lp1
  have HHW := hide_p hW
  clear hu hc hk hp hch ih hnu hnc hnk hnp hcnt hW
  obtain ⟨bx, hbx⟩ : ∃ bx, bx = w.heap.size := ⟨_, rfl⟩
  obtain ⟨w0, hw0⟩ : ∃ w0, w0 = (((((w.alloc (.cells #[.int .i64 pa', .int .i64 rg', .slice au nu cu, .slice ac nc cc, .slice ak nk ck, .slice ap np cp] 27)).alloc (.cells #[.int .i64 0, .int .u64 0, .string ⟨#[]⟩, .slice none 0 0] 33)).alloc (.cells #[] 33)).alloc (.cells #[] 33)).alloc (.cells #[] 33)).alloc (.cells #[] 33) := ⟨_, rfl⟩
  have hs0 : w0.heap.size = bx + 6 := by rw [hw0, hbx]; simp
  have HB0 : Hid (Below w.heap.size w w0) := by
    rw [hw0]
    exact ((((((Below.refl _ w).alloc (Nat.le_refl _) _).alloc (by simp) _).alloc (by simp; omega) _).alloc (by simp; omega) _).alloc (by simp; omega) _).alloc (by simp; omega) _
  have HA : Hid (w0.heap[bx]? = some (.cells #[.int .i64 pa', .int .i64 rg', .slice au nu cu, .slice ac nc cc, .slice ak nk ck, .slice ap np cp] 27 (0, 0)) ∧ w0.heap[bx + 1]? = some (.cells #[.int .i64 0, .int .u64 0, .string ⟨#[]⟩, .slice none 0 0] 33 (0, 0)) ∧ w0.heap[bx + 2]? = some (.cells #[] 33 (0, 0)) ∧ w0.heap[bx + 3]? = some (.cells #[] 33 (0, 0)) ∧ w0.heap[bx + 4]? = some (.cells #[] 33 (0, 0)) ∧ w0.heap[bx + 5]? = some (.cells #[] 33 (0, 0))) := by
    rw [hw0, hbx]
    refine ⟨?_, ?_, ?_, ?_, ?_, ?_⟩
    · rw [Below.heap_alloc _ _ _ (by (try simp); (try omega)), Below.heap_alloc _ _ _ (by (try simp); (try omega)), Below.heap_alloc _ _ _ (by (try simp); (try omega)), Below.heap_alloc _ _ _ (by (try simp); (try omega)), Below.heap_alloc _ _ _ (by simp)]
      exact heap_alloc_new w _
    · rw [Below.heap_alloc _ _ _ (by (try simp); (try omega)), Below.heap_alloc _ _ _ (by (try simp); (try omega)), Below.heap_alloc _ _ _ (by (try simp); (try omega)), Below.heap_alloc _ _ _ (by simp)]
      exact heap_alloc_at _ _ _ (by simp)
    · rw [Below.heap_alloc _ _ _ (by (try simp); (try omega)), Below.heap_alloc _ _ _ (by (try simp); (try omega)), Below.heap_alloc _ _ _ (by simp)]
      exact heap_alloc_at _ _ _ (by simp)
    · rw [Below.heap_alloc _ _ _ (by (try simp); (try omega)), Below.heap_alloc _ _ _ (by simp)]
      exact heap_alloc_at _ _ _ (by simp)
    · rw [Below.heap_alloc _ _ _ (by simp)]
      exact heap_alloc_at _ _ _ (by simp)
    · exact heap_alloc_at _ _ _ (by simp)
  go_enter Tryd.func10, Tryd.ntmps10
  go_upto_block 0 with fail
  rw [← hw0]
  simp only [Nat.add_assoc, Nat.reduceAdd] at *
  rw [← hbx]
  have HBX := hide_p hbx
  clear hw0 hbx
  have hub : ∀ i : Nat, i < nu → ∃ g o own pl, au = some ⟨g, o, none⟩ ∧ (us[i]? = some ⟨own, pl⟩) ∧ g < w.heap.size ∧ ∀ w', Below w.heap.size w w' → w'.cell? ⟨g, o + i * 2, none⟩ = some (.bool own) ∧ w'.cell? ⟨g, o + i * 2 + 1, none⟩ = some (.int .i64 pl) := by
    intro i hi
    have i1 : i < us.length := by rw [← HN.out.1]; exact hi
    obtain ⟨-, g, o, rfl, p, q, e, -, e0, e1⟩ := (HSU.out.kept HHW.out (Nat.le_refl _)).get i1
    exact ⟨g, o, p, q, rfl, by rw [List.getElem?_eq_getElem i1, e], World.block_lt_of_cell? w ⟨g, o + i * 2, none⟩ e0, fun w' hb => ⟨cell_kept hb (Nat.le_refl _) e0, cell_kept hb (Nat.le_refl _) e1⟩⟩
  have HUB := hide_p hub
  have HN1 : Hid (∀ (n : Int) (w : World), Calls Tryd.prog 32 #[.int .i64 n] w fun e w' => e = .returned (.agg #[.int .i64 0, .int .u64 (uw n), .string nob, .slice none 0 0]) ∧ Below w.heap.size w w') := rnumber_any
  have HL1 : Hid (∀ (a : Option Addr) (n cap : Nat) (w : World), Calls Tryd.prog 31 #[.slice a n cap] w fun e w' => e = .returned (.agg #[.int .i64 2, .int .u64 0, .string nob, .slice a n cap]) ∧ Below w.heap.size w w') := rflist_any
  clear hub
  go_cut [3] (fun t3 wc => Hid (TR (bx + 6) wc (bx + 2) t3 (us.map upT)) ∧ Hid (Kb (bx + 2) w0 wc))
  case first =>
    go_wp2_with fail
    go_loopw [3, 7] (fun t3 t7 wr => ∃ (i : Nat), i ≤ nu ∧ t7 = .int .i64 i ∧ Hid (TR (bx + 6) wr (bx + 2) t3 ((us.take i).map upT)) ∧ Hid (Kb (bx + 2) w0 wr)) (fun _ t7 _ => nu - (intOf t7).toNat)
    case atStart => exact ⟨0, Nat.zero_le _, rfl, TR.nil HA.out.2.2.1 rfl, Kb.refl _ _⟩
    case round =>
      obtain ⟨i, hi, rfl, HT, HK⟩ := hrel
      have b2 : wr.cell? ⟨bx, 2, none⟩ = some (.slice au nu cu) := HK.out.cell (by omega) (by omega) (by rw [Lib.cell_of_heap HA.out.1]; rfl)
      by_cases c : i < nu
      · have HBw : Hid (Below w.heap.size w wr) := HB0.out.trans (HK.out.below (by have := HBX.out; omega) (by have := HBX.out; omega))
        obtain ⟨g, o, own, pl, rfl, eu, hg, hcc⟩ := HUB.out i c
        obtain ⟨e0, e1⟩ := hcc wr HBw.out
        have hszr : bx + 6 ≤ wr.heap.size := by have := HK.out.size; omega
        have hlen : ((us.take i).map upT).length = i := by rw [List.length_map, List.length_take]; have := HN.out.1; omega
        have HTK : Hid ((us.take (i + 1)).map upT = (us.take i).map upT ++ [lisT [numT (if own then 1 else 0), numT pl]]) := by
          show _ = _
          have i1 : i < us.length := by rw [← HN.out.1]; exact c
          rw [List.take_succ_eq_append_getElem i1, List.map_append]
          rw [List.getElem?_eq_getElem i1] at eu
          injection eu with eu
          rw [eu]
          rfl
        have HGX : Hid (g < bx) := by have := HBX.out; show _ < _; omega
        clear hcc eu
        obtain ⟨ow, how⟩ : ∃ ow : Int, ow = if own then 1 else 0 := ⟨_, rfl⟩
        rw [← how] at HTK
        go_upto_if 31 with fail
        go_cut [8] (fun t8 wc => t8 = .int .i64 ow ∧ wc = wr)
        case first =>
          cases own
          · go_wp2_with fail
            go_meet
            exact ⟨by rw [how]; rfl, rfl⟩
          · go_wp2_with fail
            go_meet
            exact ⟨by rw [how]; rfl, rfl⟩
        case rest =>
          obtain ⟨rfl, hwc⟩ := hcut
          rw [hwc]
          clear hwc
          have q2 : wr.drew.cell? ⟨bx, 2, none⟩ = some (.slice (some ⟨g, o, none⟩) nu cu) := b2
          have q3 : wr.drew.cell? ⟨g, o + i * 2 + 1, none⟩ = some (.int .i64 pl) := e1
          clear e0 e1 b2 how
          go_wp2_with fail
          have hq0 : Below wr.heap.size wr wr.drew := (Below.refl _ _).drew
          go_region_held3 (fun w' => w'.cell? ⟨bx, 2, none⟩ = some (.slice (some ⟨g, o, none⟩) nu cu) ∧ w'.cell? ⟨g, o + i * 2 + 1, none⟩ = some (.int .i64 pl))
            (first
              | exact keep2g (B := bx + 2) (by assumption) hgrow (fun k hk => (ho.lt k hk).1) (by show bx < bx + 2; omega) (by show g < bx + 2; have := HGX.out; omega)
              | exact keep2 (by assumption) hbS (Nat.le_refl _)
              | go_keep)
            (first
              | (go_at_call 32; refine (HN1.out _ _).mono ?_; rintro e w2 ⟨rfl, hbS⟩; have hq := Below.trans (by assumption) (hbS.mono (Below.size (by assumption))))
              | (go_at_call 31; refine (HL1.out _ _ _ _).mono ?_; rintro e w3 ⟨rfl, hbS⟩; have hcs := nums_cs (l := [ow, pl]) (B := wr.heap.size) rfl hq.size (Nat.le_refl 2) (by decide) hbS; have hq3 := (hq.alloc hq.size _).trans (hbS.mono (by simp; have := hq.size; omega)); obtain ⟨xs, ho, hnx⟩ := HT.out.snoc (by omega) (by omega) hq3 hcs (.cells #[.int .i64 2, .int .u64 0, .string nob, .slice (some ⟨w2.heap.size, 0, none⟩) 2 2] 33); rw [hlen] at ho hnx)
              | (refine step_append_lies _ (by rfl) _ _ 31 (by rfl) (bx + 2) 33 i0 _ 4 56 Tryd.underlying31 hi0 hz0 hz1 hz2 rfl (by decide) _ i xs (by rfl) ho ⟨w3.heap.size, 0, none⟩ 1 1 (quad 2 0 nob (.slice (some ⟨w2.heap.size, 0, none⟩) 2 2)) (by rfl) rfl (cells_quad _ _ _ _ _ _) (by intro u hu; simp [quad] at hu; rcases hu with rfl | rfl | rfl | rfl <;> rfl) (by decide) (by unfold maxLen; omega) (by omega) (by have := hq3.size; simp; omega) _ rfl ?_; intro g3 cap3 w4 hown hgrow hat hlt))
          obtain ⟨ht4, hk4⟩ := hnx w4 g3 cap3 hown hgrow (by simpa using hat)
          have HT4 : Hid (TR (bx + 6) w4 (bx + 2) (.slice (some ⟨g3, 0, none⟩) (i + 1) cap3) ((us.take (i + 1)).map upT)) := by
            show TR _ _ _ _ _
            rw [HTK.out]
            exact ht4
          have HK4 : Hid (Kb (bx + 2) w0 w4) := hk4 w0 HK.out (by omega)
          clear ht4 hk4 hnx hown hgrow hat hlt hq3 hcs ho
          go_wp2
          go_roundw
          case rel => exact ⟨i + 1, by omega, by go_num, HT4, HK4⟩
          case measure => simp [intOf]; omega
      · have e : i = nu := by omega
        have et : us.take i = us := List.take_of_length_le (by have := HN.out.1; omega)
        rw [et] at HT
        subst e
        go_wp2_with fail
        go_meet
        exact ⟨HT, HK⟩
  case rest =>
    obtain ⟨HT1, HK1⟩ := hcut
    have hs1 : bx + 6 ≤ wc.heap.size := by have := HK1.out.size; omega
    obtain ⟨B1, hB1⟩ : ∃ B1, B1 = wc.heap.size := ⟨_, rfl⟩
    have HE1 : Hid (B1 = wc.heap.size) := hB1
    rw [← hB1] at hs1
    have HB1 : Hid (Below w.heap.size w wc) := HB0.out.trans (HK1.out.below (by have := HBX.out; omega) (by have := HBX.out; omega))
    have HA1 : Hid (wc.heap[bx]? = w0.heap[bx]? ∧ wc.heap[bx + 1]? = w0.heap[bx + 1]? ∧ wc.heap[bx + 3]? = w0.heap[bx + 3]? ∧ wc.heap[bx + 4]? = w0.heap[bx + 4]? ∧ wc.heap[bx + 5]? = w0.heap[bx + 5]?) :=
      ⟨HK1.out.block _ (by omega) (by omega), HK1.out.block _ (by omega) (by omega), HK1.out.block _ (by omega) (by omega), HK1.out.block _ (by omega) (by omega), HK1.out.block _ (by omega) (by omega)⟩
    have hcb : ∀ i : Nat, i < nc → ∃ g o p q r s, ac = some ⟨g, o, none⟩ ∧ (cs[i]? = some ⟨p, q, r, s⟩) ∧ ∀ w', Below w.heap.size w w' → w'.cell? ⟨g, o + i * 4, none⟩ = some (.int .i64 p) ∧ w'.cell? ⟨g, o + i * 4 + 1, none⟩ = some (.int .i64 q) ∧ w'.cell? ⟨g, o + i * 4 + 2, none⟩ = some (.int .i64 r) ∧ w'.cell? ⟨g, o + i * 4 + 3, none⟩ = some (.int .i64 s) := by
      intro i hi
      have i1 : i < cs.length := by rw [← HN.out.2.1]; exact hi
      obtain ⟨-, g, o, rfl, p, q, r, s, e, -, e0, e1, e2, e3⟩ := (HSC.out.kept HHW.out (Nat.le_refl _)).get i1
      exact ⟨g, o, p, q, r, s, rfl, by rw [List.getElem?_eq_getElem i1, e], fun w' hb => keep4 ⟨e0, e1, e2, e3⟩ hb (Nat.le_refl _)⟩
    have HCB := hide_p hcb
    clear hcb hB1
    go_upto_block 2 with fail
    go_cut [4] (fun t4 wd => Hid (TR B1 wd (bx + 3) t4 (cs.map insT)) ∧ Hid (Kb (bx + 3) wc wd))
    case first =>
      go_wp2_with fail
      go_loopw [4, 9] (fun t4 t9 wr => ∃ (i : Nat), i ≤ nc ∧ t9 = .int .i64 i ∧ Hid (TR B1 wr (bx + 3) t4 ((cs.take i).map insT)) ∧ Hid (Kb (bx + 3) wc wr)) (fun _ t9 _ => nc - (intOf t9).toNat)
      case atStart => exact ⟨0, Nat.zero_le _, rfl, TR.nil (HA1.out.2.2.1.trans HA.out.2.2.2.1) rfl, Kb.refl _ _⟩
      case round =>
        obtain ⟨i, hi, rfl, HT, HK⟩ := hrel
        have b3 : wr.cell? ⟨bx, 3, none⟩ = some (.slice ac nc cc) := HK.out.cell (by have := HE1.out; omega) (by omega) (by rw [Lib.cell_of_heap (HA1.out.1.trans HA.out.1)]; rfl)
        by_cases c : i < nc
        · have hszr : B1 ≤ wr.heap.size := by have := HK.out.size; have := HE1.out; omega
          have HBw : Hid (Below w.heap.size w wr) := HB1.out.trans (HK.out.below (by have := HBX.out; omega) (by have := HBX.out; have := HE1.out; omega))
          obtain ⟨g, o, p, q, r, s, rfl, eu, hcc⟩ := HCB.out i c
          obtain ⟨e0, e1, e2, e3⟩ := hcc wr HBw.out
          have hlen : ((cs.take i).map insT).length = i := by rw [List.length_map, List.length_take]; have := HN.out.2.1; omega
          have HTK : Hid ((cs.take (i + 1)).map insT = (cs.take i).map insT ++ [lisT [numT p, numT q, numT r, numT s]]) := by
            show _ = _
            have i1 : i < cs.length := by rw [← HN.out.2.1]; exact c
            rw [List.take_succ_eq_append_getElem i1, List.map_append]
            rw [List.getElem?_eq_getElem i1] at eu
            injection eu with eu
            rw [eu]
            rfl
          have HOL : Hid (∀ k, u4.ownBlock = some k → k ≠ wr.heap.size) := fun k hk => by have := (HT.out.ownlt k hk).2; omega
          clear hcc eu
          go_wp2_with fail
          generalize hWq : World.alloc wr _ = wq
          have hqa : Below wr.heap.size wr wq := by rw [← hWq]; exact (Below.refl _ _).alloc (Nat.le_refl _) _
          have hq0 : Below wr.heap.size wr wq.drew := hqa.drew
          have hbk : wq.drew.heap[wr.heap.size]? = some (.cells #[.int .i64 p, .int .i64 q, .int .i64 r, .int .i64 s] 58 (0, 0)) := by rw [← hWq]; exact heap_alloc_new wr _
          obtain ⟨y0, y1, y2, y3⟩ := block4 hbk
          clear e0 e1 e2 e3 b3 hbk hWq hqa
          go_region_held3 (fun w' => w'.cell? ⟨wr.heap.size, 0, none⟩ = some (.int .i64 p) ∧ w'.cell? ⟨wr.heap.size, 1, none⟩ = some (.int .i64 q) ∧ w'.cell? ⟨wr.heap.size, 2, none⟩ = some (.int .i64 r) ∧ w'.cell? ⟨wr.heap.size, 3, none⟩ = some (.int .i64 s))
            (first
              | exact keep4g (by assumption) hgrow HOL.out
              | exact keep4 (by assumption) hbS (Nat.le_refl _)
              | go_keep)
            (first
              | (go_at_call 32; refine (HN1.out _ _).mono ?_; rintro e w2 ⟨rfl, hbS⟩; have hq := Below.trans (by assumption) (hbS.mono (Below.size (by assumption))))
              | (go_at_call 31; refine (HL1.out _ _ _ _).mono ?_; rintro e w3 ⟨rfl, hbS⟩; have hcs := nums_cs (l := [p, q, r, s]) (B := wr.heap.size) rfl hq.size (Nat.le_refl 4) (by decide) hbS; have hq3 := (hq.alloc hq.size _).trans (hbS.mono (by simp; have := hq.size; omega)); obtain ⟨xs, ho, hnx⟩ := HT.out.snoc (by omega) (by omega) hq3 hcs (.cells #[.int .i64 2, .int .u64 0, .string nob, .slice (some ⟨w2.heap.size, 0, none⟩) 4 4] 33); rw [hlen] at ho hnx)
              | (refine step_append_lies _ (by rfl) _ _ 31 (by rfl) (bx + 3) 33 i0 _ 4 56 Tryd.underlying31 hi0 hz0 hz1 hz2 rfl (by decide) _ i xs (by rfl) ho ⟨w3.heap.size, 0, none⟩ 1 1 (quad 2 0 nob (.slice (some ⟨w2.heap.size, 0, none⟩) 4 4)) (by rfl) rfl (cells_quad _ _ _ _ _ _) (by intro u hu; simp [quad] at hu; rcases hu with rfl | rfl | rfl | rfl <;> rfl) (by decide) (by unfold maxLen; omega) (by omega) (by have := hq3.size; simp; omega) _ rfl ?_; intro g3 cap3 w4 hown hgrow hat hlt))
          obtain ⟨ht4, hk4⟩ := hnx w4 g3 cap3 hown hgrow (by simpa using hat)
          have HT4 : Hid (TR B1 w4 (bx + 3) (.slice (some ⟨g3, 0, none⟩) (i + 1) cap3) ((cs.take (i + 1)).map insT)) := by
            show TR _ _ _ _ _
            rw [HTK.out]
            exact ht4
          have HK4 : Hid (Kb (bx + 3) wc w4) := hk4 wc HK.out (by have := HE1.out; omega)
          clear ht4 hk4 hnx hown hgrow hat hlt hq3 hcs ho
          go_wp2
          go_roundw
          case rel => exact ⟨i + 1, by omega, by go_num, HT4, HK4⟩
          case measure => simp [intOf]; omega
        · have e : i = nc := by omega
          have et : cs.take i = cs := List.take_of_length_le (by have := HN.out.2.1; omega)
          rw [et] at HT
          subst e
          go_wp2_with fail
          go_meet
          exact ⟨HT, HK⟩
    case rest =>
      obtain ⟨HT2, HK2⟩ := hcut
      have HT1' := hide_p (HT1.out.kb HK2.out (by omega) (by omega))
      clear HT1
      have HB2 : Hid (Below w.heap.size w wc) := HB1.out.trans (HK2.out.below (by have := HBX.out; omega) (by have := HBX.out; have := HE1.out; omega))
      have HA2 : Hid (wc.heap[bx]? = w0.heap[bx]? ∧ wc.heap[bx + 1]? = w0.heap[bx + 1]? ∧ wc.heap[bx + 4]? = w0.heap[bx + 4]? ∧ wc.heap[bx + 5]? = w0.heap[bx + 5]?) := by
        have hE := HE1.out
        exact ⟨(HK2.out.block _ (by omega) (by omega)).trans HA1.out.1, (HK2.out.block _ (by omega) (by omega)).trans HA1.out.2.1, (HK2.out.block _ (by omega) (by omega)).trans HA1.out.2.2.2.1, (HK2.out.block _ (by omega) (by omega)).trans HA1.out.2.2.2.2⟩
      obtain ⟨B2, hB2⟩ : ∃ B2, B2 = wc.heap.size := ⟨_, rfl⟩
      have HE2 : Hid (B2 = wc.heap.size) := hB2
      have hs2 : B1 ≤ B2 := by have := HK2.out.size; have := HE1.out; omega
      have hkb : ∀ i : Nat, i < nk → ∃ g o p qn r s, ak = some ⟨g, o, none⟩ ∧ (ks[i]? = some ⟨p, ((qn : Nat) : Int), r, s⟩) ∧ qn < 18446744073709551616 ∧ r.size ≤ 9223372036854775807 ∧ ∀ w', Below w.heap.size w w' → w'.cell? ⟨g, o + i * 4, none⟩ = some (.int .i64 p) ∧ w'.cell? ⟨g, o + i * 4 + 1, none⟩ = some (.int .u64 (qn : Int)) ∧ w'.cell? ⟨g, o + i * 4 + 2, none⟩ = some (.string r) ∧ w'.cell? ⟨g, o + i * 4 + 3, none⟩ = some (.int .i64 s) := by
        intro i hi
        have i1 : i < ks.length := by rw [← HN.out.2.2.1]; exact hi
        obtain ⟨-, g, o, rfl, p, q, r, s, e, ⟨-, hq, hr, -⟩, e0, e1, e2, e3⟩ := (HSK.out.kept HHW.out (Nat.le_refl _)).get i1
        obtain ⟨qn, rfl⟩ : ∃ qn : Nat, q = qn := ⟨q.toNat, by omega⟩
        exact ⟨g, o, p, qn, r, s, rfl, by rw [List.getElem?_eq_getElem i1, e], by omega, by unfold far at hr; omega, fun w' hb => keep4 ⟨e0, e1, e2, e3⟩ hb (Nat.le_refl _)⟩
      have HKB := hide_p hkb
      have HM1 : Hid (∀ (n : Nat) (w : World), Calls Tryd.prog 33 #[.int .u64 n] w fun e w' => e = .returned (.agg #[.int .i64 0, .int .u64 n, .string nob, .slice none 0 0]) ∧ Below w.heap.size w w') := rfnumber_any
      have HX1 : Hid (∀ (r : ByteArray) (w : World), Calls Tryd.prog 34 #[.string r] w fun e w' => e = .returned (.agg #[.int .i64 1, .int .u64 0, .string r, .slice none 0 0]) ∧ Below w.heap.size w w') := rftext_any
      clear hkb hB2
      go_upto_block 4 with fail
      go_cut [5] (fun t5 wd => Hid (TR B2 wd (bx + 4) t5 (ks.map vlT)) ∧ Hid (Kb (bx + 4) wc wd))
      case first =>
        go_wp2_with fail
        go_loopw [5, 11] (fun t5 t11 wr => ∃ (i : Nat), i ≤ nk ∧ t11 = .int .i64 i ∧ Hid (TR B2 wr (bx + 4) t5 ((ks.take i).map vlT)) ∧ Hid (Kb (bx + 4) wc wr)) (fun _ t11 _ => nk - (intOf t11).toNat)
        case atStart => exact ⟨0, Nat.zero_le _, rfl, TR.nil (HA2.out.2.2.1.trans HA.out.2.2.2.2.1) rfl, Kb.refl _ _⟩
        case round =>
          obtain ⟨i, hi, rfl, HT, HK⟩ := hrel
          have b4 : wr.cell? ⟨bx, 4, none⟩ = some (.slice ak nk ck) := HK.out.cell (by have := HE2.out; omega) (by omega) (by rw [Lib.cell_of_heap (HA2.out.1.trans HA.out.1)]; rfl)
          by_cases c : i < nk
          · have hszr : B2 ≤ wr.heap.size := by have := HK.out.size; have := HE2.out; omega
            have HBw : Hid (Below w.heap.size w wr) := HB2.out.trans (HK.out.below (by have := HBX.out; omega) (by have := HBX.out; have := HE2.out; omega))
            obtain ⟨g, o, p, qn, r, s, rfl, eu, hqn, hr9, hcc⟩ := HKB.out i c
            obtain ⟨e0, e1, e2, e3⟩ := hcc wr HBw.out
            have hlen : ((ks.take i).map vlT).length = i := by rw [List.length_map, List.length_take]; have := HN.out.2.2.1; omega
            have HTK : Hid ((ks.take (i + 1)).map vlT = (ks.take i).map vlT ++ [vlT ⟨p, (qn : Int), r, s⟩]) := by
              show _ = _
              have i1 : i < ks.length := by rw [← HN.out.2.2.1]; exact c
              rw [List.take_succ_eq_append_getElem i1, List.map_append]
              rw [List.getElem?_eq_getElem i1] at eu
              injection eu with eu
              rw [eu]
              rfl
            clear hcc eu
            go_wp2_with fail
            refine (HN1.out _ _).mono ?_
            rintro e w2 ⟨rfl, hb2⟩
            have HQ2 : Hid (Below wr.heap.size wr w2) := ((Below.refl _ wr).alloc (Nat.le_refl _) _).trans (hb2.mono (by simp))
            have hw2 : wr.heap.size < w2.heap.size := by have := hb2.size; simp at this; omega
            obtain ⟨x0, x1, x2, x3⟩ := block4 ((hb2.block wr.heap.size (by simp)).trans (heap_alloc_new wr _))
            have y0 : (w2.alloc (.cells #[.int .i64 0, .int .u64 (uw p), .string nob, .slice none 0 0] 33)).cell? ⟨wr.heap.size, 0, none⟩ = some (.int .i64 p) := (World.cell?_alloc_lt _ _ _ hw2).trans x0
            have y1 : (w2.alloc (.cells #[.int .i64 0, .int .u64 (uw p), .string nob, .slice none 0 0] 33)).cell? ⟨wr.heap.size, 1, none⟩ = some (.int .u64 qn) := (World.cell?_alloc_lt _ _ _ hw2).trans x1
            have y2 : (w2.alloc (.cells #[.int .i64 0, .int .u64 (uw p), .string nob, .slice none 0 0] 33)).cell? ⟨wr.heap.size, 2, none⟩ = some (.string r) := (World.cell?_alloc_lt _ _ _ hw2).trans x2
            have y3 : True := trivial
            have HL := hide_p (tw_one w2 (uw p) (uw_lt p))
            have HQ : Hid (Below wr.heap.size wr (w2.alloc (.cells #[.int .i64 0, .int .u64 (uw p), .string nob, .slice none 0 0] 33))) := HQ2.out.alloc (by omega) _
            clear e0 e1 e2 e3 b4 x0 x1 x2 x3 hb2 HQ2
            by_cases c3 : p = 3
            · have hpk : vlT ⟨p, (qn : Int), r, s⟩ = lisT [numT 3, .mk 0 qn nob []] := by rw [c3]; rfl
              rw [hpk] at HTK
              subst c3
              go_wp2_with fail
              refine (HM1.out qn _).mono ?_
              rintro e w5 ⟨rfl, hb5⟩
              obtain ⟨xs, -, ho, hnx⟩ := HL.out.snoc (by simp) hb5 (cs_num qn (by omega)) (.cells #[.int .i64 0, .int .u64 qn, .string nob, .slice none 0 0] 33)
              have HNX := hide_p hnx
              have hs5 := hb5.size
              have HQ5 : Hid (Below wr.heap.size wr w5) := HQ.out.trans (hb5.mono HQ.out.size)
              have z0 : w5.cell? ⟨wr.heap.size, 0, none⟩ = some (.int .i64 3) := cell_kept hb5 (Nat.le_refl _) y0
              have hs6 : w2.heap.size + 1 ≤ w5.heap.size := by simpa using hs5
              have hlt5 : wr.heap.size < w5.heap.size := by omega
              clear hb5 hnx hs5 HL HQ y0 y1 y2 y3
              go_wp2_with (at_builtin; refine wpList_append_lies _ rfl _ _ 31 rfl w2.heap.size 33 i0 _ 4 56 Tryd.underlying31 hi0 hz0 hz1 hz2 rfl (by decide) _ 1 xs rfl ho ⟨w5.heap.size, 0, none⟩ 1 1 (quad 0 qn nob (.slice none 0 0)) rfl rfl (cells_quad _ _ _ _ _ _) (by intro u hu; simp [quad] at hu; rcases hu with rfl | rfl | rfl | rfl <;> rfl) (by decide) (by unfold maxLen; omega) (by omega) (by simp; omega) _ rfl ?_)
              intro g6 cap6 w6 hown hgrow hat hlt
              have HL : Hid (TW w6 w2.heap.size (.slice (some ⟨g6, 0, none⟩) 2 cap6) [numT 3, .mk 0 qn nob []]) := HNX.out w6 g6 cap6 hown hgrow (by simpa using hat)
              have HQ : Hid (Below wr.heap.size wr w6) := (HQ5.out.alloc (by omega) _).grown hgrow (by simp; omega) (fun k hk => by have := (ho.lt k hk).1; omega)
              have y0 : w6.cell? ⟨wr.heap.size, 0, none⟩ = some (.int .i64 3) := by
                rw [hgrow.cell_far ⟨wr.heap.size, 0, none⟩ (by simp; omega) (fun e => by have := (ho.lt _ e.symm).1; simp at this; omega), World.cell?_alloc_lt _ _ _ hlt5]
                exact z0
              clear HNX hown hgrow hat hlt ho z0 HQ5
              go_wp2_with fail
              refine (HL1.out _ _ _ _).mono ?_
              rintro e w7 ⟨rfl, hb7⟩
              have hcs := tw_cs HL.out rfl (B' := wr.heap.size) (by omega) hb7
              have hq7 : Below wr.heap.size wr w7 := HQ.out.trans (hb7.mono HQ.out.size)
              obtain ⟨xs, ho, hnx⟩ := HT.out.snoc (by omega) (by omega) hq7 hcs (.cells #[.int .i64 2, .int .u64 0, .string nob, .slice (some ⟨g6, 0, none⟩) 2 cap6] 33)
              rw [hlen] at ho hnx
              have HNX := hide_p hnx
              have hs7 := hq7.size
              clear hb7 hcs hnx hq7
              go_wp2_with (at_builtin; refine wpList_append_lies _ rfl _ _ 31 rfl (bx + 4) 33 i0 _ 4 56 Tryd.underlying31 hi0 hz0 hz1 hz2 rfl (by decide) _ i xs rfl ho ⟨w7.heap.size, 0, none⟩ 1 1 (quad 2 0 nob (.slice (some ⟨g6, 0, none⟩) 2 cap6)) rfl rfl (cells_quad _ _ _ _ _ _) (by intro u hu; simp [quad] at hu; rcases hu with rfl | rfl | rfl | rfl <;> rfl) (by decide) (by unfold maxLen; omega) (by omega) (by simp; omega) _ rfl ?_)
              intro g8 cap8 w8 hown hgrow hat hlt
              obtain ⟨ht8, hk8⟩ := HNX.out w8 g8 cap8 hown hgrow (by simpa using hat)
              have HT8 : Hid (TR B2 w8 (bx + 4) (.slice (some ⟨g8, 0, none⟩) (i + 1) cap8) ((ks.take (i + 1)).map vlT)) := by
                show TR _ _ _ _ _
                rw [HTK.out]
                exact ht8
              have HK8 : Hid (Kb (bx + 4) wc w8) := hk8 wc HK.out (by have := HE2.out; omega)
              clear ht8 hk8 HNX hown hgrow hat hlt ho
              go_wp2
              go_roundw
              case rel => exact ⟨i + 1, by omega, by go_num, HT8, HK8⟩
              case measure => simp [intOf]; omega
            · by_cases c4 : p = 4
              · have hpk : vlT ⟨p, (qn : Int), r, s⟩ = lisT [numT 4, .mk 1 0 r []] := by rw [c4]; rfl
                rw [hpk] at HTK
                subst c4
                go_wp2_with fail
                refine (HX1.out r _).mono ?_
                rintro e w5 ⟨rfl, hb5⟩
                obtain ⟨xs, -, ho, hnx⟩ := HL.out.snoc (by simp) hb5 (cs_txt r hr9) (.cells #[.int .i64 1, .int .u64 0, .string r, .slice none 0 0] 33)
                have HNX := hide_p hnx
                have hs5 := hb5.size
                have HQ5 : Hid (Below wr.heap.size wr w5) := HQ.out.trans (hb5.mono HQ.out.size)
                have z0 : w5.cell? ⟨wr.heap.size, 0, none⟩ = some (.int .i64 4) := cell_kept hb5 (Nat.le_refl _) y0
                have hs6 : w2.heap.size + 1 ≤ w5.heap.size := by simpa using hs5
                have hlt5 : wr.heap.size < w5.heap.size := by omega
                clear hb5 hnx hs5 HL HQ y0 y1 y2 y3
                go_wp2_with (at_builtin; refine wpList_append_lies _ rfl _ _ 31 rfl w2.heap.size 33 i0 _ 4 56 Tryd.underlying31 hi0 hz0 hz1 hz2 rfl (by decide) _ 1 xs rfl ho ⟨w5.heap.size, 0, none⟩ 1 1 (quad 1 0 r (.slice none 0 0)) rfl rfl (cells_quad _ _ _ _ _ _) (by intro u hu; simp [quad] at hu; rcases hu with rfl | rfl | rfl | rfl <;> rfl) (by decide) (by unfold maxLen; omega) (by omega) (by simp; omega) _ rfl ?_)
                intro g6 cap6 w6 hown hgrow hat hlt
                have HL : Hid (TW w6 w2.heap.size (.slice (some ⟨g6, 0, none⟩) 2 cap6) [numT 4, .mk 1 0 r []]) := HNX.out w6 g6 cap6 hown hgrow (by simpa using hat)
                have HQ : Hid (Below wr.heap.size wr w6) := (HQ5.out.alloc (by omega) _).grown hgrow (by simp; omega) (fun k hk => by have := (ho.lt k hk).1; omega)
                have y0 : w6.cell? ⟨wr.heap.size, 0, none⟩ = some (.int .i64 4) := by
                  rw [hgrow.cell_far ⟨wr.heap.size, 0, none⟩ (by simp; omega) (fun e => by have := (ho.lt _ e.symm).1; simp at this; omega), World.cell?_alloc_lt _ _ _ hlt5]
                  exact z0
                clear HNX hown hgrow hat hlt ho z0 HQ5
                go_wp2_with fail
                refine (HL1.out _ _ _ _).mono ?_
                rintro e w7 ⟨rfl, hb7⟩
                have hcs := tw_cs HL.out rfl (B' := wr.heap.size) (by omega) hb7
                have hq7 : Below wr.heap.size wr w7 := HQ.out.trans (hb7.mono HQ.out.size)
                obtain ⟨xs, ho, hnx⟩ := HT.out.snoc (by omega) (by omega) hq7 hcs (.cells #[.int .i64 2, .int .u64 0, .string nob, .slice (some ⟨g6, 0, none⟩) 2 cap6] 33)
                rw [hlen] at ho hnx
                have HNX := hide_p hnx
                have hs7 := hq7.size
                clear hb7 hcs hnx hq7
                go_wp2_with (at_builtin; refine wpList_append_lies _ rfl _ _ 31 rfl (bx + 4) 33 i0 _ 4 56 Tryd.underlying31 hi0 hz0 hz1 hz2 rfl (by decide) _ i xs rfl ho ⟨w7.heap.size, 0, none⟩ 1 1 (quad 2 0 nob (.slice (some ⟨g6, 0, none⟩) 2 cap6)) rfl rfl (cells_quad _ _ _ _ _ _) (by intro u hu; simp [quad] at hu; rcases hu with rfl | rfl | rfl | rfl <;> rfl) (by decide) (by unfold maxLen; omega) (by omega) (by simp; omega) _ rfl ?_)
                intro g8 cap8 w8 hown hgrow hat hlt
                obtain ⟨ht8, hk8⟩ := HNX.out w8 g8 cap8 hown hgrow (by simpa using hat)
                have HT8 : Hid (TR B2 w8 (bx + 4) (.slice (some ⟨g8, 0, none⟩) (i + 1) cap8) ((ks.take (i + 1)).map vlT)) := by
                  show TR _ _ _ _ _
                  rw [HTK.out]
                  exact ht8
                have HK8 : Hid (Kb (bx + 4) wc w8) := hk8 wc HK.out (by have := HE2.out; omega)
                clear ht8 hk8 HNX hown hgrow hat hlt ho
                go_wp2
                go_roundw
                case rel => exact ⟨i + 1, by omega, by go_num, HT8, HK8⟩
                case measure => simp [intOf]; omega
              · have hpk : vlT ⟨p, (qn : Int), r, s⟩ = lisT [numT p] := by unfold vlT; simp only [c3, c4, if_false]
                rw [hpk] at HTK
                go_wp2_with fail
                refine (HL1.out _ _ _ _).mono ?_
                rintro e w7 ⟨rfl, hb7⟩
                have hcs := tw_cs HL.out rfl (B' := wr.heap.size) (by omega) hb7
                have hq7 : Below wr.heap.size wr w7 := HQ.out.trans (hb7.mono HQ.out.size)
                obtain ⟨xs, ho, hnx⟩ := HT.out.snoc (by omega) (by omega) hq7 hcs (.cells #[.int .i64 2, .int .u64 0, .string nob, .slice (some ⟨w2.heap.size, 0, none⟩) 1 1] 33)
                rw [hlen] at ho hnx
                have HNX := hide_p hnx
                have hs7 := hq7.size
                clear hb7 hcs hnx hq7
                go_wp2_with (at_builtin; refine wpList_append_lies _ rfl _ _ 31 rfl (bx + 4) 33 i0 _ 4 56 Tryd.underlying31 hi0 hz0 hz1 hz2 rfl (by decide) _ i xs rfl ho ⟨w7.heap.size, 0, none⟩ 1 1 (quad 2 0 nob (.slice (some ⟨w2.heap.size, 0, none⟩) 1 1)) rfl rfl (cells_quad _ _ _ _ _ _) (by intro u hu; simp [quad] at hu; rcases hu with rfl | rfl | rfl | rfl <;> rfl) (by decide) (by unfold maxLen; omega) (by omega) (by simp; omega) _ rfl ?_)
                intro g8 cap8 w8 hown hgrow hat hlt
                obtain ⟨ht8, hk8⟩ := HNX.out w8 g8 cap8 hown hgrow (by simpa using hat)
                have HT8 : Hid (TR B2 w8 (bx + 4) (.slice (some ⟨g8, 0, none⟩) (i + 1) cap8) ((ks.take (i + 1)).map vlT)) := by
                  show TR _ _ _ _ _
                  rw [HTK.out]
                  exact ht8
                have HK8 : Hid (Kb (bx + 4) wc w8) := hk8 wc HK.out (by have := HE2.out; omega)
                clear ht8 hk8 HNX hown hgrow hat hlt ho
                go_wp2
                go_roundw
                case rel => exact ⟨i + 1, by omega, by go_num, HT8, HK8⟩
                case measure => simp [intOf]; omega
          · have e : i = nk := by omega
            have et : ks.take i = ks := List.take_of_length_le (by have := HN.out.2.2.1; omega)
            rw [et] at HT
            subst e
            go_wp2_with fail
            go_meet
            exact ⟨HT, HK⟩
      case rest =>
        obtain ⟨HT3, HK3⟩ := hcut
        have HT1 := hide_p (HT1'.out.kb HK3.out (by omega) (by omega))
        have HT2' := hide_p (HT2.out.kb HK3.out (by omega) (by omega))
        clear HT1' HT2
        have HB3 : Hid (Below w.heap.size w wc) := HB2.out.trans (HK3.out.below (by have := HBX.out; omega) (by have := HBX.out; have := HE2.out; omega))
        have HA3 : Hid (wc.heap[bx]? = w0.heap[bx]? ∧ wc.heap[bx + 1]? = w0.heap[bx + 1]? ∧ wc.heap[bx + 5]? = w0.heap[bx + 5]?) := by
          have hE := HE2.out
          exact ⟨(HK3.out.block _ (by omega) (by omega)).trans HA2.out.1, (HK3.out.block _ (by omega) (by omega)).trans HA2.out.2.1, (HK3.out.block _ (by omega) (by omega)).trans HA2.out.2.2.2⟩
        obtain ⟨B3, hB3⟩ : ∃ B3, B3 = wc.heap.size := ⟨_, rfl⟩
        have HE3 : Hid (B3 = wc.heap.size) := hB3
        have hs3 : B2 ≤ B3 := by have := HK3.out.size; have := HE2.out; omega
        clear hB3
        go_upto_block 6 with fail
        go_cut [6] (fun t6 wd => Hid (TR B3 wd (bx + 5) t6 (ps.map cellT)) ∧ Hid (Kb (bx + 5) wc wd))
        case first =>
          go_wp2_with fail
          go_loopw [6, 14] (fun t6 t14 wr => ∃ (i : Nat), i ≤ np ∧ t14 = .int .i64 i ∧ Hid (TR B3 wr (bx + 5) t6 ((ps.take i).map cellT)) ∧ Hid (Kb (bx + 5) wc wr)) (fun _ t14 _ => np - (intOf t14).toNat)
          case atStart => exact ⟨0, Nat.zero_le _, rfl, TR.nil (HA3.out.2.2.trans HA.out.2.2.2.2.2) rfl, Kb.refl _ _⟩
          case round =>
            obtain ⟨i, hi, rfl, HT, HK⟩ := hrel
            have b5 : wr.cell? ⟨bx, 5, none⟩ = some (.slice ap np cp) := HK.out.cell (by have := HE3.out; omega) (by omega) (by rw [Lib.cell_of_heap (HA3.out.1.trans HA.out.1)]; rfl)
            by_cases c : i < np
            · have hszr : B3 ≤ wr.heap.size := by have := HK.out.size; have := HE3.out; omega
              have HBw : Hid (Below w.heap.size w wr) := HB3.out.trans (HK.out.below (by have := HBX.out; omega) (by have := HBX.out; have := HE3.out; omega))
              have HBW : Hid (Below W.heap.size W wr) := HHW.out.trans (HBw.out.mono HHW.out.size)
              have i1 : i < ps.length := by rw [← HN.out.2.2.2]; exact c
              obtain ⟨-, g, o, rfl, e0, e1, e2, e3, e4, e5⟩ := SP.get (HSP.out.kept HBW.out (Nat.le_refl _)) i1
              have hcall := HI.out ps[i] (List.getElem_mem i1) (f i) W wr (HCH.out i i1) HBW.out (by have := pcnts_get i i1; have := HCN.out; omega)
              have hlen : ((ps.take i).map cellT).length = i := by rw [List.length_map, List.length_take]; omega
              have HTK : Hid ((ps.take (i + 1)).map cellT = (ps.take i).map cellT ++ [cellT ps[i]]) := by
                show _ = _
                rw [List.take_succ_eq_append_getElem i1, List.map_append]
                rfl
              generalize cellT ps[i] = ct at *
              unfold Six.v at hcall
              generalize f i = z at *
              obtain ⟨ypa, yrg, yu, yc, yk, yp⟩ := z
              simp only at e0 e1 e2 e3 e4 e5 hcall
              clear i1
              go_wp2_with fail
              refine hcall.mono ?_
              rintro e w2 ⟨v2, rfl, hcs, hb2⟩
              obtain ⟨k2, n2, s2, a2, m2, cap2, rfl⟩ := hcs.form
              obtain ⟨xs, ho, hnx⟩ := HT.out.snoc (by omega) (by omega) hb2 hcs (.cells #[.int .i64 k2, .int .u64 n2, .string s2, .slice a2 m2 cap2] 33)
              rw [hlen] at ho hnx
              have HNX := hide_p hnx
              have hs7 := hb2.size
              unfold cellV
              clear hb2 hcs hnx hcall e0 e1 e2 e3 e4 e5
              go_wp2_with (at_builtin; refine wpList_append_lies _ rfl _ _ 31 rfl (bx + 5) 33 i0 _ 4 56 Tryd.underlying31 hi0 hz0 hz1 hz2 rfl (by decide) _ i xs rfl ho ⟨w2.heap.size, 0, none⟩ 1 1 (quad k2 n2 s2 (.slice a2 m2 cap2)) rfl rfl (cells_quad _ _ _ _ _ _) (by intro u hu; simp [quad] at hu; rcases hu with rfl | rfl | rfl | rfl <;> rfl) (by decide) (by unfold maxLen; omega) (by omega) (by simp; omega) _ rfl ?_)
              intro g8 cap8 w8 hown hgrow hat hlt
              obtain ⟨ht8, hk8⟩ := HNX.out w8 g8 cap8 hown hgrow (by simpa using hat)
              have HT8 : Hid (TR B3 w8 (bx + 5) (.slice (some ⟨g8, 0, none⟩) (i + 1) cap8) ((ps.take (i + 1)).map cellT)) := by
                show TR _ _ _ _ _
                rw [HTK.out]
                exact ht8
              have HK8 : Hid (Kb (bx + 5) wc w8) := hk8 wc HK.out (by have := HE3.out; omega)
              clear ht8 hk8 HNX hown hgrow hat hlt ho
              go_wp2
              go_roundw
              case rel => exact ⟨i + 1, by omega, by go_num, HT8, HK8⟩
              case measure => simp [intOf]; omega
            · have e : i = np := by omega
              have et : ps.take i = ps := List.take_of_length_le (by have := HN.out.2.2.2; omega)
              rw [et] at HT
              subst e
              go_wp2_with fail
              go_meet
              exact ⟨HT, HK⟩
        case rest =>
          obtain ⟨HT4, HK4⟩ := hcut
          have HT1' := hide_p (HT1.out.kb HK4.out (by omega) (by omega))
          have HT2 := hide_p (HT2'.out.kb HK4.out (by omega) (by omega))
          have HT3' := hide_p (HT3.out.kb HK4.out (by omega) (by omega))
          have HB4 : Hid (Below w.heap.size w wc) := HB3.out.trans (HK4.out.below (by have := HBX.out; omega) (by have := HBX.out; have := HE3.out; omega))
          have HA4 : Hid (wc.heap[bx]? = some (.cells #[.int .i64 pa', .int .i64 rg', .slice au nu cu, .slice ac nc cc, .slice ak nk ck, .slice ap np cp] 27 (0, 0)) ∧ wc.heap[bx + 1]? = some (.cells #[.int .i64 0, .int .u64 0, .string ⟨#[]⟩, .slice none 0 0] 33 (0, 0))) := by
            have hE := HE3.out
            exact ⟨((HK4.out.block _ (by omega) (by omega)).trans HA3.out.1).trans HA.out.1, ((HK4.out.block _ (by omega) (by omega)).trans HA3.out.2.1).trans HA.out.2.1⟩
          have hs4 : B3 ≤ wc.heap.size := by have := HK4.out.size; have := HE3.out; omega
          obtain ⟨-, a3, c3, q3⟩ := HT1'.out.tw
          obtain ⟨-, a4, c4, q4⟩ := HT2.out.tw
          obtain ⟨-, a5, c5, q5⟩ := HT3'.out.tw
          obtain ⟨-, a6, c6, q6⟩ := HT4.out.tw
          have l3 : (us.map upT).length = nu := by rw [List.length_map]; exact HN.out.1.symm
          have l4 : (cs.map insT).length = nc := by rw [List.length_map]; exact HN.out.2.1.symm
          have l5 : (ks.map vlT).length = nk := by rw [List.length_map]; exact HN.out.2.2.1.symm
          have l6 : (ps.map cellT).length = np := by rw [List.length_map]; exact HN.out.2.2.2.symm
          rw [l3] at q3
          rw [l4] at q4
          rw [l5] at q5
          rw [l6] at q6
          subst q3 q4 q5 q6
          have HFIN : Hid (∀ (w8 w9 : World), Below wc.heap.size wc w8 → Below (w8.alloc (.cells #[.int .i64 0, .int .u64 (uw pa'), .string nob, .slice none 0 0, .int .i64 0, .int .u64 (uw rg'), .string nob, .slice none 0 0, .int .i64 2, .int .u64 0, .string nob, .slice a3 nu c3, .int .i64 2, .int .u64 0, .string nob, .slice a4 nc c4, .int .i64 2, .int .u64 0, .string nob, .slice a5 nk c5, .int .i64 2, .int .u64 0, .string nob, .slice a6 np c6] 33)).heap.size (w8.alloc (.cells #[.int .i64 0, .int .u64 (uw pa'), .string nob, .slice none 0 0, .int .i64 0, .int .u64 (uw rg'), .string nob, .slice none 0 0, .int .i64 2, .int .u64 0, .string nob, .slice a3 nu c3, .int .i64 2, .int .u64 0, .string nob, .slice a4 nc c4, .int .i64 2, .int .u64 0, .string nob, .slice a5 nk c5, .int .i64 2, .int .u64 0, .string nob, .slice a6 np c6] 33)) w9 →
              ∀ W9 : World, W9 = (((w9.setCell ⟨bx + 1, 0, none⟩ (.int .i64 2)).setCell ⟨bx + 1, 1, none⟩ (.int .u64 0)).setCell ⟨bx + 1, 2, none⟩ (.string nob)).setCell ⟨bx + 1, 3, none⟩ (.slice (some ⟨w8.heap.size, 0, none⟩) 6 6) →
              W9.heap[bx + 1]? = some (.cells #[.int .i64 2, .int .u64 0, .string nob, .slice (some ⟨w8.heap.size, 0, none⟩) 6 6] 33 (0, 0)) ∧ CS W9 (fun k => w.heap.size ≤ k) (lisT [numT pa', numT rg', lisT (us.map upT), lisT (cs.map insT), lisT (ks.map vlT), lisT (ps.map cellT)]) (cellV 2 0 nob (.slice (some ⟨w8.heap.size, 0, none⟩) 6 6)) ∧ Below w.heap.size w W9) := by
            intro w8 w9 h8 h9 W9 hW9
            have hbx := HBX.out
            have s8 := h8.size
            have s9 := h9.size
            simp only [World.size_alloc] at s9
            have k9 : Kb (bx + 1) wc w9 := Kb.of_below ((h8.alloc s8 _).trans (h9.mono (by simp; omega)))
            have k10 : Kb (bx + 1) wc W9 := by rw [hW9]; exact k9.set4 _ _ _ _
            refine ⟨?_, ?_, ?_⟩
            · rw [hW9]
              refine set4_block (x0 := .int .i64 0) (x1 := .int .u64 0) (x2 := .string nob) (x3 := .slice none 0 0) ?_ _ _ _ _
              exact (((h8.alloc s8 _).trans (h9.mono (by simp; omega))).block (bx + 1) (by omega)).trans HA4.out.2
            · have hblk : W9.heap[w8.heap.size]? = some (.cells #[.int .i64 0, .int .u64 (uw pa'), .string nob, .slice none 0 0, .int .i64 0, .int .u64 (uw rg'), .string nob, .slice none 0 0, .int .i64 2, .int .u64 0, .string nob, .slice a3 nu c3, .int .i64 2, .int .u64 0, .string nob, .slice a4 nc c4, .int .i64 2, .int .u64 0, .string nob, .slice a5 nk c5, .int .i64 2, .int .u64 0, .string nob, .slice a6 np c6] 33 (0, 0)) := by
                rw [hW9, set4_other (by omega), h9.block w8.heap.size (by simp)]
                exact heap_alloc_new w8 _
              refine cs_block (l := [nq pa', nq rg', ⟨2, 0, nob, .slice a3 nu c3⟩, ⟨2, 0, nob, .slice a4 nc c4⟩, ⟨2, 0, nob, .slice a5 nk c5⟩, ⟨2, 0, nob, .slice a6 np c6⟩]) hblk rfl rfl (Nat.le_refl 6) (by decide) (by omega) (fun i hi => ?_)
              match i, hi with
              | 0, _ => exact cs_numT _
              | 1, _ => exact cs_numT _
              | 2, _ => exact (HT1'.out.cs l3.symm (by omega) k10).widen (fun k hk => by omega)
              | 3, _ => exact (HT2.out.cs l4.symm (by omega) k10).widen (fun k hk => by omega)
              | 4, _ => exact (HT3'.out.cs l5.symm (by omega) k10).widen (fun k hk => by omega)
              | 5, _ => exact (HT4.out.cs l6.symm (by omega) k10).widen (fun k hk => by omega)
            · exact HB4.out.trans (k10.below (by omega) (by omega))
          have q0 : wc.drew.cell? ⟨bx, 0, none⟩ = some (.int .i64 pa') := by show wc.cell? _ = _; rw [Lib.cell_of_heap HA4.out.1]; rfl
          have q1 : wc.drew.cell? ⟨bx, 1, none⟩ = some (.int .i64 rg') := by show wc.cell? _ = _; rw [Lib.cell_of_heap HA4.out.1]; rfl
          have hq0 : Below wc.heap.size wc wc.drew := (Below.refl _ _).drew
          have HC9 : Hid (∀ w9, Below wc.heap.size wc w9 → (∀ j, w9.frozen? ⟨bx + 1, j, none⟩ = false) ∧ w9.cell? ⟨bx + 1, 0, none⟩ = some (.int .i64 0) ∧ w9.cell? ⟨bx + 1, 1, none⟩ = some (.int .u64 0) ∧ w9.cell? ⟨bx + 1, 2, none⟩ = some (.string nob) ∧ w9.cell? ⟨bx + 1, 3, none⟩ = some (.slice none 0 0)) := by
            intro w9 h9
            have hb := (h9.block (bx + 1) (by omega)).trans HA4.out.2
            exact ⟨fun j => Lib.frozen_of_heap hb j, block4 hb⟩
          clear HT1 HT2' HT3 l3 l4 l5 l6
          go_wp2_with fail
          go_region_held3 (fun w' => w'.cell? ⟨bx, 0, none⟩ = some (.int .i64 pa') ∧ w'.cell? ⟨bx, 1, none⟩ = some (.int .i64 rg'))
            (first
              | exact keep2 (by assumption) hbS (Nat.le_refl _)
              | go_keep)
            (first
              | (go_at_call 32; refine (HN1.out _ _).mono ?_; rintro e w2 ⟨rfl, hbS⟩; have hq := Below.trans (by assumption) (hbS.mono (Below.size (by assumption))))
              | (go_at_call 31; refine (HL1.out _ _ _ _).mono ?_; rintro e w3 ⟨rfl, hbS⟩; have hq := Below.trans (by assumption) (hbS.mono (Below.size (by assumption))))
              | (go_at_call 31; refine (HL1.out _ _ _ _).mono ?_; rintro e w9 ⟨rfl, hbS⟩; have HF := hide_p (HFIN.out _ _ (by assumption) hbS); have hq9 := ((by assumption : Below wc.heap.size wc w3).alloc (Below.size (by assumption)) _).trans (hbS.mono (by have := Below.size (by assumption : Below wc.heap.size wc w3); simp; omega)); obtain ⟨hfz, hc0, hc1, hc2, hc3⟩ := HC9.out w9 hq9))
          obtain ⟨z1, z2, z3⟩ := HF.out _ rfl
          have HZ := hide_p z1
          have HZ2 := hide_p z2
          have HZ3 := hide_p z3
          clear z1 z2 z3 HF hfz hc0 hc1 hc2 hc3 hq9 HFIN HC9
          go_wp2
          exact bodyPost_ret (results_cell_row rfl _ _ (bx + 1) _ _ _ _ rfl HZ.out Tryd.underlying33 rfl info25) rfl ⟨_, rfl, HZ2.out, HZ3.out⟩

end Go.Proofs.YtcblknghkgihcaaDoor
namespace Go.Proofs.YtcblknghkgihcaaDoor
set_option maxRecDepth 100000
open Go.RowKit Crc Pg

theorem sameT_refl : ∀ t : Tr, sameT t t = true := by
  refine (Tr.ind (Q := fun ts => sameL ts ts = true) (fun k n s ts ih => ?_) sameL_nn (fun t ts h1 h2 => ?_)).1
  · rw [sameT_mk]
    simp [ih]
  · rw [sameL_cc, h1, h2]
    rfl

theorem keep12 {W w' : World} {B C : Nat} {u0 u1 u2 u3 u4 u5 z0 z1 z2 z3 z4 z5 : Value} (h : W.cell? ⟨B, 0, none⟩ = some u0 ∧ W.cell? ⟨B, 1, none⟩ = some u1 ∧ W.cell? ⟨B, 2, none⟩ = some u2 ∧ W.cell? ⟨B, 3, none⟩ = some u3 ∧ W.cell? ⟨B, 4, none⟩ = some u4 ∧ W.cell? ⟨B, 5, none⟩ = some u5 ∧ W.cell? ⟨C, 0, none⟩ = some z0 ∧ W.cell? ⟨C, 1, none⟩ = some z1 ∧ W.cell? ⟨C, 2, none⟩ = some z2 ∧ W.cell? ⟨C, 3, none⟩ = some z3 ∧ W.cell? ⟨C, 4, none⟩ = some z4 ∧ W.cell? ⟨C, 5, none⟩ = some z5) (k : Below W.heap.size W w') : w'.cell? ⟨B, 0, none⟩ = some u0 ∧ w'.cell? ⟨B, 1, none⟩ = some u1 ∧ w'.cell? ⟨B, 2, none⟩ = some u2 ∧ w'.cell? ⟨B, 3, none⟩ = some u3 ∧ w'.cell? ⟨B, 4, none⟩ = some u4 ∧ w'.cell? ⟨B, 5, none⟩ = some u5 ∧ w'.cell? ⟨C, 0, none⟩ = some z0 ∧ w'.cell? ⟨C, 1, none⟩ = some z1 ∧ w'.cell? ⟨C, 2, none⟩ = some z2 ∧ w'.cell? ⟨C, 3, none⟩ = some z3 ∧ w'.cell? ⟨C, 4, none⟩ = some z4 ∧ w'.cell? ⟨C, 5, none⟩ = some z5 := by
  obtain ⟨h0, h1, h2, h3, h4, h5, g0, g1, g2, g3, g4, g5⟩ := h
  exact ⟨cell_kept k (Nat.le_refl _) h0, cell_kept k (Nat.le_refl _) h1, cell_kept k (Nat.le_refl _) h2, cell_kept k (Nat.le_refl _) h3, cell_kept k (Nat.le_refl _) h4, cell_kept k (Nat.le_refl _) h5, cell_kept k (Nat.le_refl _) g0, cell_kept k (Nat.le_refl _) g1, cell_kept k (Nat.le_refl _) g2, cell_kept k (Nat.le_refl _) g3, cell_kept k (Nat.le_refl _) g4, cell_kept k (Nat.le_refl _) g5⟩

set_option maxHeartbeats 4000000 in
theorem rsameP_any (t u : Pr) (x y : Six) (W w : World) (h : PR W t x) (h' : PR W u y) (hW : Below W.heap.size W w) (hc : t.cnt ≤ 100000) (hc' : u.cnt ≤ 100000) :
    Calls Tryd.prog 13 #[x.v, y.v] w fun e w' => e = .returned (.bool (sameT (cellT t) (cellT u))) ∧ Below w.heap.size w w' := by
  have hforms := six_form (PR.prs _ _ h)
  have hforms' := six_form (PR.prs _ _ h')
  have HX : Hid (∀ w', Below w.heap.size w w' → Calls Tryd.prog 10 #[x.v] w' fun e w'' => ∃ v, e = .returned v ∧ CR w'' (cellT t) v ∧ Below w'.heap.size w' w'') := fun w' hb => by
    refine (rtoCell_any t x W w' h (hW.trans (hb.mono hW.size)) hc).mono ?_
    rintro e w'' ⟨v, he, hcs, hb2⟩
    exact ⟨v, he, hcs.cr, hb2⟩
  have HY : Hid (∀ w', Below w.heap.size w w' → ∀ v, CR w' (cellT t) v → Calls Tryd.prog 10 #[y.v] w' fun e w'' => ∃ v', e = .returned v' ∧ Below w'.heap.size w' w'' ∧ Calls Tryd.prog 9 #[v, v'] w'' (fun e w3 => e = .returned (.bool (sameT (cellT t) (cellT u))) ∧ Below w''.heap.size w'' w3)) := fun w' hb v hv => by
    refine (rtoCell_any u y W w' h' (hW.trans (hb.mono hW.size)) hc').mono ?_
    rintro e w'' ⟨v', he, hcs, hb2⟩
    exact ⟨v', he, hb2, same_any ((cellT t).dep + 1) _ _ _ _ _ (by omega) (hv.kept hb2 (Nat.le_refl _)) hcs.cr⟩
  obtain ⟨pa, rg, vu, vc, vk, vp⟩ := x
  simp only at hforms
  obtain ⟨a1, n1, c1, a2, n2, c2, a3, n3, c3, a4, n4, c4, rfl, rfl, rfl, rfl⟩ := hforms
  obtain ⟨qpa, qrg, qvu, qvc, qvk, qvp⟩ := y
  simp only at hforms'
  obtain ⟨b1, o1, r1, b2, o2, r2, b3, o3, r3, b4, o4, r4, rfl, rfl, rfl, rfl⟩ := hforms'
  unfold Six.v at HX HY ⊢
  simp only at HX HY ⊢
  generalize sameT (cellT t) (cellT u) = R at *
  obtain ⟨w0, hw0⟩ : ∃ w0, w0 = (w.alloc (.cells #[.int .i64 pa, .int .i64 rg, .slice a1 n1 c1, .slice a2 n2 c2, .slice a3 n3 c3, .slice a4 n4 c4] 27)).alloc (.cells #[.int .i64 qpa, .int .i64 qrg, .slice b1 o1 r1, .slice b2 o2 r2, .slice b3 o3 r3, .slice b4 o4 r4] 27) := ⟨_, rfl⟩
  have HB0 : Hid (Below w.heap.size w w0) := by rw [hw0]; exact ((Below.refl _ _).alloc (Nat.le_refl _) _).alloc (by simp) _
  have HA0 : Hid (∀ j, w0.cell? ⟨w.heap.size, j, none⟩ = (#[.int .i64 pa, .int .i64 rg, .slice a1 n1 c1, .slice a2 n2 c2, .slice a3 n3 c3, .slice a4 n4 c4] : Array Value)[j]?) := by
    intro j
    rw [hw0, World.cell?_alloc_lt _ _ _ (by simp), World.cell?_alloc_new]
  have HA1 : Hid (∀ j, w0.cell? ⟨w.heap.size + 1, j, none⟩ = (#[.int .i64 qpa, .int .i64 qrg, .slice b1 o1 r1, .slice b2 o2 r2, .slice b3 o3 r3, .slice b4 o4 r4] : Array Value)[j]?) := by
    intro j
    rw [hw0]
    simp
  have x0 : w0.cell? ⟨w.heap.size, 0, none⟩ = some (.int .i64 pa) := HA0.out 0
  have x1 : w0.cell? ⟨w.heap.size, 1, none⟩ = some (.int .i64 rg) := HA0.out 1
  have x2 : w0.cell? ⟨w.heap.size, 2, none⟩ = some (.slice a1 n1 c1) := HA0.out 2
  have x3 : w0.cell? ⟨w.heap.size, 3, none⟩ = some (.slice a2 n2 c2) := HA0.out 3
  have x4 : w0.cell? ⟨w.heap.size, 4, none⟩ = some (.slice a3 n3 c3) := HA0.out 4
  have x5 : w0.cell? ⟨w.heap.size, 5, none⟩ = some (.slice a4 n4 c4) := HA0.out 5
  have y0 : w0.cell? ⟨w.heap.size + 1, 0, none⟩ = some (.int .i64 qpa) := HA1.out 0
  have y1 : w0.cell? ⟨w.heap.size + 1, 1, none⟩ = some (.int .i64 qrg) := HA1.out 1
  have y2 : w0.cell? ⟨w.heap.size + 1, 2, none⟩ = some (.slice b1 o1 r1) := HA1.out 2
  have y3 : w0.cell? ⟨w.heap.size + 1, 3, none⟩ = some (.slice b2 o2 r2) := HA1.out 3
  have y4 : w0.cell? ⟨w.heap.size + 1, 4, none⟩ = some (.slice b3 o3 r3) := HA1.out 4
  have y5 : w0.cell? ⟨w.heap.size + 1, 5, none⟩ = some (.slice b4 o4 r4) := HA1.out 5
  have hq1 : Below w.heap.size w w0.drew := HB0.out.drew
  clear h h' hW hc hc' HA0 HA1
  go_enter Tryd.func13, Tryd.ntmps13
  go_upto_region 1 with fail
  rw [← hw0]
  clear hw0
  go_region_held3 (fun w' => w'.cell? ⟨w.heap.size, 0, none⟩ = some (.int .i64 pa) ∧ w'.cell? ⟨w.heap.size, 1, none⟩ = some (.int .i64 rg) ∧ w'.cell? ⟨w.heap.size, 2, none⟩ = some (.slice a1 n1 c1) ∧ w'.cell? ⟨w.heap.size, 3, none⟩ = some (.slice a2 n2 c2) ∧ w'.cell? ⟨w.heap.size, 4, none⟩ = some (.slice a3 n3 c3) ∧ w'.cell? ⟨w.heap.size, 5, none⟩ = some (.slice a4 n4 c4) ∧ w'.cell? ⟨w.heap.size + 1, 0, none⟩ = some (.int .i64 qpa) ∧ w'.cell? ⟨w.heap.size + 1, 1, none⟩ = some (.int .i64 qrg) ∧ w'.cell? ⟨w.heap.size + 1, 2, none⟩ = some (.slice b1 o1 r1) ∧ w'.cell? ⟨w.heap.size + 1, 3, none⟩ = some (.slice b2 o2 r2) ∧ w'.cell? ⟨w.heap.size + 1, 4, none⟩ = some (.slice b3 o3 r3) ∧ w'.cell? ⟨w.heap.size + 1, 5, none⟩ = some (.slice b4 o4 r4))
    (first
      | exact keep12 (by assumption) hbS
      | go_keep)
    (first
      | (go_at_call 9; refine hsm.mono ?_; rintro e w4 ⟨rfl, hbS⟩; have hq4 := hq3.trans (hbS.mono hq3.size))
      | (go_at_call 10; refine (HY.out _ hq2 _ hcr).mono ?_; rintro e w3 ⟨v3, rfl, hbS, hsm⟩; have hq3 := hq2.trans (hbS.mono hq2.size))
      | (go_at_call 10; refine (HX.out _ hq1).mono ?_; rintro e w2 ⟨v2, rfl, hcr, hbS⟩; have hq2 := hq1.trans (hbS.mono hq1.size)))
  all_goals go_wp2
  all_goals go_ret
  all_goals exact ⟨rfl, hq4⟩

end Go.Proofs.YtcblknghkgihcaaDoor
namespace Go.Proofs.YtcblknghkgihcaaDoor
set_option maxRecDepth 100000
open Go.RowKit Txt Pg

theorem flatL_mem : ∀ (ps : List Pr) (l : List Pr) (r : Pr), r ∈ flatL l ps → r ∈ l ∨ ∃ q ∈ ps, r ∈ flatT q
  | [], l, r, h => Or.inl h
  | q :: ps, l, r, h => by
    rcases flatL_mem ps (l ++ flatT q) r h with h | ⟨q', h1, h2⟩
    · rcases List.mem_append.1 h with h | h
      · exact Or.inl h
      · exact Or.inr ⟨q, List.mem_cons_self, h⟩
    · exact Or.inr ⟨q', List.mem_cons_of_mem _ h1, h2⟩
theorem chkL_good : ∀ (ps : List Pr) (rg : Int) (nu d n m : Nat), chkL rg nu d n ps = (m, 0) → ∀ q ∈ ps, ∃ n' m', chkT q rg nu d n' = (m', 0)
  | [], _, _, _, _, _, _, q, hq => by cases hq
  | p :: ps, rg, nu, d, n, m, h, q, hq => by
    have h1 : chkL rg nu d n (p :: ps) = ps.foldl (fun r q => if r.2 = 0 then chkT q rg nu d r.1 else r) (chkT p rg nu d n) := rfl
    rw [h1] at h
    by_cases c : (chkT p rg nu d n).2 = 0
    · obtain ⟨n1, hn1⟩ : ∃ n1, chkT p rg nu d n = (n1, 0) := ⟨(chkT p rg nu d n).1, Prod.ext rfl c⟩
      rw [hn1] at h
      rcases List.mem_cons.1 hq with rfl | hq
      · exact ⟨n, n1, hn1⟩
      · exact chkL_good ps rg nu d n1 m h q hq
    · rw [fold_bad (fun r q h => if_neg h) _ _ c] at h
      rw [h] at c
      exact absurd rfl c
theorem chkT_sound : ∀ (t : Pr) (rg : Int) (nu d n m : Nat), chkT t rg nu d n = (m, 0) → ∀ r ∈ flatT t, soundB r = true := by
  refine Pr.ind' fun pa rg us cs ks ps ih => ?_
  intro arg anu d n m h r hr
  rw [chkT_mk] at h
  split at h
  · cases h
  · split at h
    · cases h
    · next c1 c2 =>
      simp only [Bool.or_eq_true, Bool.not_eq_true', not_or, Bool.not_eq_false] at c2
      rw [flatT_mk] at hr
      rcases flatL_mem ps _ r hr with hr | ⟨q, hq, hr⟩
      · rw [List.mem_singleton.1 hr]; exact c2.1
      · obtain ⟨n', m', hq2⟩ := chkL_good ps _ _ _ _ _ h q hq
        exact ih q hq _ _ _ _ _ hq2 r hr
theorem chkB_sound (t : Pr) (h : chkB t = 0) : ∀ r ∈ flatT t, soundB r = true := by
  obtain ⟨pa, rg, us, cs, ks, ps⟩ := t
  unfold chkB at h
  split at h
  · cases h
  · split at h
    · cases h
    · next c1 c2 =>
      simp only [Bool.or_eq_true, Bool.not_eq_true', not_or, Bool.not_eq_false] at c2
      intro r hr
      rw [flatT_mk] at hr
      rcases flatL_mem ps _ r hr with hr | ⟨q, hq, hr⟩
      · rw [List.mem_singleton.1 hr]; exact c2.2
      · have h2 : chkL rg us.length 1 1 ps = ((chkL rg us.length 1 1 ps).1, 0) := Prod.ext rfl h
        obtain ⟨n', m', hq2⟩ := chkL_good ps _ _ _ _ _ h2 q hq
        exact chkT_sound q _ _ _ _ _ hq2 r hr

/-- Where an order of a function that can be goes on. -/
theorem stays_ok (q : Pr) (h : soundB q = true) (k : Nat) (hk : k < q.cs.length) : isOp q.cs[k].op = true ∧ (q.cs[k].op ≠ 29 → q.cs[k].op ≠ 33 → q.cs[k].op ≠ 34 → k + 1 < q.cs.length) ∧
    (q.cs[k].op = 29 → 0 ≤ q.cs[k].a ∧ q.cs[k].a < q.cs.length) ∧ (q.cs[k].op = 30 ∨ q.cs[k].op = 31 ∨ q.cs[k].op = 36 ∨ q.cs[k].op = 37 → 0 ≤ q.cs[k].b ∧ q.cs[k].b < q.cs.length) := by
  obtain ⟨pa, rg, us, cs, ks, ps⟩ := q
  unfold soundB at h
  simp only [Bool.and_eq_true, Pr.lens] at h
  obtain ⟨⟨⟨⟨_, _⟩, _⟩, hend⟩, hall⟩ := h
  have ho := List.all_eq_true.1 hall _ (List.getElem_mem hk)
  simp only at hk ho ⊢
  refine ⟨?_, fun h1 h2 h3 => ?_, fun h1 => ?_, fun h1 => ?_⟩
  · unfold ordB at ho
    simp only [Bool.and_eq_true] at ho
    exact ho.2
  · rcases Nat.lt_or_ge (k + 1) cs.length with c | c
    · exact c
    · exfalso
      have hk2 : k = cs.length - 1 := by omega
      unfold endB at hend
      rw [List.getLast?_eq_getElem?, ← hk2, List.getElem?_eq_getElem hk] at hend
      simp [h1, h2, h3] at hend
  · unfold ordB at ho
    rw [h1] at ho
    simp only [Bool.and_eq_true] at ho
    have := ho.1.1.1
    have e : (rowOf 29).2.2.1 = 5 := by decide
    rw [e] at this
    unfold okO inB rngZ at this
    simp at this
    omega
  · unfold ordB at ho
    simp only [Bool.and_eq_true] at ho
    have := ho.1.1.2
    have e : (rowOf cs[k].op).2.2.2.1 = 5 := by
      rcases h1 with h1 | h1 | h1 | h1 <;> rw [h1] <;> decide
    rw [e] at this
    unfold okO inB rngZ at this
    simp at this
    omega

theorem usesT_no : ∀ op : Int, isOp op = true → op ≠ 29 → op ≠ 30 → op ≠ 31 → op ≠ 36 → op ≠ 37 → usesT op ≠ [79] ∧ usesT op ≠ [82, 79] := by
  intro op h h1 h2 h3 h4 h5
  unfold isOp at h
  simp at h
  obtain ⟨r, rfl⟩ := Int.eq_ofNat_of_zero_le h.1
  have key : ∀ r, r < 38 → (r == 29 || r == 30 || r == 31 || r == 36 || r == 37 || (usesL.getD r [] != [79] && usesL.getD r [] != [82, 79])) = true := by decide
  have := key r (by omega)
  simp only [Bool.or_eq_true, beq_iff_eq, Bool.and_eq_true, bne_iff_ne] at this
  rcases this with ((((e | e) | e) | e) | e) | e
  · omega
  · omega
  · omega
  · omega
  · omega
  · exact e

end Go.Proofs.YtcblknghkgihcaaDoor
