/-
  Layer 13: how much a function has in it, and how deep it lies; the reference's Small, walked.
-/
import Derived.Test.YtnigmiokadpajaaDoorPgPrn1
namespace Go.Proofs.YtnigmiokadpajaaDoor
set_option maxRecDepth 100000
open Go.RowKit Pg

namespace Pg
def Pr.cnt : Pr → Nat
  | .mk _ _ us cs ks ps => 1 + cs.length + ks.length + us.length + (ps.map Pr.cnt).sum
def pcnts (l : List Pr) : Nat := (l.map Pr.cnt).sum
theorem Pr.cnt_mk (pa rg : Int) (us : List Upp) (cs : List Ins) (ks : List Vl) (ps : List Pr) : (Pr.mk pa rg us cs ks ps).cnt = 1 + cs.length + ks.length + us.length + pcnts ps := by rw [Pr.cnt]; rfl
theorem pcnts_nil : pcnts [] = 0 := rfl
theorem pcnts_cons (t : Pr) (l : List Pr) : pcnts (t :: l) = t.cnt + pcnts l := by unfold pcnts; simp
def Pr.dep : Pr → Nat
  | .mk _ _ _ _ _ ps => (ps.map (fun t => t.dep + 1)).foldr max 0
def pdeps (l : List Pr) : Nat := (l.map (fun t => t.dep + 1)).foldr max 0
theorem Pr.dep_mk (pa rg : Int) (us : List Upp) (cs : List Ins) (ks : List Vl) (ps : List Pr) : (Pr.mk pa rg us cs ks ps).dep = pdeps ps := by rw [Pr.dep]; rfl
theorem pdeps_nil : pdeps [] = 0 := rfl
theorem pdeps_cons (t : Pr) (l : List Pr) : pdeps (t :: l) = max (t.dep + 1) (pdeps l) := rfl
theorem pcnts_append (l m : List Pr) : pcnts (l ++ m) = pcnts l + pcnts m := by
  induction l with
  | nil => simp [pcnts_nil]
  | cons t l ih => simp only [List.cons_append, pcnts_cons, ih]; omega
theorem pdeps_append (l m : List Pr) : pdeps (l ++ m) = max (pdeps l) (pdeps m) := by
  induction l with
  | nil => simp [pdeps_nil]
  | cons t l ih => simp only [List.cons_append, pdeps_cons, ih]; omega
theorem pcnts_take (l : List Pr) (i : Nat) (h : i < l.length) : pcnts (l.take (i + 1)) = pcnts (l.take i) + l[i].cnt := by
  rw [List.take_succ_eq_append_getElem h, pcnts_append]; simp [pcnts_cons, pcnts_nil]
theorem pdeps_take (l : List Pr) (i : Nat) (h : i < l.length) : pdeps (l.take (i + 1)) = max (pdeps (l.take i)) (l[i].dep + 1) := by
  rw [List.take_succ_eq_append_getElem h, pdeps_append]; simp [pdeps_cons, pdeps_nil]
theorem pcnt_pos (t : Pr) : 1 ≤ t.cnt := by cases t; rw [Pr.cnt_mk]; omega
theorem pcnts_get {l : List Pr} (i : Nat) (h : i < l.length) : l[i].cnt ≤ pcnts l := by
  have h1 := pcnts_take l i h
  have h2 := pcnts_append (l.take (i + 1)) (l.drop (i + 1))
  rw [List.take_append_drop] at h2
  omega
theorem pdeps_get : ∀ {l : List Pr} (i : Nat) (h : i < l.length), l[i].dep + 1 ≤ pdeps l
  | a :: l, 0, _ => by rw [pdeps_cons]; simp; omega
  | a :: l, i + 1, h => by
    have := pdeps_get (l := l) i (by simpa using h)
    rw [pdeps_cons]; simp; omega
theorem plen_cnts : ∀ l : List Pr, l.length ≤ pcnts l := by
  intro l
  induction l with
  | nil => simp [pcnts_nil]
  | cons t l ih => simp only [pcnts_cons, List.length_cons]; have := pcnt_pos t; omega
end Pg

/-- What Small tells. -/
def ToldP (t : Pr) (most : Int) (D : Nat) (n : Nat) (ok : Bool) : Prop := 1 ≤ n ∧ n ≤ (D + 1) * 1125899906842624 ∧ (ok = true → n = t.cnt ∧ t.dep + 1 ≤ D ∧ (n : Int) ≤ most)

set_option maxHeartbeats 4000000 in
theorem smallP_any : ∀ (D : Nat), D ≤ 201 → ∀ (t : Pr) (x : Six) (w : World) (most : Int), PR w t x → -(1125899906842624 * (202 - (D : Int))) ≤ most → most ≤ 3000 →
    Calls Tryd.prog 35 #[x.v, .int .i64 most, .int .i64 (201 - (D : Int))] w fun e w' => ∃ (n : Nat) (ok : Bool), e = .returned (.tuple #[.int .i64 n, .bool ok]) ∧ ToldP t most D n ok ∧ Below w.heap.size w w' := by
  intro D
  induction D with
  | zero =>
    intro _ t x w most h hm1 hm2
    obtain ⟨pa, rg, us, cs, ks, ps⟩ := t
    rw [PR_mk] at h
    obtain ⟨pa', rg', vu, vc, vk, vp⟩ := x
    simp only at h
    obtain ⟨rfl, rfl, hpa, hrg, hu, hc, hk, f, hp, -⟩ := h
    obtain ⟨au, cu, rfl, -, -, lu⟩ := hu.1.val
    obtain ⟨ac, cc, rfl, -, -, lc⟩ := hc.1.val
    obtain ⟨ak, ck, rfl, -, -, lk⟩ := hk.1.val
    obtain ⟨ap, cp, rfl, -, -, -⟩ := hp.val
    unfold far at lu lc lk
    unfold Six.v
    simp only
    clear hu hc hk hp
    generalize us.length = nu at *
    generalize cs.length = nc at *
    generalize ks.length = nk at *
    rw [show (201 : Int) - ((0 : Nat) : Int) = 201 by omega]
    go_enter Tryd.func35, Tryd.ntmps35
    go_wp2
    go_ret2
    exact ⟨1 + nc + nk + nu, false, by simp, ⟨by omega, by omega, by intro e; cases e⟩, (Below.refl _ _).alloc (Nat.le_refl _) _⟩
  | succ D ih =>
    intro hD t x w most h hm1 hm2
    obtain ⟨pa, rg, us, cs, ks, ps⟩ := t
    rw [PR_mk] at h
    obtain ⟨pa', rg', vu, vc, vk, vp⟩ := x
    simp only at h
    obtain ⟨rfl, rfl, hpa, hrg, hu, hc, hk, f, hp, hch⟩ := h
    obtain ⟨au, cu, rfl, -, -, lu⟩ := hu.1.val
    obtain ⟨ac, cc, rfl, -, -, lc⟩ := hc.1.val
    obtain ⟨ak, ck, rfl, -, -, lk⟩ := hk.1.val
    obtain ⟨ap, cp, rfl, hpl, hpc, lp⟩ := hp.val
    unfold far at lu lc lk lp
    unfold Six.v
    simp only
    have HI : Hid _ := ih
    have HCH := (show Hid (∀ i (h : i < ps.length), PR w ps[i] (f i)) from hch)
    obtain ⟨nu, hnu⟩ : ∃ n, n = us.length := ⟨_, rfl⟩
    obtain ⟨nc, hnc⟩ : ∃ n, n = cs.length := ⟨_, rfl⟩
    obtain ⟨nk, hnk⟩ : ∃ n, n = ks.length := ⟨_, rfl⟩
    obtain ⟨np, hnp⟩ : ∃ n, n = ps.length := ⟨_, rfl⟩
    have HN : Hid (nu = us.length ∧ nc = cs.length ∧ nk = ks.length ∧ np = ps.length) := ⟨hnu, hnc, hnk, hnp⟩
    have HSP : Hid (SL w (.slice ap np cp) ps.length 6 (fun i j u => u = (f i).at j)) := by rw [hnp]; exact hp
    rw [← hnu, ← hnc, ← hnk, ← hnp]
    rw [← hnu] at lu
    rw [← hnc] at lc
    rw [← hnk] at lk
    rw [← hnp] at lp hpl
    rw [show (201 : Int) - ((D + 1 : Nat) : Int) = 200 - (D : Int) by omega]
    have hd1 : ¬ (200 : Int) - (D : Int) > 200 := by omega
    clear hu hc hk hp hch ih hnu hnc hnk hnp
    obtain ⟨w0, hw0⟩ : ∃ w0, w0 = w.alloc (.cells #[.int .i64 pa', .int .i64 rg', .slice au nu cu, .slice ac nc cc, .slice ak nk ck, .slice ap np cp] 31) := ⟨_, rfl⟩
    have HB0 : Hid (Below w.heap.size w w0) := by rw [hw0]; exact (Below.refl _ w).alloc (Nat.le_refl _) _
    have HA5 : Hid (w0.cell? ⟨w.heap.size, 5, none⟩ = some (.slice ap np cp)) := by show _ = _; rw [hw0, World.cell?_alloc_new]; rfl
    obtain ⟨N0, hN0⟩ : ∃ N : Nat, N = 1 + nc + nk + nu := ⟨_, rfl⟩
    go_enter Tryd.func35, Tryd.ntmps35
    go_wp2_with fail
    rw [← hw0]
    clear hw0
    go_loopw [8, 9] (fun t8 t9 wr => ∃ (i m : Nat), i ≤ np ∧ t9 = .int .i64 i ∧ t8 = .int .i64 m ∧ m ≤ 1125899906842624 ∧ Hid (1 ≤ m ∧ m = 1 + nc + nk + nu + pcnts (ps.take i) ∧ pdeps (ps.take i) ≤ D ∧ (i = 0 ∨ (m : Int) ≤ most)) ∧ Hid (Below w0.heap.size w0 wr)) (fun _ t9 _ => np - (intOf t9).toNat)
    case atStart => exact ⟨0, N0, Nat.zero_le _, rfl, by rw [hN0]; simp, by omega, ⟨by omega, by rw [hN0]; simp [pcnts_nil], by simp [pdeps_nil], Or.inl rfl⟩, Below.refl _ _⟩
    case round =>
      obtain ⟨i, m, hi, rfl, rfl, hm, HC, HB⟩ := hrel
      have hbox : wr.cell? ⟨w.heap.size, 5, none⟩ = some (.slice ap np cp) := cell_kept HB.out (Nat.le_refl _) HA5.out
      have HBW : Hid (Below w.heap.size w wr) := HB0.out.trans (HB.out.mono HB0.out.size)
      clear hN0
      by_cases c : i < np
      · have i1 : i < ps.length := by have := HN.out; omega
        obtain ⟨-, g, o, rfl, e0, e1, e2, e3, e4, e5⟩ := SP.get (HSP.out.kept HBW.out (Nat.le_refl _)) i1
        have hcall := HI.out (by omega) ps[i] (f i) wr (most - (m : Int)) (PR.kept HBW.out (Nat.le_refl _) _ _ (HCH.out i i1)) (by have := HC.out; omega) (by omega)
        rw [show (201 : Int) - (D : Int) = 200 - (D : Int) + 1 by omega] at hcall
        unfold Six.v at hcall
        generalize f i = y at *
        obtain ⟨ypa, yrg, yu, yc, yk, yp⟩ := y
        simp only at e0 e1 e2 e3 e4 e5 hcall
        go_wp2_with fail
        refine hcall.mono ?_
        rintro e w2 ⟨m2, ok, rfl, hT, hb2⟩
        have HB2 : Hid (Below w.heap.size w w2) := HBW.out.trans (hb2.mono HBW.out.size)
        have HB3 : Hid (Below w0.heap.size w0 w2) := HB.out.trans (hb2.mono HB.out.size)
        obtain ⟨T1, T2, T3⟩ := hT
        have hm5 : m2 ≤ 203 * 1125899906842624 := by
          refine Nat.le_trans T2 (Nat.mul_le_mul_right _ (by omega))
        have HT : Hid (∀ t, ToldP t most (D + 1) (m + m2) false) := fun t => ⟨by omega, by rw [show (D + 1 + 1) * 1125899906842624 = (D + 1) * 1125899906842624 + 1125899906842624 by rw [Nat.add_mul]]; omega, by intro e; cases e⟩
        clear hb2 hcall e0 e1 e2 e3 e4 e5 T2
        cases ok with
        | false =>
          clear T3
          go_wp2
          go_ret2
          exact ⟨m + m2, false, by simp, HT.out _, HB2.out⟩
        | true =>
          have T4 := T3 rfl
          clear T3
          by_cases c2 : (m : Int) + (m2 : Int) > most
          · clear T4
            go_wp2
            go_ret2
            exact ⟨m + m2, false, by simp, HT.out _, HB2.out⟩
          · have HK : Hid (1 ≤ m + m2 ∧ m + m2 = 1 + nc + nk + nu + pcnts (ps.take (i + 1)) ∧ pdeps (ps.take (i + 1)) ≤ D ∧ (i + 1 = 0 ∨ ((m + m2 : Nat) : Int) ≤ most)) := by
              have := HC.out
              refine ⟨by omega, ?_, ?_, Or.inr (by omega)⟩
              · rw [pcnts_take ps i i1]; omega
              · rw [pdeps_take ps i i1]; omega
            clear T4
            go_wp2
            go_roundw
            case rel => exact ⟨i + 1, m + m2, by omega, by go_num, by go_num, by omega, HK, HB3⟩
            case measure => simp [intOf]; omega
      · have e : i = np := by omega
        have HE : Hid (1 ≤ m ∧ m = 1 + cs.length + ks.length + us.length + pcnts ps ∧ pdeps ps ≤ D) := by
          have := HC.out
          rw [List.take_of_length_le (by have := HN.out; omega)] at this
          obtain ⟨q1, q2, q3, q4⟩ := HN.out
          refine ⟨by omega, ?_, by omega⟩
          omega
        subst e
        by_cases c2 : (m : Int) ≤ most
        · go_wp2
          go_ret2
          refine ⟨m, true, by simp, ⟨HE.out.1, by omega, fun _ => ⟨by rw [Pr.cnt_mk]; exact HE.out.2.1, by rw [Pr.dep_mk]; have := HE.out.2.2; omega, c2⟩⟩, HBW.out⟩
        · go_wp2
          go_ret2
          exact ⟨m, Or.inl ⟨by simp, ⟨HE.out.1, by omega, by intro e; cases e⟩, HBW.out⟩⟩

set_option maxHeartbeats 1000000 in
theorem small_law (t : Pr) (x : Six) (w : World) (h : PR w t x) :
    Calls Tryd.prog 14 #[x.v] w fun e w' => ∃ ok : Bool, e = .returned (.bool ok) ∧ (ok = true → t.cnt ≤ 3000 ∧ t.dep ≤ 200) ∧ Below w.heap.size w w' := by
  have hs := smallP_any 201 (by omega) t x
  have HP := hide_p h
  have hforms : ∃ a1 n1 c1 a2 n2 c2 a3 n3 c3 a4 n4 c4, x.u = .slice a1 n1 c1 ∧ x.c = .slice a2 n2 c2 ∧ x.k = .slice a3 n3 c3 ∧ x.p = .slice a4 n4 c4 := by
    obtain ⟨qpa, qrg, qus, qcs, qks, qps⟩ := t
    rw [PR_mk] at h
    obtain ⟨-, -, -, -, hqu, hqc, hqk, f', hqp, -⟩ := h
    obtain ⟨a1, c1, h1, -⟩ := hqu.1.val
    obtain ⟨a2, c2, h2, -⟩ := hqc.1.val
    obtain ⟨a3, c3, h3, -⟩ := hqk.1.val
    obtain ⟨a4, c4, h4, -⟩ := hqp.val
    exact ⟨_, _, _, _, _, _, _, _, _, _, _, _, h1, h2, h3, h4⟩
  obtain ⟨pa, rg, vu, vc, vk, vp⟩ := x
  simp only at hforms
  obtain ⟨a1, n1, c1, a2, n2, c2, a3, n3, c3, a4, n4, c4, rfl, rfl, rfl, rfl⟩ := hforms
  clear h
  unfold Six.v
  simp only
  have hs1 := hs (w.alloc (.cells #[.int .i64 pa, .int .i64 rg, .slice a1 n1 c1, .slice a2 n2 c2, .slice a3 n3 c3, .slice a4 n4 c4] 31)) 3000 (PR.kept ((Below.refl _ _).alloc (Nat.le_refl _) _) (Nat.le_refl _) _ _ HP.out) (by omega) (by omega)
  unfold Six.v at hs1
  simp only at hs1
  rw [show (201 : Int) - ((201 : Nat) : Int) = 0 by omega] at hs1
  clear hs
  go_enter Tryd.func14, Tryd.ntmps14
  go_wp2_with fail
  refine hs1.mono ?_
  rintro e w1 ⟨n, ok, rfl, hT, hb⟩
  have HR : Hid (ok = true → t.cnt ≤ 3000 ∧ t.dep ≤ 200) := fun e => by have := hT.2.2 e; omega
  have HB : Hid (Below w.heap.size w w1) := ((Below.refl _ w).alloc (Nat.le_refl _) _).trans (hb.mono (by simp))
  clear hT hb hs1
  go_wp2
  go_ret
  exact ⟨ok, rfl, HR.out, HB.out⟩

end Go.Proofs.YtnigmiokadpajaaDoor
