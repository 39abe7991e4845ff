/-
  HpRmark
-/
import Derived.Test.YtjlcdpablnnplaaDoorZ25

/-
  Layer 9: the reference's Mark and SetMeta.
-/
namespace Go.Proofs.YtjlcdpablnnplaaDoor
set_option maxRecDepth 100000
open Go.RowKit Flo

theorem usedR_set : ∀ (rs : List Rr) (i : Nat) (r r' : Rr), rs[i]? = some r → usedR (rs.set i r') + r.om.wt = usedR rs + r'.om.wt
  | [], i, r, r', h => by simp at h
  | p :: l, 0, r, r', h => by
    simp only [List.getElem?_cons_zero, Option.some.injEq] at h
    subst h
    unfold usedR
    simp only [List.set_cons_zero, List.map_cons, List.sum_cons]; omega
  | p :: l, i + 1, r, r', h => by
    rw [List.getElem?_cons_succ] at h
    have := usedR_set l i r r' h
    unfold usedR at *
    simp only [List.set_cons_succ, List.map_cons, List.sum_cons]; omega
def markM (L : List Om) (o a : Int) : Int × List Om := match atM L o with
  | none => (5, L)
  | some x => if x.k = 5 then (5, L) else (0, L.set (o - 1).toNat { x with a := a })
theorem atM_rs (rs : List Rr) (o : Int) : atM (rs.map Rr.om) o = (rAt rs o).map Rr.om := by
  unfold atM rAt
  rw [List.length_map, List.getElem?_map]
  split <;> rfl
theorem tabM_rs (rs : List Rr) (o : Int) : tabM (rs.map Rr.om) o = (rTab rs o).map Rr.om := by
  unfold tabM rTab
  rw [atM_rs]
  cases rAt rs o with
  | none => rfl
  | some r =>
    simp only [Option.map_some, Option.filter_some]
    by_cases c : r.om.k = 5 <;> simp [c]
theorem cpd_g {w w2 : World} {rs : List Rr} {a : Option Addr} {c : Nat} (k : Cpd w w2 rs a c) (hn : 0 < rs.length) : ∃ g, a = some ⟨g, 0, none⟩ ∧ w.heap.size ≤ g ∧ g < w2.heap.size ∧ (∀ o, w2.frozen? ⟨g, o, none⟩ = false) ∧ ∀ i r, rs[i]? = some r → ∀ j, j < 10 → w2.cell? ⟨g, i * 10 + j, none⟩ = r.cells[j]? := by
  have hrow := k.row
  obtain ⟨g, cap, e, h1, h2⟩ := hrow.form hn
  simp only [Value.slice.injEq] at e
  obtain ⟨rfl, _, _⟩ := e
  refine ⟨g, rfl, h1, h2, fun o => owns_free hrow o, fun i r hr j hj => ?_⟩
  have hi : i < rs.length := by
    rcases Nat.lt_or_ge i rs.length with c | c
    · exact c
    · rw [List.getElem?_eq_none c] at hr; cases hr
  rw [hrow.cellAt (i * 10 + j) (by omega), rC_at rs i r hr j hj]
/-- The object itself, behind the copy. -/
theorem Rv.old {w w2 : World} {db lim i : Nat} {R : Value} {rs : List Rr} {Q : Nat → Prop} {r : Rr} (h : Rv w db lim R rs Q) (k : Below w.heap.size w w2) (hi : rs[i]? = some r) : Rrv w2 (fun g => (Q g ∧ g ≠ db) ∨ (w.heap.size ≤ g ∧ g < w2.heap.size)) r ∧ ∀ x, r.kv.ownBlock = some x ∨ r.vv.ownBlock = some x ∨ r.sv.ownBlock = some x → x < w.heap.size :=
  ⟨((h.below k).ob i r hi).more (fun _ hg => Or.inl hg), fun x hx => h.lt x ((h.ob i r hi).own x hx).1⟩

set_option maxHeartbeats 1000000 in
theorem rmark_any {w : World} {db lim : Nat} {R : Value} {rs : List Rr} {Q : Nat → Prop} (h : Rv w db lim R rs Q) (o a : Int) :
    Calls Tryd.prog 27 #[.pointer (some ⟨db, 0, none⟩), .int .i64 o, .int .i64 a] w fun e w' => e = .returned (.int .i64 (markM (rs.map Rr.om) o a).1) ∧ RP w db lim (markM (rs.map Rr.om) o a).2 Q w' := by
  have HI := ris_any h o
  have HH := rhas_any h o
  by_cases c : 1 ≤ o ∧ o ≤ rs.length
  · rw [show decide (1 ≤ o ∧ o ≤ (rs.length : Int)) = true from decide_eq_true c] at HI
    obtain ⟨r, hr⟩ := rAt_of c
    obtain ⟨i, ho, hoi, hil, hri⟩ := rAt_some hr
    by_cases d : r.om.k = 5
    · have hm : markM (rs.map Rr.om) o a = (5, rs.map Rr.om) := by unfold markM; rw [atM_rs, hr]; simp only [Option.map_some]; rw [if_pos d]
      rw [hm]
      rw [show (rTab rs o).isSome = true by unfold rTab; rw [hr]; simp [d]] at HH
      have HQ : Hid (RP w db lim (rs.map Rr.om) Q w) := h.rp (Below.refl _ _)
      clear h hr hri hm ho hoi c d hil
      go_enter Tryd.func27, Tryd.ntmps27
      go_wp2_with fail
      refine HI.mono ?_
      rintro e w' ⟨rfl, rfl⟩
      clear HI
      go_wp2_with fail
      refine HH.mono ?_
      rintro e w' ⟨rfl, rfl⟩
      clear HH
      go_wp2
      go_ret
      exact ⟨rfl, HQ.out⟩
    · have hm : markM (rs.map Rr.om) o a = (0, (rs.map Rr.om).set i { r.om with a := a }) := by unfold markM; rw [atM_rs, hr]; simp only [Option.map_some]; rw [if_neg d, hoi]
      rw [hm]
      rw [show (rTab rs o).isSome = false by unfold rTab; rw [hr]; simp [d]] at HH
      obtain ⟨a0, cap, hR, hf⟩ := h.form
      have hc0 := h.c0
      rw [hR] at hc0
      have hdb := h.lt db h.qd
      have hfd := h.free 0
      have hlen : rs.length ≤ 1048576 := by have := usedR_len rs; have := h.hu; have := h.hl; omega
      obtain ⟨i0, hi0⟩ : ∃ i, Tryd.prog.info? 63 = some i := by
        cases hq : Tryd.prog.info? 63 with
        | none => have := infoObj; rw [hq] at this; cases this
        | some q => exact ⟨q, rfl⟩
      have hinfo := infoObj
      rw [hi0] at hinfo
      simp only [Option.map_some, Option.some.injEq, Prod.mk.injEq] at hinfo
      obtain ⟨hz0, hz1, hz2⟩ := hinfo
      have HOWN : Hid ((w.alloc (.cells #[] 63)).ownsRow w.heap.size 63 10 (.slice (some ⟨w.heap.size, 0, none⟩) 0 0) 0 []) := World.ownsRow_lit (base := w.heap.size) (e := 63) (size := 10) w #[] 0 (Nat.le_refl _) (by decide) rfl
      have HSRC : Hid (Src (w.alloc (.cells #[] 63)) 10 (.slice a0 rs.length cap) rs.length (rC rs)) := by
        have := rv_src h ((Below.refl _ _).alloc (Nat.le_refl _) (.cells #[] 63))
        rw [hR] at this
        exact this
      have HQ : Hid (∀ w2 a2 c2, Cpd w w2 rs a2 c2 → ∃ g, a2 = some ⟨g, 0, none⟩ ∧ g ≠ db ∧ w2.cell? ⟨db, 0, none⟩ = some (.slice a0 rs.length cap) ∧ w2.frozen? ⟨db, 0, none⟩ = false ∧ w2.frozen? ⟨g, i * 10 + 7, none⟩ = false ∧ w2.cell? ⟨g, i * 10 + 7, none⟩ = some (.int .i64 r.om.a) ∧
          RP w db lim ((rs.map Rr.om).set i { r.om with a := a }) Q ((w2.setCell ⟨db, 0, none⟩ (.slice (some ⟨g, 0, none⟩) rs.length c2)).setCell ⟨g, i * 10 + 7, none⟩ (.int .i64 a))) := fun w2 a2 c2 k => by
        obtain ⟨g, e, hg1, hg2, hgf, hgc⟩ := cpd_g k (by omega)
        subst e
        obtain ⟨ho1, ho2⟩ := h.old k.low hri
        refine ⟨g, rfl, by omega, (k.low.cell hdb).trans hc0, (k.low.frozen hdb).trans hfd, hgf _, hgc i r hri 7 (by omega), ?_⟩
        refine Cpd.lay (r' := { r with om := { r.om with a := a } }) (us := [(7, .int .i64 a)]) h k hri (by simp) rfl rfl rfl rfl rfl ?_ (fun x hx => by have := ho2 x hx; omega) ?_
        · exact ⟨ho1.k, ho1.v, ho1.s, ho1.own, ho1.len⟩
        · have := usedR_set rs i r { r with om := { r.om with a := a } } hri
          have hw : ({ r with om := { r.om with a := a } } : Rr).om.wt = r.om.wt := rfl
          have := h.hu
          omega
      clear h hR hf hr hm
      have hil2 : (i : Int) < (rs.length : Int) := by omega
      obtain ⟨n, hn⟩ : ∃ n, n = rs.length := ⟨_, rfl⟩
      rw [← hn] at hlen hil2 HSRC hc0 HQ
      have HCP : Hid (∀ w2 a2 c2, w2.ownsRow w.heap.size 63 10 (.slice a2 n c2) n (rC rs) → (w.alloc (.cells #[] 63)).grownBy w2 (some w.heap.size) → Cpd w w2 rs a2 c2) := fun w2 a2 c2 q1 q2 => cpd_of (Below.refl _ _) (by rw [← hn]; exact q1) q2
      clear hn c
      subst ho
      have e1 : (i : Int) + 1 - 1 = (i : Int) := by omega
      go_enter Tryd.func27, Tryd.ntmps27
      go_wp2_with fail
      refine HI.mono ?_
      rintro e w' ⟨rfl, rfl⟩
      clear HI
      go_wp2_with fail
      refine HH.mono ?_
      rintro e w' ⟨rfl, rfl⟩
      clear HH
      go_wp2_with (at_builtin; refine wpList_append_src _ rfl _ _ 28 rfl w'.heap.size 63 i0 _ 10 136 Tryd.underlying28 hi0 hz0 hz1 hz2 rfl (by decide) _ 0 [] rfl HOWN.out _ n (rC rs) rfl HSRC.out (by unfold maxLen; omega) (by omega) (by simp) ?_)
      intro a2 c2 w2 q1 q2 q3
      obtain ⟨g, rfl, hgd, m0, m1, m2, m3, hrp⟩ := HQ.out w2 a2 c2 (HCP.out w2 a2 c2 q1 q2)
      have HRP : Hid _ := hrp
      clear hrp q1 q2 q3 HQ HCP HOWN HSRC
      go_wp2
      go_ret
      exact ⟨rfl, HRP.out⟩
  · have hm : markM (rs.map Rr.om) o a = (5, rs.map Rr.om) := by unfold markM; rw [atM_rs, rAt_none c]; rfl
    rw [hm]
    rw [show decide (1 ≤ o ∧ o ≤ (rs.length : Int)) = false from decide_eq_false c] at HI
    have HQ : Hid (RP w db lim (rs.map Rr.om) Q w) := h.rp (Below.refl _ _)
    clear h hm c HH
    go_enter Tryd.func27, Tryd.ntmps27
    go_wp2_with fail
    refine HI.mono ?_
    rintro e w' ⟨rfl, rfl⟩
    clear HI
    go_wp2
    go_ret
    exact ⟨rfl, HQ.out⟩

end Go.Proofs.YtjlcdpablnnplaaDoor
