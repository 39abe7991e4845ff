/-
  HpRmeta
-/
import Derived.Test.YthmocdabakkfhaaGreatDoorZ25

/-
  Layer 9: the reference's SetMeta.
-/
namespace Go.Proofs.YthmocdabakkfhaaGreatDoor
set_option maxRecDepth 100000
open Go.RowKit Flo

def metaM (L : List Om) (o : Int) (m : V4) : Int × List Om := match tabM L o with
  | none => (5, L)
  | some x => if nK m.K ≠ 0 ∧ (nK m.K ≠ 5 ∨ tabM L (nO m.K m.O) = none) then (1, L) else (0, L.set (o - 1).toNat { x with M := norV m })
theorem RP.from {w w1 w' : World} {db lim : Nat} {L : List Om} {Q : Nat → Prop} (h : RP w1 db lim L Q w') (k : Below w.heap.size w w1) : RP w db lim L Q w' := by
  obtain ⟨Q', h1, h2, h3⟩ := h
  refine ⟨Q', h1, (Wx.of_below _ k).trans h2 (fun _ c => Or.inl c), fun i hi => ?_⟩
  rcases h3 i hi with c | c
  · exact Or.inl c
  · exact Or.inr (Nat.le_trans k.size c)
theorem hide_p {p : Prop} (h : p) : Hid p := h
theorem objInfo : ∃ i, Tryz.prog.info? 39 = some i ∧ i.zero = some (.agg #[.int .i64 0, .slice none 0 0, .slice none 0 0, .int .i64 0, .int .u64 0, .string ⟨#[]⟩, .int .i64 0, .int .i64 0, .int .i64 0, .slice none 0 0]) ∧ i.size = 10 ∧ i.bytes = 136 := by
  cases hq : Tryz.prog.info? 39 with
  | none => have := infoObj; rw [hq] at this; cases this
  | some q =>
    have hinfo := infoObj
    rw [hq] at hinfo
    simp only [Option.map_some, Option.some.injEq, Prod.mk.injEq] at hinfo
    exact ⟨q, rfl, hinfo⟩
theorem valInfo : ∃ i, Tryz.prog.info? 37 = some i ∧ i.zero = some (.agg #[.int .i64 0, .int .u64 0, .string ⟨#[]⟩, .int .i64 0]) ∧ i.size = 4 ∧ i.bytes = 40 := by
  cases hq : Tryz.prog.info? 37 with
  | none => have := infoVal; rw [hq] at this; cases this
  | some q =>
    have hinfo := infoVal
    rw [hq] at hinfo
    simp only [Option.map_some, Option.some.injEq, Prod.mk.injEq] at hinfo
    exact ⟨q, rfl, hinfo⟩
theorem rTab_some {rs : List Rr} {o : Int} {r : Rr} (h : rTab rs o = some r) : rAt rs o = some r ∧ r.om.k = 5 := by
  unfold rTab at h
  obtain ⟨h1, h2⟩ := Option.filter_eq_some_iff.1 h
  exact ⟨h1, of_decide_eq_true h2⟩
/-- What the copy of the row of objects asks. -/
theorem cp_ask {w : World} {db lim : Nat} {R : Value} {rs : List Rr} {Q : Nat → Prop} (h : Rv w db lim R rs Q) : ∃ a0 cap, R = .slice a0 rs.length cap ∧ rs.length ≤ 1048576 ∧ w.cell? ⟨db, 0, none⟩ = some (.slice a0 rs.length cap) ∧
    (w.alloc (.cells #[] 39)).ownsRow w.heap.size 39 10 (.slice (some ⟨w.heap.size, 0, none⟩) 0 0) 0 [] ∧ Src (w.alloc (.cells #[] 39)) 10 (.slice a0 rs.length cap) rs.length (rC rs) ∧
    ∀ w2 a2 c2, w2.ownsRow w.heap.size 39 10 (.slice a2 rs.length c2) rs.length (rC rs) → (w.alloc (.cells #[] 39)).grownBy w2 (some w.heap.size) → Cpd w w2 rs a2 c2 := by
  obtain ⟨a0, cap, hR, hf⟩ := h.form
  refine ⟨a0, cap, hR, by have := usedR_len rs; have := h.hu; have := h.hl; omega, by rw [← hR]; exact h.c0, World.ownsRow_lit (base := w.heap.size) (e := 39) (size := 10) w #[] 0 (Nat.le_refl _) (by decide) rfl, ?_, fun w2 a2 c2 q1 q2 => cpd_of (Below.refl _ _) q1 q2⟩
  rw [← hR]
  exact rv_src h ((Below.refl _ _).alloc (Nat.le_refl _) (.cells #[] 39))

set_option maxHeartbeats 2000000 in
theorem rmeta_any {w : World} {db lim : Nat} {R : Value} {rs : List Rr} {Q : Nat → Prop} (h : Rv w db lim R rs Q) (o : Int) (m : V4) (hN : U64 m.N) :
    Calls Tryz.prog 30 #[.pointer (some ⟨db, 0, none⟩), .int .i64 o, .agg #[.int .i64 m.K, .int .u64 m.N, .string m.S, .int .i64 m.O]] w fun e w' => e = .returned (.int .i64 (metaM (rs.map Rr.om) o m).1) ∧ RP w db lim (metaM (rs.map Rr.om) o m).2 Q w' := by
  have HN : Hid (∀ w, Calls Tryz.prog 63 #[.agg #[.int .i64 m.K, .int .u64 m.N, .string m.S, .int .i64 m.O]] w fun e w' => e = .returned (.agg #[.int .i64 (nK m.K), .int .u64 (nN m.K m.N), .string (nS m.K m.S), .int .i64 (nO m.K m.O)]) ∧ Below w.heap.size w w') := fun w => refNormal_any m.K m.N m.S m.O w hN
  have HV : Hid (Rv w db lim R rs Q) := h
  have HM : Hid ((rTab rs o = none → metaM (rs.map Rr.om) o m = (5, rs.map Rr.om)) ∧ (∀ r, rTab rs o = some r → (nK m.K ≠ 0 ∧ (nK m.K ≠ 5 ∨ rTab rs (nO m.K m.O) = none)) → metaM (rs.map Rr.om) o m = (1, rs.map Rr.om)) ∧ (∀ r i, rTab rs o = some r → (o - 1).toNat = i → ¬ (nK m.K ≠ 0 ∧ (nK m.K ≠ 5 ∨ rTab rs (nO m.K m.O) = none)) → metaM (rs.map Rr.om) o m = (0, (rs.map Rr.om).set i { r.om with M := norV m }))) := by
    refine ⟨fun e => ?_, fun r e hc => ?_, fun r i e hi hc => ?_⟩
    · unfold metaM; rw [tabM_rs, e]; rfl
    · unfold metaM; rw [tabM_rs, tabM_rs, e]; simp only [Option.map_some]; rw [if_pos (by simpa using hc)]
    · unfold metaM; rw [tabM_rs, tabM_rs, e]; simp only [Option.map_some]; rw [if_neg (by simpa using hc), hi]
  have HNV : Hid (norV m = ⟨nK m.K, nN m.K m.N, nS m.K m.S, nO m.K m.O⟩) := rfl
  generalize metaM (rs.map Rr.om) o m = res at *
  generalize norV m = nv at *
  generalize nK m.K = nk at *
  generalize nN m.K m.N = nn at *
  generalize nS m.K m.S = ns at *
  generalize nO m.K m.O = no at *
  have HB0 : Hid (Below w.heap.size w (w.alloc (.cells #[.int .i64 m.K, .int .u64 m.N, .string m.S, .int .i64 m.O] 37))) := (Below.refl _ _).alloc (Nat.le_refl _) _
  clear h
  go_enter Tryz.func30, Tryz.ntmps30
  go_upto_region 1 with fail
  go_cut [6] (fun t wx => t = .int .i64 0 ∧ wx.cell? ⟨w.heap.size, 0, none⟩ = some (.int .i64 nk) ∧ wx.cell? ⟨w.heap.size, 1, none⟩ = some (.int .u64 nn) ∧ wx.cell? ⟨w.heap.size, 2, none⟩ = some (.string ns) ∧ wx.cell? ⟨w.heap.size, 3, none⟩ = some (.int .i64 no) ∧ (∀ i, wx.frozen? ⟨w.heap.size, i, none⟩ = false) ∧ w.heap.size < wx.heap.size ∧ Hid (Below w.heap.size w wx))
  case first =>
    go_wp2_with fail
    refine (HN.out _).mono ?_
    rintro e w1 ⟨rfl, hb1⟩
    obtain ⟨p0, p1, p2, p3⟩ := keep4 (b := w.heap.size) (v0 := .int .i64 m.K) (v1 := .int .u64 m.N) (v2 := .string m.S) (v3 := .int .i64 m.O) ⟨by go_simp, by go_simp, by go_simp, by go_simp⟩ hb1
    have hf1 : ∀ k, w1.frozen? ⟨w.heap.size, k, none⟩ = false := fun k => (hb1.frozen (by simp)).trans (by go_simp)
    have HB1 : Hid (Below w.heap.size w w1) := HB0.out.trans (hb1.mono (by simp))
    have hsz := hb1.size
    simp at hsz
    clear hb1 HN
    go_wp2_with fail
    go_meet
    exact ⟨rfl, by go_simp, by go_simp, by go_simp, by go_simp, fun i => by go_simp, by simp; omega, set41 HB1.out (Nat.le_refl _) _ _ _ _⟩
  case rest =>
    obtain ⟨rfl, b0, b1, b2, b3, f0, hsz, HB⟩ := hcut
    have hv := HV.out.below HB.out
    have HH : Hid (∀ o, Calls Tryz.prog 7 #[.pointer (some ⟨db, 0, none⟩), .int .i64 o] wc fun e w' => e = .returned (.bool (rTab rs o).isSome) ∧ w' = wc) := fun o => rhas_any hv o
    have HO := HH.out o
    cases ht : rTab rs o with
    | none =>
      have HE : Hid (res = (5, rs.map Rr.om)) := HM.out.1 ht
      rw [show (rTab rs o).isSome = false by rw [ht]; rfl] at HO
      have HQ : Hid (RP w db lim (rs.map Rr.om) Q wc) := HV.out.rp HB.out
      clear hv HV HH HM ht HNV HN
      go_wp2_with fail
      refine HO.mono ?_
      rintro e w' ⟨rfl, rfl⟩
      clear HO
      go_wp2
      go_ret
      rw [HE.out]
      exact ⟨rfl, HQ.out⟩
    | some r =>
      rw [show (rTab rs o).isSome = true by rw [ht]; rfl] at HO
      have HT := HH.out no
      by_cases hk0 : nk = 0
      · have hc : ¬ (nk ≠ 0 ∧ (nk ≠ 5 ∨ rTab rs no = none)) := fun q => q.1 hk0
        obtain ⟨hra, hrk⟩ := rTab_some ht
        obtain ⟨i, ho, hoi, hil, hri⟩ := rAt_some hra
        have HE : Hid (res = (0, (rs.map Rr.om).set i { r.om with M := nv })) := HM.out.2.2 r i ht hoi hc
        obtain ⟨i0, hi0, hz0, hz1, hz2⟩ := objInfo
        obtain ⟨a0, cap, hR, hlen, a0c, hown, hsrc, hcp⟩ := cp_ask hv
        have HOWN := hide_p hown
        have HSRC := hide_p hsrc
        have HCP := hide_p hcp
        have hdb : db < wc.heap.size := hv.lt db hv.qd
        have hfd := hv.free 0
        have hdw : db ≠ w.heap.size := by have := HV.out.lt db HV.out.qd; omega
        have HQ : Hid (∀ w2 a2 c2, Cpd wc w2 rs a2 c2 → ∃ g, a2 = some ⟨g, 0, none⟩ ∧ g ≠ db ∧ g ≠ w.heap.size ∧ w2.cell? ⟨db, 0, none⟩ = some (.slice a0 rs.length cap) ∧ w2.frozen? ⟨db, 0, none⟩ = false ∧ (∀ j, w2.frozen? ⟨g, j, none⟩ = false) ∧ w2.cell? ⟨g, i * 10 + 3, none⟩ = some (.int .i64 r.om.M.K) ∧ w2.cell? ⟨g, i * 10 + 4, none⟩ = some (.int .u64 r.om.M.N) ∧ w2.cell? ⟨g, i * 10 + 5, none⟩ = some (.string r.om.M.S) ∧ w2.cell? ⟨g, i * 10 + 6, none⟩ = some (.int .i64 r.om.M.O) ∧
            w2.cell? ⟨w.heap.size, 0, none⟩ = some (.int .i64 nk) ∧ w2.cell? ⟨w.heap.size, 1, none⟩ = some (.int .u64 nn) ∧ w2.cell? ⟨w.heap.size, 2, none⟩ = some (.string ns) ∧ w2.cell? ⟨w.heap.size, 3, none⟩ = some (.int .i64 no) ∧
            RP wc db lim ((rs.map Rr.om).set i { r.om with M := nv }) Q ((((((w2.setCell ⟨db, 0, none⟩ (.slice (some ⟨g, 0, none⟩) rs.length c2)).setCell ⟨g, i * 10 + 3, none⟩ (.int .i64 nk)).setCell ⟨g, i * 10 + 4, none⟩ (.int .u64 nn)).setCell ⟨g, i * 10 + 5, none⟩ (.string ns)).setCell ⟨g, i * 10 + 6, none⟩ (.int .i64 no)).drew)) := fun w2 a2 c2 k => by
          obtain ⟨g, e, hg1, hg2, hgf, hgc⟩ := cpd_g k (by omega)
          subst e
          obtain ⟨ho1, ho2⟩ := hv.old k.low hri
          refine ⟨g, rfl, by omega, by omega, (k.low.cell hdb).trans a0c, (k.low.frozen hdb).trans hfd, hgf, hgc i r hri 3 (by omega), hgc i r hri 4 (by omega), hgc i r hri 5 (by omega), hgc i r hri 6 (by omega), (k.low.cell hsz).trans b0, (k.low.cell hsz).trans b1, (k.low.cell hsz).trans b2, (k.low.cell hsz).trans b3, ?_⟩
          refine Cpd.lay (r' := { r with om := { r.om with M := nv } }) (us := [(3, .int .i64 nk), (4, .int .u64 nn), (5, .string ns), (6, .int .i64 no)]) hv k hri (by simp) (by rw [HNV.out]; rfl) rfl (by simp only [os_setc, os_drewc]) (by simp only [tape_setc, tape_drewc]) (by simp only [output_setc, output_drewc]) ?_ (fun x hx => by have := ho2 x hx; omega) ?_
          · exact ⟨ho1.k, ho1.v, ho1.s, ho1.own, ho1.len⟩
          · have := usedR_set rs i r { r with om := { r.om with M := nv } } hri
            have hw : ({ r with om := { r.om with M := nv } } : Rr).om.wt = r.om.wt := rfl
            have := hv.hu
            omega
        have hil2 : (i : Int) < (rs.length : Int) := by omega
        clear hown hsrc hcp hR hra hrk ht hv HV HM hc HN hoi
        obtain ⟨n, hn⟩ : ∃ n, n = rs.length := ⟨_, rfl⟩
        rw [← hn] at hlen hil2 HSRC HQ HCP a0c
        clear hn hil
        subst ho
        have e1 : (i : Int) + 1 - 1 = (i : Int) := by omega
        clear HT HH
        subst hk0
        go_wp2_with fail
        refine HO.mono ?_
        rintro e w' ⟨rfl, hw'⟩
        have hw2 := hw'.symm
        subst hw2
        clear HO
        go_wp2_with (at_builtin; refine wpList_append_src _ rfl _ _ 29 rfl wc.heap.size 39 i0 _ 10 136 Tryz.underlying29 hi0 hz0 hz1 hz2 rfl (by decide) _ 0 [] rfl HOWN.out _ n (rC rs) rfl HSRC.out (by unfold maxLen; omega) (by omega) (by simp) ?_)
        intro a2 c2 w2 q1 q2 q3
        obtain ⟨g, rfl, hgd, hgb, m0, m1, mf, x3, x4, x5, x6, y0, y1, y2, y3, hrp⟩ := HQ.out w2 a2 c2 (HCP.out w2 a2 c2 q1 q2)
        have HRP := hide_p hrp
        clear hrp q1 q2 q3 HQ HCP HOWN HSRC a0c b0 b1 b2 b3 f0
        go_wp2_with fail
        go_region
        all_goals go_wp2
        all_goals go_ret
        all_goals rw [HE.out]
        all_goals exact ⟨rfl, RP.from HRP.out HB.out⟩
      · by_cases hk5 : nk = 5
        · cases ht2 : rTab rs no with
          | none =>
            have HE : Hid (res = (1, rs.map Rr.om)) := HM.out.2.1 r ht ⟨hk0, Or.inr ht2⟩
            rw [show (rTab rs no).isSome = false by rw [ht2]; rfl] at HT
            have HQ : Hid (RP w db lim (rs.map Rr.om) Q wc) := HV.out.rp HB.out
            clear hv HV HH HM ht ht2 HNV HN hk0
            subst hk5
            go_wp2_with fail
            refine HO.mono ?_
            rintro e w' ⟨rfl, hw'⟩
            have hw2 := hw'.symm
            subst hw2
            clear HO
            go_wp2_with fail
            refine HT.mono ?_
            rintro e w' ⟨rfl, hw'⟩
            have hw2 := hw'.symm
            subst hw2
            clear HT
            go_wp2
            go_ret
            rw [HE.out]
            exact ⟨rfl, HQ.out⟩
          | some r2 =>
            have hc : ¬ (nk ≠ 0 ∧ (nk ≠ 5 ∨ rTab rs no = none)) := fun q => by
              rcases q.2 with q | q
              · exact q hk5
              · rw [ht2] at q; cases q
            rw [show (rTab rs no).isSome = true by rw [ht2]; rfl] at HT
            clear ht2
            obtain ⟨hra, hrk⟩ := rTab_some ht
            obtain ⟨i, ho, hoi, hil, hri⟩ := rAt_some hra
            have HE : Hid (res = (0, (rs.map Rr.om).set i { r.om with M := nv })) := HM.out.2.2 r i ht hoi hc
            obtain ⟨i0, hi0, hz0, hz1, hz2⟩ := objInfo
            obtain ⟨a0, cap, hR, hlen, a0c, hown, hsrc, hcp⟩ := cp_ask hv
            have HOWN := hide_p hown
            have HSRC := hide_p hsrc
            have HCP := hide_p hcp
            have hdb : db < wc.heap.size := hv.lt db hv.qd
            have hfd := hv.free 0
            have hdw : db ≠ w.heap.size := by have := HV.out.lt db HV.out.qd; omega
            have HQ : Hid (∀ w2 a2 c2, Cpd wc w2 rs a2 c2 → ∃ g, a2 = some ⟨g, 0, none⟩ ∧ g ≠ db ∧ g ≠ w.heap.size ∧ w2.cell? ⟨db, 0, none⟩ = some (.slice a0 rs.length cap) ∧ w2.frozen? ⟨db, 0, none⟩ = false ∧ (∀ j, w2.frozen? ⟨g, j, none⟩ = false) ∧ w2.cell? ⟨g, i * 10 + 3, none⟩ = some (.int .i64 r.om.M.K) ∧ w2.cell? ⟨g, i * 10 + 4, none⟩ = some (.int .u64 r.om.M.N) ∧ w2.cell? ⟨g, i * 10 + 5, none⟩ = some (.string r.om.M.S) ∧ w2.cell? ⟨g, i * 10 + 6, none⟩ = some (.int .i64 r.om.M.O) ∧
                w2.cell? ⟨w.heap.size, 0, none⟩ = some (.int .i64 nk) ∧ w2.cell? ⟨w.heap.size, 1, none⟩ = some (.int .u64 nn) ∧ w2.cell? ⟨w.heap.size, 2, none⟩ = some (.string ns) ∧ w2.cell? ⟨w.heap.size, 3, none⟩ = some (.int .i64 no) ∧
                RP wc db lim ((rs.map Rr.om).set i { r.om with M := nv }) Q ((((((w2.setCell ⟨db, 0, none⟩ (.slice (some ⟨g, 0, none⟩) rs.length c2)).setCell ⟨g, i * 10 + 3, none⟩ (.int .i64 nk)).setCell ⟨g, i * 10 + 4, none⟩ (.int .u64 nn)).setCell ⟨g, i * 10 + 5, none⟩ (.string ns)).setCell ⟨g, i * 10 + 6, none⟩ (.int .i64 no)).drew)) := fun w2 a2 c2 k => by
              obtain ⟨g, e, hg1, hg2, hgf, hgc⟩ := cpd_g k (by omega)
              subst e
              obtain ⟨ho1, ho2⟩ := hv.old k.low hri
              refine ⟨g, rfl, by omega, by omega, (k.low.cell hdb).trans a0c, (k.low.frozen hdb).trans hfd, hgf, hgc i r hri 3 (by omega), hgc i r hri 4 (by omega), hgc i r hri 5 (by omega), hgc i r hri 6 (by omega), (k.low.cell hsz).trans b0, (k.low.cell hsz).trans b1, (k.low.cell hsz).trans b2, (k.low.cell hsz).trans b3, ?_⟩
              refine Cpd.lay (r' := { r with om := { r.om with M := nv } }) (us := [(3, .int .i64 nk), (4, .int .u64 nn), (5, .string ns), (6, .int .i64 no)]) hv k hri (by simp) (by rw [HNV.out]; rfl) rfl (by simp only [os_setc, os_drewc]) (by simp only [tape_setc, tape_drewc]) (by simp only [output_setc, output_drewc]) ?_ (fun x hx => by have := ho2 x hx; omega) ?_
              · exact ⟨ho1.k, ho1.v, ho1.s, ho1.own, ho1.len⟩
              · have := usedR_set rs i r { r with om := { r.om with M := nv } } hri
                have hw : ({ r with om := { r.om with M := nv } } : Rr).om.wt = r.om.wt := rfl
                have := hv.hu
                omega
            have hil2 : (i : Int) < (rs.length : Int) := by omega
            clear hown hsrc hcp hR hra hrk ht hv HV HM hc HN hoi
            obtain ⟨n, hn⟩ : ∃ n, n = rs.length := ⟨_, rfl⟩
            rw [← hn] at hlen hil2 HSRC HQ HCP a0c
            clear hn hil
            subst ho
            have e1 : (i : Int) + 1 - 1 = (i : Int) := by omega
            clear HH hk0
            subst hk5
            go_wp2_with fail
            refine HO.mono ?_
            rintro e w' ⟨rfl, hw'⟩
            have hw2 := hw'.symm
            subst hw2
            clear HO
            go_wp2_with fail
            refine HT.mono ?_
            rintro e w' ⟨rfl, hw'⟩
            have hw2 := hw'.symm
            subst hw2
            clear HT
            go_wp2_with (at_builtin; refine wpList_append_src _ rfl _ _ 29 rfl wc.heap.size 39 i0 _ 10 136 Tryz.underlying29 hi0 hz0 hz1 hz2 rfl (by decide) _ 0 [] rfl HOWN.out _ n (rC rs) rfl HSRC.out (by unfold maxLen; omega) (by omega) (by simp) ?_)
            intro a2 c2 w2 q1 q2 q3
            obtain ⟨g, rfl, hgd, hgb, m0, m1, mf, x3, x4, x5, x6, y0, y1, y2, y3, hrp⟩ := HQ.out w2 a2 c2 (HCP.out w2 a2 c2 q1 q2)
            have HRP := hide_p hrp
            clear hrp q1 q2 q3 HQ HCP HOWN HSRC a0c b0 b1 b2 b3 f0
            go_wp2_with fail
            go_region
            all_goals go_wp2
            all_goals go_ret
            all_goals rw [HE.out]
            all_goals exact ⟨rfl, RP.from HRP.out HB.out⟩
        · have HE : Hid (res = (1, rs.map Rr.om)) := HM.out.2.1 r ht ⟨hk0, Or.inl hk5⟩
          have HQ : Hid (RP w db lim (rs.map Rr.om) Q wc) := HV.out.rp HB.out
          clear hv HV HH HM ht HNV HN HT
          go_wp2_with fail
          refine HO.mono ?_
          rintro e w' ⟨rfl, hw'⟩
          have hw2 := hw'.symm
          subst hw2
          clear HO
          go_wp2
          go_ret
          rw [HE.out]
          exact ⟨rfl, HQ.out⟩

end Go.Proofs.YthmocdabakkfhaaGreatDoor
