/-
  HpRslot2
-/
import Derived.Test.YthmocdabakkfhaaGreatDoorZ27

/-
  Layer 9: the reference's SetSlot, walked.
-/
namespace Go.Proofs.YthmocdabakkfhaaGreatDoor
set_option maxRecDepth 100000
open Go.RowKit Flo

theorem vr_of {w : World} {B : Nat} {v : Value} {l : List V4} (h : w.ownsRow B 37 4 v l.length (vC l)) : Vr w v l := by
  refine ⟨h.1, ?_⟩
  rcases h.2 with q | ⟨g, cap, cur, q1, _, q2⟩
  · exact Or.inl q
  · exact Or.inr ⟨g, cap, cur, q1, Nat.zero_le _, q2⟩
theorem vr_at {w : World} {g n c : Nat} {l : List V4} (h : Vr w (.slice (some ⟨g, 0, none⟩) n c) l) {p : Nat} {x : V4} (hx : l[p]? = some x) : At4 w g (p * 4) x := by
  obtain ⟨a, cap, e, hf⟩ := h.form
  have hp : p < l.length := by
    rcases Nat.lt_or_ge p l.length with c | c
    · exact c
    · rw [List.getElem?_eq_none c] at hx; cases hx
  obtain ⟨g', eg, _, hat⟩ := hf (by omega)
  injection e with e1 _ _
  rw [eg] at e1
  injection e1 with e1
  injection e1 with e1
  rw [e1]
  exact hat p x hx
theorem heap_drewd (w : World) : w.drew.heap = w.heap := rfl
theorem stores10 (w : World) (g o : Nat) (a0 a1 a2 a3 a4 a5 a6 a7 a8 a9 : Value) : stores w g o [(0, a0), (1, a1), (2, a2), (3, a3), (4, a4), (5, a5), (6, a6), (7, a7), (8, a8), (9, a9)] = ((((((((((w.setCell ⟨g, o, none⟩ a0).setCell ⟨g, o + 1, none⟩ a1).setCell ⟨g, o + 2, none⟩ a2).setCell ⟨g, o + 3, none⟩ a3).setCell ⟨g, o + 4, none⟩ a4).setCell ⟨g, o + 5, none⟩ a5).setCell ⟨g, o + 6, none⟩ a6).setCell ⟨g, o + 7, none⟩ a7).setCell ⟨g, o + 8, none⟩ a8).setCell ⟨g, o + 9, none⟩ a9) := rfl
/-- What there is behind the slot that was written: the object in its box b, its new row of slots. -/
def Sld (w w2 : World) (b : Nat) (r : Rr) (sl : List V4) : Prop := ∃ g c, Bo w2 b { r with om := { r.om with sl := sl }, sv := .slice (some ⟨g, 0, none⟩) sl.length c } ∧ Vr w2 (.slice (some ⟨g, 0, none⟩) sl.length c) sl ∧ w.heap.size ≤ g ∧ g < w2.heap.size ∧ Below w.heap.size w w2 ∧ w.heap.size ≤ b
/-- And behind the copy of the row of objects, and the object laid into it. -/
theorem Sld.lay {w w1 w2 w4 : World} {db lim j : Nat} {R : Value} {rs : List Rr} {Q : Nat → Prop} {r r' : Rr} (h : Rv w db lim R rs Q) (hj : rs[j]? = some r) (hwt : r'.om.wt + usedR rs ≤ lim + r.om.wt)
    (hv : Rrv w2 (fun g => (Q g ∧ g ≠ db) ∨ (w.heap.size ≤ g ∧ g < w2.heap.size)) r') {g c : Nat} (k : Cpd w w2 rs (some ⟨g, 0, none⟩) c) (hw1 : w1.heap.size ≤ g) (hg' : ∀ x, r'.kv.ownBlock = some x ∨ r'.vv.ownBlock = some x ∨ r'.sv.ownBlock = some x → x < w1.heap.size)
    (hw : w4.heap = (((((((((((w2.setCell ⟨db, 0, none⟩ (.slice (some ⟨g, 0, none⟩) rs.length c)).setCell ⟨g, j * 10, none⟩ (.int .i64 r'.om.k)).setCell ⟨g, j * 10 + 1, none⟩ r'.kv).setCell ⟨g, j * 10 + 2, none⟩ r'.vv).setCell ⟨g, j * 10 + 3, none⟩ (.int .i64 r'.om.M.K)).setCell ⟨g, j * 10 + 4, none⟩ (.int .u64 r'.om.M.N)).setCell ⟨g, j * 10 + 5, none⟩ (.string r'.om.M.S)).setCell ⟨g, j * 10 + 6, none⟩ (.int .i64 r'.om.M.O)).setCell ⟨g, j * 10 + 7, none⟩ (.int .i64 r'.om.a)).setCell ⟨g, j * 10 + 8, none⟩ (.int .i64 r'.om.b)).setCell ⟨g, j * 10 + 9, none⟩ r'.sv).heap) (ho : w4.os = w2.os) (ht : w4.tape = w2.tape) (hp : w4.output = w2.output) :
    RP w db lim ((rs.map Rr.om).set j r'.om) Q w4 :=
  Cpd.lay (r' := r') (us := [(0, .int .i64 r'.om.k), (1, r'.kv), (2, r'.vv), (3, .int .i64 r'.om.M.K), (4, .int .u64 r'.om.M.N), (5, .string r'.om.M.S), (6, .int .i64 r'.om.M.O), (7, .int .i64 r'.om.a), (8, .int .i64 r'.om.b), (9, r'.sv)]) h k hj (by simp) rfl (by rw [stores10]; exact hw) ho ht hp hv (fun x hx => by have := hg' x hx; omega) (by have := usedR_set rs j r r' hj; omega)

set_option maxHeartbeats 4000000 in
theorem rslot_any {w : World} {db lim : Nat} {R : Value} {rs : List Rr} {Q : Nat → Prop} (h : Rv w db lim R rs Q) (o i : Int) (v : V4) (hN : U64 v.N) :
    Calls Tryz.prog 34 #[.pointer (some ⟨db, 0, none⟩), .int .i64 o, .int .i64 i, .agg #[.int .i64 v.K, .int .u64 v.N, .string v.S, .int .i64 v.O]] w fun e w' => e = .returned (.int .i64 (slotM (rs.map Rr.om) o i v).1) ∧ RP w db lim (slotM (rs.map Rr.om) o i v).2 Q w' := by
  have HB0 : Hid (Below w.heap.size w (w.alloc (.cells #[.int .i64 v.K, .int .u64 v.N, .string v.S, .int .i64 v.O] 37))) := (Below.refl _ _).alloc (Nat.le_refl _) _
  have HS := hide_p (rhasS_any (h.below HB0.out) o i)
  obtain ⟨hm0, hm1⟩ := slotM_rs rs o i v
  cases hok : slotOk rs o i with
  | false =>
    rw [hm0 hok]
    rw [hok] at HS
    have HQ : Hid (RP w db lim (rs.map Rr.om) Q (w.alloc (.cells #[.int .i64 v.K, .int .u64 v.N, .string v.S, .int .i64 v.O] 37))) := h.rp HB0.out
    clear h hm0 hm1 hok
    go_enter Tryz.func34, Tryz.ntmps34
    go_wp2_with fail
    refine HS.out.mono ?_
    rintro e w' ⟨rfl, rfl⟩
    clear HS
    go_wp2
    go_ret
    exact ⟨rfl, HQ.out⟩
  | true =>
    obtain ⟨r, hr⟩ : ∃ r, rAt rs o = some r := by
      unfold slotOk at hok
      cases hx : rAt rs o with
      | none => rw [hx] at hok; cases hok
      | some r => exact ⟨r, rfl⟩
    obtain ⟨j, ho, hoj, hjl, hrj⟩ := rAt_some hr
    have hi : 0 ≤ i ∧ i < r.om.sl.length := by
      unfold slotOk at hok
      rw [hr] at hok
      exact of_decide_eq_true hok
    obtain ⟨p, hp⟩ : ∃ p : Nat, i = (p : Int) := ⟨i.toNat, by omega⟩
    rw [hm1 r j hr hoj hok]
    rw [hok] at HS
    have hpl : p < r.om.sl.length := by omega
    rw [show i.toNat = p by omega]
    have HN : Hid (∀ w, Calls Tryz.prog 63 #[.agg #[.int .i64 v.K, .int .u64 v.N, .string v.S, .int .i64 v.O]] w fun e w' => e = .returned (.agg #[.int .i64 (nK v.K), .int .u64 (nN v.K v.N), .string (nS v.K v.S), .int .i64 (nO v.K v.O)]) ∧ Below w.heap.size w w') := fun w => refNormal_any v.K v.N v.S v.O w hN
    have HV := hide_p h
    have HRJ := hide_p hrj
    have hslen : r.om.sl.length ≤ 1048576 := by have := usedR_ge rs j r hrj; have := h.hu; have := h.hl; have hw : r.om.wt = 1 + r.om.ks.length + r.om.sl.length := rfl; omega
    have hjl2 : (j : Int) < (rs.length : Int) := by omega
    have hpl2 : (p : Int) < (r.om.sl.length : Int) := by omega
    have HPL := hide_p hpl
    obtain ⟨ka, kc, hkv, _⟩ := (h.ob j r hrj).k.form
    obtain ⟨va, vc, hvv, _⟩ := (h.ob j r hrj).v.form
    obtain ⟨sa, sc, hsv, _⟩ := (h.ob j r hrj).s.form
    have hrv := h.ob j r hrj
    clear hm0 hm1 hok hr hoj hi h hrj hpl
    obtain ⟨rom, kv, vv, sv⟩ := r
    simp only at hkv hvv hsv hslen hpl2 HPL ⊢
    subst hkv
    subst hvv
    subst hsv
    have HRV := hide_p hrv
    clear hrv
    subst ho
    subst hp
    have e1 : (j : Int) + 1 - 1 = (j : Int) := by omega
    have hge : ¬ ((p : Int) < 0) := by omega
    by_cases h9 : v.K = 9
    · have hsl : slV v = v := by unfold slV; rw [if_pos h9]
      rw [hsl]
      clear HN hsl
      obtain ⟨vK, vN, vS, vO⟩ := v
      simp only at h9 HB0 HS
      subst h9
      simp only
      obtain ⟨v', hv'⟩ : ∃ v' : V4, v' = ⟨9, vN, vS, vO⟩ := ⟨_, rfl⟩
      rw [← hv']
      go_enter Tryz.func34, Tryz.ntmps34
      go_wp2_with fail
      refine HS.out.mono ?_
      rintro e w' ⟨rfl, hw'⟩
      subst hw'
      clear HS
      go_upto_region 5 with fail
      obtain ⟨w5, hw5⟩ : ∃ w5, w5 = w.alloc (.cells #[.int .i64 9, .int .u64 vN, .string vS, .int .i64 vO] 37) := ⟨_, rfl⟩
      have b0 : w5.cell? ⟨w.heap.size, 0, none⟩ = some (.int .i64 v'.K) := by rw [hw5, hv']; go_simp
      have b1 : w5.cell? ⟨w.heap.size, 1, none⟩ = some (.int .u64 v'.N) := by rw [hw5, hv']; go_simp
      have b2 : w5.cell? ⟨w.heap.size, 2, none⟩ = some (.string v'.S) := by rw [hw5, hv']; go_simp
      have b3 : w5.cell? ⟨w.heap.size, 3, none⟩ = some (.int .i64 v'.O) := by rw [hw5, hv']; go_simp
      have hsz : w.heap.size < w5.heap.size := by rw [hw5]; simp
      have HB : Hid (Below w.heap.size w w5) := by rw [hw5]; exact HB0.out
      rw [← hw5]
      clear hw5 HB0 hv'
      have hv5 := HV.out.below HB.out
      obtain ⟨a0, cap0, hR, hf0⟩ := hv5.form
      obtain ⟨g0, rfl, hg0, hc0⟩ := hf0 (by omega)
      have x := fun q hq => hc0 j _ HRJ.out q hq
      have c0 : w5.cell? ⟨db, 0, none⟩ = some (.slice (some ⟨g0, 0, none⟩) rs.length cap0) := by rw [← hR]; exact hv5.c0
      have x0 : w5.cell? ⟨g0, j * 10, none⟩ = some (.int .i64 rom.k) := x 0 (by omega)
      have x1 : w5.cell? ⟨g0, j * 10 + 1, none⟩ = some (.slice ka rom.ks.length kc) := x 1 (by omega)
      have x2 : w5.cell? ⟨g0, j * 10 + 2, none⟩ = some (.slice va rom.vs.length vc) := x 2 (by omega)
      have x3 : w5.cell? ⟨g0, j * 10 + 3, none⟩ = some (.int .i64 rom.M.K) := x 3 (by omega)
      have x4 : w5.cell? ⟨g0, j * 10 + 4, none⟩ = some (.int .u64 rom.M.N) := x 4 (by omega)
      have x5 : w5.cell? ⟨g0, j * 10 + 5, none⟩ = some (.string rom.M.S) := x 5 (by omega)
      have x6 : w5.cell? ⟨g0, j * 10 + 6, none⟩ = some (.int .i64 rom.M.O) := x 6 (by omega)
      have x7 : w5.cell? ⟨g0, j * 10 + 7, none⟩ = some (.int .i64 rom.a) := x 7 (by omega)
      have x8 : w5.cell? ⟨g0, j * 10 + 8, none⟩ = some (.int .i64 rom.b) := x 8 (by omega)
      have x9 : w5.cell? ⟨g0, j * 10 + 9, none⟩ = some (.slice sa rom.sl.length sc) := x 9 (by omega)
      have hlen : rs.length ≤ 1048576 := by have := usedR_len rs; have := HV.out.hu; have := HV.out.hl; omega
      clear hc0 hf0 hR hg0 x hv5
      go_cut [9] (fun t9 wx => t9 = .pointer (some ⟨w5.heap.size, 0, none⟩) ∧ Hid (Bo wx w5.heap.size (⟨rom, .slice ka rom.ks.length kc, .slice va rom.vs.length vc, .slice sa rom.sl.length sc⟩ : Rr) ∧ Below w5.heap.size w5 wx))
      case first =>
        go_wp2_with fail
        go_meet
        exact ⟨rfl, bo_lit w5 (⟨rom, .slice ka rom.ks.length kc, .slice va rom.vs.length vc, .slice sa rom.sl.length sc⟩ : Rr) #[.int .i64 rom.k, .slice ka rom.ks.length kc, .slice va rom.vs.length vc, .int .i64 rom.M.K, .int .u64 rom.M.N, .string rom.M.S, .int .i64 rom.M.O, .int .i64 rom.a, .int .i64 rom.b, .slice sa rom.sl.length sc] rfl, (Below.refl _ _).alloc (Nat.le_refl _) _⟩
      case rest =>
        obtain ⟨rfl, HX⟩ := hcut
        clear x0 x1 x2 x3 x4 x5 x6 x7 x8 x9 c0
        obtain ⟨w6, hw6⟩ : ∃ x, x = wc := ⟨_, rfl⟩
        subst hw6
        have HB6 : Hid (Below w.heap.size w w6) := HB.out.trans (HX.out.2.mono HB.out.size)
        have hs6 : w5.heap.size < w6.heap.size := HX.out.1.lt
        have y9 : w6.cell? ⟨w5.heap.size, 9, none⟩ = some (.slice sa rom.sl.length sc) := HX.out.1.c 9 (by omega)
        have yf : w6.frozen? ⟨w5.heap.size, 9, none⟩ = false := HX.out.1.f 9
        have hvs : Vr w6 (.slice sa rom.sl.length sc) rom.sl := ((HV.out.below HB6.out).ob j _ HRJ.out).s
        obtain ⟨a1, cap1, hva, hown1, hsrc1, hlow1⟩ := vp_ask hvs w.heap.size HB6.out.size
        simp only [Value.slice.injEq, true_and] at hva
        obtain ⟨e2, e3⟩ := hva
        subst e2
        subst e3
        have HOWN1 := hide_p hown1
        have HSRC1 := hide_p hsrc1
        have HLOW1 := hide_p hlow1
        obtain ⟨i1, hi1, hy0, hy1, hy2⟩ := valInfo
        clear hown1 hsrc1 hlow1 hvs
        obtain ⟨m, hm⟩ : ∃ m, m = rom.sl.length := ⟨_, rfl⟩
        have HM := hide_p hm
        rw [← hm] at HSRC1 HLOW1 y9 hslen hpl2
        clear hm
        go_wp2_with (at_builtin; refine wpList_append_src _ rfl _ _ 33 rfl w.heap.size 37 i1 _ 4 40 Tryz.underlying33 hi1 hy0 hy1 hy2 rfl (by decide) _ 0 [] rfl HOWN1.out _ m (vC rom.sl) rfl HSRC1.out (by unfold maxLen; omega) (by omega) (by have := HB6.out.size; simp; omega) ?_)
        intro a2 c2 w7 q1 q2 q3
        have low7 := HLOW1.out w7 a2 c2 q1 q2
        obtain ⟨g2, cap2, e2, hg2, hg2l⟩ := q1.form (by omega)
        simp only [Value.slice.injEq, true_and] at e2
        obtain ⟨e2, e3⟩ := e2
        subst e2
        subst e3
        have hg6 : w6.heap.size ≤ g2 := by
          rcases q3 with q | q
          · have e : g2 = w6.heap.size := by simpa [Value.ownBlock] using q
            omega
          · have e : g2 = w6.heap.size + 1 := by simpa [Value.ownBlock] using q
            omega
        have HVR : Hid (Vr w7 (.slice (some ⟨g2, 0, none⟩) m c2) rom.sl) := by
          show w7.ownsRow 0 37 4 _ _ _
          rw [← HM.out]
          exact ⟨q1.1, by
            rcases q1.2 with q | ⟨g, cap, cur, t1, _, t2⟩
            · exact Or.inl q
            · exact Or.inr ⟨g, cap, cur, t1, Nat.zero_le _, t2⟩⟩
        obtain ⟨x, hx⟩ : ∃ x, rom.sl[p]? = some x := ⟨rom.sl[p]'HPL.out, List.getElem?_eq_getElem HPL.out⟩
        have hfg : ∀ q, w7.frozen? ⟨g2, q, none⟩ = false := fun q => owns_free q1 q
        have hat := vr_at HVR.out hx
        have t0 := hat.c0
        have t1 := hat.c1
        have t2 := hat.c2
        have t3 := hat.c3
        have z9 : w7.cell? ⟨w5.heap.size, 9, none⟩ = some (.slice sa m sc) := (low7.cell hs6).trans y9
        have zf : w7.frozen? ⟨w5.heap.size, 9, none⟩ = false := (low7.frozen hs6).trans yf
        have hb6 : w.heap.size < w6.heap.size := by omega
        have d0 : w7.cell? ⟨w.heap.size, 0, none⟩ = some (.int .i64 v'.K) := (low7.cell hb6).trans ((HX.out.2.cell hsz).trans b0)
        have d1 : w7.cell? ⟨w.heap.size, 1, none⟩ = some (.int .u64 v'.N) := (low7.cell hb6).trans ((HX.out.2.cell hsz).trans b1)
        have d2 : w7.cell? ⟨w.heap.size, 2, none⟩ = some (.string v'.S) := (low7.cell hb6).trans ((HX.out.2.cell hsz).trans b2)
        have d3 : w7.cell? ⟨w.heap.size, 3, none⟩ = some (.int .i64 v'.O) := (low7.cell hb6).trans ((HX.out.2.cell hsz).trans b3)
        have hgx : g2 ≠ w5.heap.size := by omega
        have hgb : g2 ≠ w.heap.size := by omega
        have hxb : w5.heap.size ≠ w.heap.size := by omega
        have HL7 : Hid (Bo w7 w5.heap.size (⟨rom, .slice ka rom.ks.length kc, .slice va rom.vs.length vc, .slice sa rom.sl.length sc⟩ : Rr) ∧ Below w.heap.size w w7) := ⟨HX.out.1.below low7, HB6.out.trans (low7.mono HB6.out.size)⟩
        have HXX := hide_p hx
        have HG2 := hide_p hg2l
        clear q1 q2 q3 low7 hat hx HOWN1 HSRC1 HLOW1 y9 yf b0 b1 b2 b3 HX hg2l HB
        go_upto_region 7 with fail
        go_cut [9] (fun t9 wx => t9 = .pointer (some ⟨w5.heap.size, 0, none⟩) ∧ Hid (Bo wx w5.heap.size (⟨{ rom with sl := rom.sl.set p v' }, .slice ka rom.ks.length kc, .slice va rom.vs.length vc, .slice (some ⟨g2, 0, none⟩) rom.sl.length c2⟩ : Rr) ∧ Vr wx (.slice (some ⟨g2, 0, none⟩) rom.sl.length c2) (rom.sl.set p v') ∧ Below w.heap.size w wx ∧ g2 < wx.heap.size))
        case first =>
          go_wp2_with fail
          go_meet
          refine ⟨rfl, ?_, ?_, ?_, ?_⟩
          · have k1 := HL7.out.1.sets (r' := ⟨rom, .slice ka rom.ks.length kc, .slice va rom.vs.length vc, .slice (some ⟨g2, 0, none⟩) m c2⟩) [(9, .slice (some ⟨g2, 0, none⟩) m c2)] rfl
            have k2 := k1.wx (wx_stores (g := g2) (o := p * 4) [(0, .int .i64 v'.K), (1, .int .u64 v'.N), (2, .string v'.S), (3, .int .i64 v'.O)] _) (fun e => hgx e.symm)
            rw [← HM.out]
            exact k2
          · have k1 : Vr (w7.setCell ⟨w5.heap.size, 9, none⟩ (.slice (some ⟨g2, 0, none⟩) m c2)) (.slice (some ⟨g2, 0, none⟩) m c2) rom.sl := HVR.out.wx (Wx.set (X := fun k => k = w5.heap.size) w7 9 _ rfl) (fun g hg => by
              have e : g2 = g := by simpa [Value.ownBlock] using hg
              omega)
            unfold Vr at k1
            rw [← HM.out] at k1
            have k2 := owns_stores (o := p * 4) [(0, .int .i64 v'.K), (1, .int .u64 v'.N), (2, .string v'.S), (3, .int .i64 v'.O)] k1
            rw [vC_sets rom.sl p x v' _ HXX.out (by simp) rfl] at k2
            unfold Vr
            rw [List.length_set, ← HM.out]
            exact k2
          · refine HL7.out.2.trans (((Wx.set (X := fun k => k = w5.heap.size ∨ k = g2) (k := w5.heap.size) w7 9 (.slice (some ⟨g2, 0, none⟩) m c2) (Or.inl rfl)).trans (wx_stores (g := g2) (o := p * 4) [(0, .int .i64 v'.K), (1, .int .u64 v'.N), (2, .string v'.S), (3, .int .i64 v'.O)] _) (fun k hk => Or.inl (Or.inr hk))).below (fun k hk => by omega) HL7.out.2.size)
          · have hgl := HG2.out
            simp
            exact hgl
        case rest =>
          obtain ⟨rfl, HY⟩ := hcut
          clear z9 zf d0 d1 d2 d3 t0 t1 t2 t3 hfg HVR HL7
          obtain ⟨w8, hw8⟩ : ∃ x, x = wc := ⟨_, rfl⟩
          subst hw8
          have hs8 : w5.heap.size < w8.heap.size := HY.out.1.lt
          obtain ⟨i0, hi0, hz0, hz1, hz2⟩ := objInfo
          obtain ⟨a0, cap, hR, _, a0c, hown, hsrc, hcp⟩ := cp_ask2 HV.out HY.out.2.2.1
          have HOWN := hide_p hown
          have HSRC := hide_p hsrc
          have HCP := hide_p hcp
          have hdb : db < w.heap.size := HV.out.lt db HV.out.qd
          have hdb8 : db < w8.heap.size := by have := HY.out.2.2.1.size; omega
          have hfd : w8.frozen? ⟨db, 0, none⟩ = false := (HY.out.2.2.1.frozen hdb).trans (HV.out.free 0)
          clear hown hsrc hcp hR
          obtain ⟨n, hn⟩ : ∃ n, n = rs.length := ⟨_, rfl⟩
          have HNN := hide_p hn
          rw [← hn] at HSRC HCP a0c hlen hjl2
          clear hn
          go_wp2_with (at_builtin; refine wpList_append_src _ rfl _ _ 29 rfl w.heap.size 39 i0 _ 10 136 Tryz.underlying29 hi0 hz0 hz1 hz2 rfl (by decide) _ 0 [] rfl HOWN.out _ n (rC rs) rfl HSRC.out (by unfold maxLen; omega) (by omega) (by have := HY.out.2.2.1.size; simp; omega) ?_)
          intro a3 c3 w9 q1 q2 q3
          obtain ⟨k9, low9⟩ := HCP.out w9 a3 c3 q1 q2
          obtain ⟨g, rfl, hg1, hg2, hgf, hgc⟩ := cpd_g k9 (by omega)
          have hg8 : w8.heap.size ≤ g := by
            rcases q3 with q | q
            · have e : g = w8.heap.size := by simpa [Value.ownBlock] using q
              omega
            · have e : g = w8.heap.size + 1 := by simpa [Value.ownBlock] using q
              omega
          have y := fun q hq => hgc j _ HRJ.out q hq
          have m0 : w9.cell? ⟨g, j * 10, none⟩ = some (.int .i64 rom.k) := y 0 (by omega)
          have m1 : w9.cell? ⟨g, j * 10 + 1, none⟩ = some (.slice ka rom.ks.length kc) := y 1 (by omega)
          have m2 : w9.cell? ⟨g, j * 10 + 2, none⟩ = some (.slice va rom.vs.length vc) := y 2 (by omega)
          have m3 : w9.cell? ⟨g, j * 10 + 3, none⟩ = some (.int .i64 rom.M.K) := y 3 (by omega)
          have m4 : w9.cell? ⟨g, j * 10 + 4, none⟩ = some (.int .u64 rom.M.N) := y 4 (by omega)
          have m5 : w9.cell? ⟨g, j * 10 + 5, none⟩ = some (.string rom.M.S) := y 5 (by omega)
          have m6 : w9.cell? ⟨g, j * 10 + 6, none⟩ = some (.int .i64 rom.M.O) := y 6 (by omega)
          have m7 : w9.cell? ⟨g, j * 10 + 7, none⟩ = some (.int .i64 rom.a) := y 7 (by omega)
          have m8 : w9.cell? ⟨g, j * 10 + 8, none⟩ = some (.int .i64 rom.b) := y 8 (by omega)
          have m9 : ∃ u, w9.cell? ⟨g, j * 10 + 9, none⟩ = some u := ⟨_, y 9 (by omega)⟩
          obtain ⟨u9, m9⟩ := m9
          have bo := HY.out.1.below low9
          have n0 : w9.cell? ⟨w5.heap.size, 0, none⟩ = some (.int .i64 rom.k) := bo.c 0 (by omega)
          have n1 : w9.cell? ⟨w5.heap.size, 1, none⟩ = some (.slice ka rom.ks.length kc) := bo.c 1 (by omega)
          have n2 : w9.cell? ⟨w5.heap.size, 2, none⟩ = some (.slice va rom.vs.length vc) := bo.c 2 (by omega)
          have n3 : w9.cell? ⟨w5.heap.size, 3, none⟩ = some (.int .i64 rom.M.K) := bo.c 3 (by omega)
          have n4 : w9.cell? ⟨w5.heap.size, 4, none⟩ = some (.int .u64 rom.M.N) := bo.c 4 (by omega)
          have n5 : w9.cell? ⟨w5.heap.size, 5, none⟩ = some (.string rom.M.S) := bo.c 5 (by omega)
          have n6 : w9.cell? ⟨w5.heap.size, 6, none⟩ = some (.int .i64 rom.M.O) := bo.c 6 (by omega)
          have n7 : w9.cell? ⟨w5.heap.size, 7, none⟩ = some (.int .i64 rom.a) := bo.c 7 (by omega)
          have n8 : w9.cell? ⟨w5.heap.size, 8, none⟩ = some (.int .i64 rom.b) := bo.c 8 (by omega)
          have n9 : w9.cell? ⟨w5.heap.size, 9, none⟩ = some (.slice (some ⟨g2, 0, none⟩) rom.sl.length c2) := bo.c 9 (by omega)
          have mdb : w9.cell? ⟨db, 0, none⟩ = some (.slice a0 n cap) := (low9.cell hdb8).trans a0c
          have mfd : w9.frozen? ⟨db, 0, none⟩ = false := (low9.frozen hdb8).trans hfd
          have hgd : g ≠ db := by omega
          have hgx2 : g ≠ w5.heap.size := by omega
          have hdx : db ≠ w5.heap.size := by omega
          have HRP : Hid (∀ w4 : World, w4.heap = (((((((((((w9.setCell ⟨db, 0, none⟩ (.slice (some ⟨g, 0, none⟩) n c3)).setCell ⟨g, j * 10, none⟩ (.int .i64 rom.k)).setCell ⟨g, j * 10 + 1, none⟩ (.slice ka rom.ks.length kc)).setCell ⟨g, j * 10 + 2, none⟩ (.slice va rom.vs.length vc)).setCell ⟨g, j * 10 + 3, none⟩ (.int .i64 rom.M.K)).setCell ⟨g, j * 10 + 4, none⟩ (.int .u64 rom.M.N)).setCell ⟨g, j * 10 + 5, none⟩ (.string rom.M.S)).setCell ⟨g, j * 10 + 6, none⟩ (.int .i64 rom.M.O)).setCell ⟨g, j * 10 + 7, none⟩ (.int .i64 rom.a)).setCell ⟨g, j * 10 + 8, none⟩ (.int .i64 rom.b)).setCell ⟨g, j * 10 + 9, none⟩ (.slice (some ⟨g2, 0, none⟩) rom.sl.length c2)).heap → w4.os = w9.os → w4.tape = w9.tape → w4.output = w9.output → RP w db lim ((rs.map Rr.om).set j { rom with sl := rom.sl.set p v' }) Q w4) := fun w4 e1 e2 e3 e4 => by
            have hlow : Below w.heap.size w w9 := k9.low
            obtain ⟨ho1, ho2⟩ := HV.out.old hlow HRJ.out
            refine Sld.lay (w1 := w8) (r' := (⟨{ rom with sl := rom.sl.set p v' }, .slice ka rom.ks.length kc, .slice va rom.vs.length vc, .slice (some ⟨g2, 0, none⟩) rom.sl.length c2⟩ : Rr)) HV.out HRJ.out ?_ ?_ k9 hg8 ?_ (by rw [← HNN.out]; exact e1) e2 e3 e4
            · have h1 : ((⟨{ rom with sl := rom.sl.set p v' }, .slice ka rom.ks.length kc, .slice va rom.vs.length vc, .slice (some ⟨g2, 0, none⟩) rom.sl.length c2⟩ : Rr)).om.wt = ((⟨rom, .slice ka rom.ks.length kc, .slice va rom.vs.length vc, .slice sa rom.sl.length sc⟩ : Rr)).om.wt := by simp [Om.wt]
              have := HV.out.hu
              omega
            · refine ⟨ho1.k, ho1.v, ?_, fun y hy => ?_, ho1.len⟩
              · have k1 := HY.out.2.1
                have k2 : Vr w9 (.slice (some ⟨g2, 0, none⟩) rom.sl.length c2) (rom.sl.set p v') := k1.wx (Wx.of_below (fun _ => False) low9) (fun _ _ c => c)
                exact k2
              · rcases hy with hy | hy | hy
                · exact ho1.own y (Or.inl hy)
                · exact ho1.own y (Or.inr (Or.inl hy))
                · have e : g2 = y := by simpa [Value.ownBlock] using hy
                  have := low9.size
                  have := HY.out.2.2.2
                  exact Or.inr ⟨by omega, by omega⟩
            · intro y hy
              rcases hy with hy | hy | hy
              · have := ho2 y (Or.inl hy); have := HY.out.2.2.1.size; omega
              · have := ho2 y (Or.inr (Or.inl hy)); have := HY.out.2.2.1.size; omega
              · have e : g2 = y := by simpa [Value.ownBlock] using hy
                have := HY.out.2.2.2
                omega
          clear q1 q2 q3 k9 low9 hgc y bo HOWN HSRC HCP a0c hfd HY HM
          go_wp2_with fail
          go_region
          all_goals go_wp2
          all_goals go_ret
          all_goals refine ⟨rfl, HRP.out _ (heap_drewd _) ?_ ?_ ?_⟩
          all_goals simp only [os_setc, tape_setc, output_setc, os_drewc, tape_drewc, output_drewc]
    · have hsl : slV v = ⟨nK v.K, nN v.K v.N, nS v.K v.S, nO v.K v.O⟩ := by unfold slV; rw [if_neg h9]; rfl
      rw [hsl]
      obtain ⟨v', hv'⟩ : ∃ v' : V4, v' = ⟨nK v.K, nN v.K v.N, nS v.K v.S, nO v.K v.O⟩ := ⟨_, rfl⟩
      rw [← hv']
      have HN2 : Hid (∀ w, Calls Tryz.prog 63 #[.agg #[.int .i64 v.K, .int .u64 v.N, .string v.S, .int .i64 v.O]] w fun e w' => e = .returned (.agg #[.int .i64 v'.K, .int .u64 v'.N, .string v'.S, .int .i64 v'.O]) ∧ Below w.heap.size w w') := by rw [hv']; exact HN.out
      clear HN hsl hv'
      go_enter Tryz.func34, Tryz.ntmps34
      go_wp2_with fail
      refine HS.out.mono ?_
      rintro e w' ⟨rfl, hw'⟩
      subst hw'
      clear HS
      go_wp2_with fail
      refine (HN2.out _).mono ?_
      rintro e w1 ⟨rfl, hb1⟩
      obtain ⟨p0, p1, p2, p3⟩ := keep4 (b := w.heap.size) (v0 := .int .i64 v.K) (v1 := .int .u64 v.N) (v2 := .string v.S) (v3 := .int .i64 v.O) ⟨by go_simp, by go_simp, by go_simp, by go_simp⟩ hb1
      have hf1 : ∀ k, w1.frozen? ⟨w.heap.size, k, none⟩ = false := fun k => (hb1.frozen (by simp)).trans (by go_simp)
      have HB1 : Hid (Below w.heap.size w w1) := HB0.out.trans (hb1.mono (by simp))
      have hsz1 := hb1.size
      simp at hsz1
      clear hb1 HN2 HB0
      go_upto_region 5 with fail
      obtain ⟨w5, hw5⟩ : ∃ w5, w5 = (((w1.setCell ⟨w.heap.size, 0, none⟩ (.int .i64 v'.K)).setCell ⟨w.heap.size, 1, none⟩ (.int .u64 v'.N)).setCell ⟨w.heap.size, 2, none⟩ (.string v'.S)).setCell ⟨w.heap.size, 3, none⟩ (.int .i64 v'.O) := ⟨_, rfl⟩
      have b0 : w5.cell? ⟨w.heap.size, 0, none⟩ = some (.int .i64 v'.K) := by rw [hw5]; go_simp
      have b1 : w5.cell? ⟨w.heap.size, 1, none⟩ = some (.int .u64 v'.N) := by rw [hw5]; go_simp
      have b2 : w5.cell? ⟨w.heap.size, 2, none⟩ = some (.string v'.S) := by rw [hw5]; go_simp
      have b3 : w5.cell? ⟨w.heap.size, 3, none⟩ = some (.int .i64 v'.O) := by rw [hw5]; go_simp
      have hsz : w.heap.size < w5.heap.size := by rw [hw5]; simp; omega
      have HB : Hid (Below w.heap.size w w5) := by rw [hw5]; exact set41 HB1.out (Nat.le_refl _) _ _ _ _
      rw [← hw5]
      clear hw5 HB1 p0 p1 p2 p3 hf1 hsz1
      have hv5 := HV.out.below HB.out
      obtain ⟨a0, cap0, hR, hf0⟩ := hv5.form
      obtain ⟨g0, rfl, hg0, hc0⟩ := hf0 (by omega)
      have x := fun q hq => hc0 j _ HRJ.out q hq
      have c0 : w5.cell? ⟨db, 0, none⟩ = some (.slice (some ⟨g0, 0, none⟩) rs.length cap0) := by rw [← hR]; exact hv5.c0
      have x0 : w5.cell? ⟨g0, j * 10, none⟩ = some (.int .i64 rom.k) := x 0 (by omega)
      have x1 : w5.cell? ⟨g0, j * 10 + 1, none⟩ = some (.slice ka rom.ks.length kc) := x 1 (by omega)
      have x2 : w5.cell? ⟨g0, j * 10 + 2, none⟩ = some (.slice va rom.vs.length vc) := x 2 (by omega)
      have x3 : w5.cell? ⟨g0, j * 10 + 3, none⟩ = some (.int .i64 rom.M.K) := x 3 (by omega)
      have x4 : w5.cell? ⟨g0, j * 10 + 4, none⟩ = some (.int .u64 rom.M.N) := x 4 (by omega)
      have x5 : w5.cell? ⟨g0, j * 10 + 5, none⟩ = some (.string rom.M.S) := x 5 (by omega)
      have x6 : w5.cell? ⟨g0, j * 10 + 6, none⟩ = some (.int .i64 rom.M.O) := x 6 (by omega)
      have x7 : w5.cell? ⟨g0, j * 10 + 7, none⟩ = some (.int .i64 rom.a) := x 7 (by omega)
      have x8 : w5.cell? ⟨g0, j * 10 + 8, none⟩ = some (.int .i64 rom.b) := x 8 (by omega)
      have x9 : w5.cell? ⟨g0, j * 10 + 9, none⟩ = some (.slice sa rom.sl.length sc) := x 9 (by omega)
      have hlen : rs.length ≤ 1048576 := by have := usedR_len rs; have := HV.out.hu; have := HV.out.hl; omega
      clear hc0 hf0 hR hg0 x hv5
      go_cut [9] (fun t9 wx => t9 = .pointer (some ⟨w5.heap.size, 0, none⟩) ∧ Hid (Bo wx w5.heap.size (⟨rom, .slice ka rom.ks.length kc, .slice va rom.vs.length vc, .slice sa rom.sl.length sc⟩ : Rr) ∧ Below w5.heap.size w5 wx))
      case first =>
        go_wp2_with fail
        go_meet
        exact ⟨rfl, bo_lit w5 (⟨rom, .slice ka rom.ks.length kc, .slice va rom.vs.length vc, .slice sa rom.sl.length sc⟩ : Rr) #[.int .i64 rom.k, .slice ka rom.ks.length kc, .slice va rom.vs.length vc, .int .i64 rom.M.K, .int .u64 rom.M.N, .string rom.M.S, .int .i64 rom.M.O, .int .i64 rom.a, .int .i64 rom.b, .slice sa rom.sl.length sc] rfl, (Below.refl _ _).alloc (Nat.le_refl _) _⟩
      case rest =>
        obtain ⟨rfl, HX⟩ := hcut
        clear x0 x1 x2 x3 x4 x5 x6 x7 x8 x9 c0
        obtain ⟨w6, hw6⟩ : ∃ x, x = wc := ⟨_, rfl⟩
        subst hw6
        have HB6 : Hid (Below w.heap.size w w6) := HB.out.trans (HX.out.2.mono HB.out.size)
        have hs6 : w5.heap.size < w6.heap.size := HX.out.1.lt
        have y9 : w6.cell? ⟨w5.heap.size, 9, none⟩ = some (.slice sa rom.sl.length sc) := HX.out.1.c 9 (by omega)
        have yf : w6.frozen? ⟨w5.heap.size, 9, none⟩ = false := HX.out.1.f 9
        have hvs : Vr w6 (.slice sa rom.sl.length sc) rom.sl := ((HV.out.below HB6.out).ob j _ HRJ.out).s
        obtain ⟨a1, cap1, hva, hown1, hsrc1, hlow1⟩ := vp_ask hvs w.heap.size HB6.out.size
        simp only [Value.slice.injEq, true_and] at hva
        obtain ⟨e2, e3⟩ := hva
        subst e2
        subst e3
        have HOWN1 := hide_p hown1
        have HSRC1 := hide_p hsrc1
        have HLOW1 := hide_p hlow1
        obtain ⟨i1, hi1, hy0, hy1, hy2⟩ := valInfo
        clear hown1 hsrc1 hlow1 hvs
        obtain ⟨m, hm⟩ : ∃ m, m = rom.sl.length := ⟨_, rfl⟩
        have HM := hide_p hm
        rw [← hm] at HSRC1 HLOW1 y9 hslen hpl2
        clear hm
        go_wp2_with (at_builtin; refine wpList_append_src _ rfl _ _ 33 rfl w.heap.size 37 i1 _ 4 40 Tryz.underlying33 hi1 hy0 hy1 hy2 rfl (by decide) _ 0 [] rfl HOWN1.out _ m (vC rom.sl) rfl HSRC1.out (by unfold maxLen; omega) (by omega) (by have := HB6.out.size; simp; omega) ?_)
        intro a2 c2 w7 q1 q2 q3
        have low7 := HLOW1.out w7 a2 c2 q1 q2
        obtain ⟨g2, cap2, e2, hg2, hg2l⟩ := q1.form (by omega)
        simp only [Value.slice.injEq, true_and] at e2
        obtain ⟨e2, e3⟩ := e2
        subst e2
        subst e3
        have hg6 : w6.heap.size ≤ g2 := by
          rcases q3 with q | q
          · have e : g2 = w6.heap.size := by simpa [Value.ownBlock] using q
            omega
          · have e : g2 = w6.heap.size + 1 := by simpa [Value.ownBlock] using q
            omega
        have HVR : Hid (Vr w7 (.slice (some ⟨g2, 0, none⟩) m c2) rom.sl) := by
          show w7.ownsRow 0 37 4 _ _ _
          rw [← HM.out]
          exact ⟨q1.1, by
            rcases q1.2 with q | ⟨g, cap, cur, t1, _, t2⟩
            · exact Or.inl q
            · exact Or.inr ⟨g, cap, cur, t1, Nat.zero_le _, t2⟩⟩
        obtain ⟨x, hx⟩ : ∃ x, rom.sl[p]? = some x := ⟨rom.sl[p]'HPL.out, List.getElem?_eq_getElem HPL.out⟩
        have hfg : ∀ q, w7.frozen? ⟨g2, q, none⟩ = false := fun q => owns_free q1 q
        have hat := vr_at HVR.out hx
        have t0 := hat.c0
        have t1 := hat.c1
        have t2 := hat.c2
        have t3 := hat.c3
        have z9 : w7.cell? ⟨w5.heap.size, 9, none⟩ = some (.slice sa m sc) := (low7.cell hs6).trans y9
        have zf : w7.frozen? ⟨w5.heap.size, 9, none⟩ = false := (low7.frozen hs6).trans yf
        have hb6 : w.heap.size < w6.heap.size := by omega
        have d0 : w7.cell? ⟨w.heap.size, 0, none⟩ = some (.int .i64 v'.K) := (low7.cell hb6).trans ((HX.out.2.cell hsz).trans b0)
        have d1 : w7.cell? ⟨w.heap.size, 1, none⟩ = some (.int .u64 v'.N) := (low7.cell hb6).trans ((HX.out.2.cell hsz).trans b1)
        have d2 : w7.cell? ⟨w.heap.size, 2, none⟩ = some (.string v'.S) := (low7.cell hb6).trans ((HX.out.2.cell hsz).trans b2)
        have d3 : w7.cell? ⟨w.heap.size, 3, none⟩ = some (.int .i64 v'.O) := (low7.cell hb6).trans ((HX.out.2.cell hsz).trans b3)
        have hgx : g2 ≠ w5.heap.size := by omega
        have hgb : g2 ≠ w.heap.size := by omega
        have hxb : w5.heap.size ≠ w.heap.size := by omega
        have HL7 : Hid (Bo w7 w5.heap.size (⟨rom, .slice ka rom.ks.length kc, .slice va rom.vs.length vc, .slice sa rom.sl.length sc⟩ : Rr) ∧ Below w.heap.size w w7) := ⟨HX.out.1.below low7, HB6.out.trans (low7.mono HB6.out.size)⟩
        have HXX := hide_p hx
        have HG2 := hide_p hg2l
        clear q1 q2 q3 low7 hat hx HOWN1 HSRC1 HLOW1 y9 yf b0 b1 b2 b3 HX hg2l HB
        go_upto_region 7 with fail
        go_cut [9] (fun t9 wx => t9 = .pointer (some ⟨w5.heap.size, 0, none⟩) ∧ Hid (Bo wx w5.heap.size (⟨{ rom with sl := rom.sl.set p v' }, .slice ka rom.ks.length kc, .slice va rom.vs.length vc, .slice (some ⟨g2, 0, none⟩) rom.sl.length c2⟩ : Rr) ∧ Vr wx (.slice (some ⟨g2, 0, none⟩) rom.sl.length c2) (rom.sl.set p v') ∧ Below w.heap.size w wx ∧ g2 < wx.heap.size))
        case first =>
          go_wp2_with fail
          go_meet
          refine ⟨rfl, ?_, ?_, ?_, ?_⟩
          · have k1 := HL7.out.1.sets (r' := ⟨rom, .slice ka rom.ks.length kc, .slice va rom.vs.length vc, .slice (some ⟨g2, 0, none⟩) m c2⟩) [(9, .slice (some ⟨g2, 0, none⟩) m c2)] rfl
            have k2 := k1.wx (wx_stores (g := g2) (o := p * 4) [(0, .int .i64 v'.K), (1, .int .u64 v'.N), (2, .string v'.S), (3, .int .i64 v'.O)] _) (fun e => hgx e.symm)
            rw [← HM.out]
            exact k2
          · have k1 : Vr (w7.setCell ⟨w5.heap.size, 9, none⟩ (.slice (some ⟨g2, 0, none⟩) m c2)) (.slice (some ⟨g2, 0, none⟩) m c2) rom.sl := HVR.out.wx (Wx.set (X := fun k => k = w5.heap.size) w7 9 _ rfl) (fun g hg => by
              have e : g2 = g := by simpa [Value.ownBlock] using hg
              omega)
            unfold Vr at k1
            rw [← HM.out] at k1
            have k2 := owns_stores (o := p * 4) [(0, .int .i64 v'.K), (1, .int .u64 v'.N), (2, .string v'.S), (3, .int .i64 v'.O)] k1
            rw [vC_sets rom.sl p x v' _ HXX.out (by simp) rfl] at k2
            unfold Vr
            rw [List.length_set, ← HM.out]
            exact k2
          · refine HL7.out.2.trans (((Wx.set (X := fun k => k = w5.heap.size ∨ k = g2) (k := w5.heap.size) w7 9 (.slice (some ⟨g2, 0, none⟩) m c2) (Or.inl rfl)).trans (wx_stores (g := g2) (o := p * 4) [(0, .int .i64 v'.K), (1, .int .u64 v'.N), (2, .string v'.S), (3, .int .i64 v'.O)] _) (fun k hk => Or.inl (Or.inr hk))).below (fun k hk => by omega) HL7.out.2.size)
          · have hgl := HG2.out
            simp
            exact hgl
        case rest =>
          obtain ⟨rfl, HY⟩ := hcut
          clear z9 zf d0 d1 d2 d3 t0 t1 t2 t3 hfg HVR HL7
          obtain ⟨w8, hw8⟩ : ∃ x, x = wc := ⟨_, rfl⟩
          subst hw8
          have hs8 : w5.heap.size < w8.heap.size := HY.out.1.lt
          obtain ⟨i0, hi0, hz0, hz1, hz2⟩ := objInfo
          obtain ⟨a0, cap, hR, _, a0c, hown, hsrc, hcp⟩ := cp_ask2 HV.out HY.out.2.2.1
          have HOWN := hide_p hown
          have HSRC := hide_p hsrc
          have HCP := hide_p hcp
          have hdb : db < w.heap.size := HV.out.lt db HV.out.qd
          have hdb8 : db < w8.heap.size := by have := HY.out.2.2.1.size; omega
          have hfd : w8.frozen? ⟨db, 0, none⟩ = false := (HY.out.2.2.1.frozen hdb).trans (HV.out.free 0)
          clear hown hsrc hcp hR
          obtain ⟨n, hn⟩ : ∃ n, n = rs.length := ⟨_, rfl⟩
          have HNN := hide_p hn
          rw [← hn] at HSRC HCP a0c hlen hjl2
          clear hn
          go_wp2_with (at_builtin; refine wpList_append_src _ rfl _ _ 29 rfl w.heap.size 39 i0 _ 10 136 Tryz.underlying29 hi0 hz0 hz1 hz2 rfl (by decide) _ 0 [] rfl HOWN.out _ n (rC rs) rfl HSRC.out (by unfold maxLen; omega) (by omega) (by have := HY.out.2.2.1.size; simp; omega) ?_)
          intro a3 c3 w9 q1 q2 q3
          obtain ⟨k9, low9⟩ := HCP.out w9 a3 c3 q1 q2
          obtain ⟨g, rfl, hg1, hg2, hgf, hgc⟩ := cpd_g k9 (by omega)
          have hg8 : w8.heap.size ≤ g := by
            rcases q3 with q | q
            · have e : g = w8.heap.size := by simpa [Value.ownBlock] using q
              omega
            · have e : g = w8.heap.size + 1 := by simpa [Value.ownBlock] using q
              omega
          have y := fun q hq => hgc j _ HRJ.out q hq
          have m0 : w9.cell? ⟨g, j * 10, none⟩ = some (.int .i64 rom.k) := y 0 (by omega)
          have m1 : w9.cell? ⟨g, j * 10 + 1, none⟩ = some (.slice ka rom.ks.length kc) := y 1 (by omega)
          have m2 : w9.cell? ⟨g, j * 10 + 2, none⟩ = some (.slice va rom.vs.length vc) := y 2 (by omega)
          have m3 : w9.cell? ⟨g, j * 10 + 3, none⟩ = some (.int .i64 rom.M.K) := y 3 (by omega)
          have m4 : w9.cell? ⟨g, j * 10 + 4, none⟩ = some (.int .u64 rom.M.N) := y 4 (by omega)
          have m5 : w9.cell? ⟨g, j * 10 + 5, none⟩ = some (.string rom.M.S) := y 5 (by omega)
          have m6 : w9.cell? ⟨g, j * 10 + 6, none⟩ = some (.int .i64 rom.M.O) := y 6 (by omega)
          have m7 : w9.cell? ⟨g, j * 10 + 7, none⟩ = some (.int .i64 rom.a) := y 7 (by omega)
          have m8 : w9.cell? ⟨g, j * 10 + 8, none⟩ = some (.int .i64 rom.b) := y 8 (by omega)
          have m9 : ∃ u, w9.cell? ⟨g, j * 10 + 9, none⟩ = some u := ⟨_, y 9 (by omega)⟩
          obtain ⟨u9, m9⟩ := m9
          have bo := HY.out.1.below low9
          have n0 : w9.cell? ⟨w5.heap.size, 0, none⟩ = some (.int .i64 rom.k) := bo.c 0 (by omega)
          have n1 : w9.cell? ⟨w5.heap.size, 1, none⟩ = some (.slice ka rom.ks.length kc) := bo.c 1 (by omega)
          have n2 : w9.cell? ⟨w5.heap.size, 2, none⟩ = some (.slice va rom.vs.length vc) := bo.c 2 (by omega)
          have n3 : w9.cell? ⟨w5.heap.size, 3, none⟩ = some (.int .i64 rom.M.K) := bo.c 3 (by omega)
          have n4 : w9.cell? ⟨w5.heap.size, 4, none⟩ = some (.int .u64 rom.M.N) := bo.c 4 (by omega)
          have n5 : w9.cell? ⟨w5.heap.size, 5, none⟩ = some (.string rom.M.S) := bo.c 5 (by omega)
          have n6 : w9.cell? ⟨w5.heap.size, 6, none⟩ = some (.int .i64 rom.M.O) := bo.c 6 (by omega)
          have n7 : w9.cell? ⟨w5.heap.size, 7, none⟩ = some (.int .i64 rom.a) := bo.c 7 (by omega)
          have n8 : w9.cell? ⟨w5.heap.size, 8, none⟩ = some (.int .i64 rom.b) := bo.c 8 (by omega)
          have n9 : w9.cell? ⟨w5.heap.size, 9, none⟩ = some (.slice (some ⟨g2, 0, none⟩) rom.sl.length c2) := bo.c 9 (by omega)
          have mdb : w9.cell? ⟨db, 0, none⟩ = some (.slice a0 n cap) := (low9.cell hdb8).trans a0c
          have mfd : w9.frozen? ⟨db, 0, none⟩ = false := (low9.frozen hdb8).trans hfd
          have hgd : g ≠ db := by omega
          have hgx2 : g ≠ w5.heap.size := by omega
          have hdx : db ≠ w5.heap.size := by omega
          have HRP : Hid (∀ w4 : World, w4.heap = (((((((((((w9.setCell ⟨db, 0, none⟩ (.slice (some ⟨g, 0, none⟩) n c3)).setCell ⟨g, j * 10, none⟩ (.int .i64 rom.k)).setCell ⟨g, j * 10 + 1, none⟩ (.slice ka rom.ks.length kc)).setCell ⟨g, j * 10 + 2, none⟩ (.slice va rom.vs.length vc)).setCell ⟨g, j * 10 + 3, none⟩ (.int .i64 rom.M.K)).setCell ⟨g, j * 10 + 4, none⟩ (.int .u64 rom.M.N)).setCell ⟨g, j * 10 + 5, none⟩ (.string rom.M.S)).setCell ⟨g, j * 10 + 6, none⟩ (.int .i64 rom.M.O)).setCell ⟨g, j * 10 + 7, none⟩ (.int .i64 rom.a)).setCell ⟨g, j * 10 + 8, none⟩ (.int .i64 rom.b)).setCell ⟨g, j * 10 + 9, none⟩ (.slice (some ⟨g2, 0, none⟩) rom.sl.length c2)).heap → w4.os = w9.os → w4.tape = w9.tape → w4.output = w9.output → RP w db lim ((rs.map Rr.om).set j { rom with sl := rom.sl.set p v' }) Q w4) := fun w4 e1 e2 e3 e4 => by
            have hlow : Below w.heap.size w w9 := k9.low
            obtain ⟨ho1, ho2⟩ := HV.out.old hlow HRJ.out
            refine Sld.lay (w1 := w8) (r' := (⟨{ rom with sl := rom.sl.set p v' }, .slice ka rom.ks.length kc, .slice va rom.vs.length vc, .slice (some ⟨g2, 0, none⟩) rom.sl.length c2⟩ : Rr)) HV.out HRJ.out ?_ ?_ k9 hg8 ?_ (by rw [← HNN.out]; exact e1) e2 e3 e4
            · have h1 : ((⟨{ rom with sl := rom.sl.set p v' }, .slice ka rom.ks.length kc, .slice va rom.vs.length vc, .slice (some ⟨g2, 0, none⟩) rom.sl.length c2⟩ : Rr)).om.wt = ((⟨rom, .slice ka rom.ks.length kc, .slice va rom.vs.length vc, .slice sa rom.sl.length sc⟩ : Rr)).om.wt := by simp [Om.wt]
              have := HV.out.hu
              omega
            · refine ⟨ho1.k, ho1.v, ?_, fun y hy => ?_, ho1.len⟩
              · have k1 := HY.out.2.1
                have k2 : Vr w9 (.slice (some ⟨g2, 0, none⟩) rom.sl.length c2) (rom.sl.set p v') := k1.wx (Wx.of_below (fun _ => False) low9) (fun _ _ c => c)
                exact k2
              · rcases hy with hy | hy | hy
                · exact ho1.own y (Or.inl hy)
                · exact ho1.own y (Or.inr (Or.inl hy))
                · have e : g2 = y := by simpa [Value.ownBlock] using hy
                  have := low9.size
                  have := HY.out.2.2.2
                  exact Or.inr ⟨by omega, by omega⟩
            · intro y hy
              rcases hy with hy | hy | hy
              · have := ho2 y (Or.inl hy); have := HY.out.2.2.1.size; omega
              · have := ho2 y (Or.inr (Or.inl hy)); have := HY.out.2.2.1.size; omega
              · have e : g2 = y := by simpa [Value.ownBlock] using hy
                have := HY.out.2.2.2
                omega
          clear q1 q2 q3 k9 low9 hgc y bo HOWN HSRC HCP a0c hfd HY HM
          go_wp2_with fail
          go_region
          all_goals go_wp2
          all_goals go_ret
          all_goals refine ⟨rfl, HRP.out _ (heap_drewd _) ?_ ?_ ?_⟩
          all_goals simp only [os_setc, tape_setc, output_setc, os_drewc, tape_drewc, output_drewc]

end Go.Proofs.YthmocdabakkfhaaGreatDoor
