/-
  HpRnext
-/
import Derived.Test.YthmocdabakkfhaaGreatDoorZ30

/-
  Layer 9: the reference's Next.
-/
namespace Go.Proofs.YthmocdabakkfhaaGreatDoor
set_option maxRecDepth 100000
open Go.RowKit Flo

/-- What the reference's Next makes first: the key, three zero values. -/
structure N4 (w wx : World) (k : V4) : Prop where
  n3 : N3 w wx k
  z0 : wx.cell? ⟨w.heap.size + 1 + 1 + 1, 0, none⟩ = some (.int .i64 0)
  z1 : wx.cell? ⟨w.heap.size + 1 + 1 + 1, 1, none⟩ = some (.int .u64 0)
  z2 : wx.cell? ⟨w.heap.size + 1 + 1 + 1, 2, none⟩ = some (.string ⟨#[]⟩)
  z3 : wx.cell? ⟨w.heap.size + 1 + 1 + 1, 3, none⟩ = some (.int .i64 0)
  sz : w.heap.size + 4 ≤ wx.heap.size
theorem N4.below {w wx wy : World} {k : V4} (h : N4 w wx k) (hb : Below wx.heap.size wx wy) : N4 w wy k := by
  obtain ⟨a0, a1, a2, a3⟩ := keep4 ⟨h.z0, h.z1, h.z2, h.z3⟩ hb
  exact ⟨h.n3.below hb, a0, a1, a2, a3, Nat.le_trans h.sz hb.size⟩
theorem n4_first (w : World) (k : V4) : N4 w ((((w.alloc (.cells #[.int .i64 k.K, .int .u64 k.N, .string k.S, .int .i64 k.O] 37)).alloc (.cells #[.int .i64 0, .int .u64 0, .string ⟨#[]⟩, .int .i64 0] 37)).alloc (.cells #[.int .i64 0, .int .u64 0, .string ⟨#[]⟩, .int .i64 0] 37)).alloc (.cells #[.int .i64 0, .int .u64 0, .string ⟨#[]⟩, .int .i64 0] 37)) k := by
  refine ⟨⟨?_, ?_, ?_, ?_, ?_, ?_, ?_, ?_, ?_, ?_, ?_, ?_, fun q => ?_, fun q => ?_, fun q => ?_, ?_, ((((Below.refl _ _).alloc (Nat.le_refl _) _).alloc (by simp) _).alloc (by simp; omega) _).alloc (by simp; omega) _⟩, ?_, ?_, ?_, ?_, ?_⟩
  all_goals first
    | go_simp
    | (simp; done)
    | (simp; omega)

theorem rnext_cases (rs : List Rr) (o : Int) (k : V4) : (rTab rs o = none → nextM (rs.map Rr.om) o k = (V0, V0, 5)) ∧
    ∀ r, rTab rs o = some r → (nK k.K = 0 → nextM (rs.map Rr.om) o k = ((r.om.ks[0]?).getD V0, (r.om.vs[0]?).getD V0, 0)) ∧ (¬ nK k.K = 0 → (kok k.K k.N = false → nextM (rs.map Rr.om) o k = (V0, V0, 5)) ∧
      (kok k.K k.N = true → (placeM r.om.ks (keyV k) = none → nextM (rs.map Rr.om) o k = (V0, V0, 5)) ∧ ∀ j, placeM r.om.ks (keyV k) = some j → nextM (rs.map Rr.om) o k = ((r.om.ks[j + 1]?).getD V0, (r.om.vs[j + 1]?).getD V0, 0))) := by
  unfold nextM
  rw [tabM_rs]
  refine ⟨fun e => by rw [e]; rfl, fun r e => ?_⟩
  rw [e]
  simp only [Option.map_some]
  refine ⟨fun c => by rw [if_pos c], fun c => ?_⟩
  rw [if_neg c]
  refine ⟨fun d => by rw [d]; rfl, fun d => ?_⟩
  rw [if_pos d]
  exact ⟨fun p => by rw [p], fun j p => by rw [p]⟩

set_option maxHeartbeats 4000000 in
theorem rnext_any {w : World} {db lim : Nat} {R : Value} {rs : List Rr} {Q : Nat → Prop} (h : Rv w db lim R rs Q) (o : Int) (k : V4) (hN : U64 k.N) :
    Calls Tryz.prog 37 #[.pointer (some ⟨db, 0, none⟩), .int .i64 o, .agg #[.int .i64 k.K, .int .u64 k.N, .string k.S, .int .i64 k.O]] w fun e w' => e = .returned (.tuple #[.agg #[.int .i64 (nextM (rs.map Rr.om) o k).1.K, .int .u64 (nextM (rs.map Rr.om) o k).1.N, .string (nextM (rs.map Rr.om) o k).1.S, .int .i64 (nextM (rs.map Rr.om) o k).1.O], .agg #[.int .i64 (nextM (rs.map Rr.om) o k).2.1.K, .int .u64 (nextM (rs.map Rr.om) o k).2.1.N, .string (nextM (rs.map Rr.om) o k).2.1.S, .int .i64 (nextM (rs.map Rr.om) o k).2.1.O], .int .i64 (nextM (rs.map Rr.om) o k).2.2]) ∧ Below w.heap.size w w' := by
  have HN4 : Hid _ := n4_first w k
  obtain ⟨w1, hw1⟩ : ∃ w1, w1 = ((((w.alloc (.cells #[.int .i64 k.K, .int .u64 k.N, .string k.S, .int .i64 k.O] 37)).alloc (.cells #[.int .i64 0, .int .u64 0, .string ⟨#[]⟩, .int .i64 0] 37)).alloc (.cells #[.int .i64 0, .int .u64 0, .string ⟨#[]⟩, .int .i64 0] 37)).alloc (.cells #[.int .i64 0, .int .u64 0, .string ⟨#[]⟩, .int .i64 0] 37)) := ⟨_, rfl⟩
  rw [← hw1] at HN4
  have HV := hide_p h
  have HH := hide_p (rhas_any (HV.out.below HN4.out.n3.hb) o)
  have HC := hide_p (rnext_cases rs o k)
  generalize nextM (rs.map Rr.om) o k = RES at *
  have HNo : Hid (∀ w, Calls Tryz.prog 63 #[.agg #[.int .i64 k.K, .int .u64 k.N, .string k.S, .int .i64 k.O]] w fun e w' => e = .returned (.agg #[.int .i64 (nK k.K), .int .u64 (nN k.K k.N), .string (nS k.K k.S), .int .i64 (nO k.K k.O)]) ∧ Below w.heap.size w w') := fun w => refNormal_any k.K k.N k.S k.O w hN
  have HK : Hid (∀ w, Calls Tryz.prog 62 #[.agg #[.int .i64 k.K, .int .u64 k.N, .string k.S, .int .i64 k.O]] w fun e w' => e = .returned (.tuple #[.agg #[.int .i64 (keyV k).K, .int .u64 (keyV k).N, .string (keyV k).S, .int .i64 (keyV k).O], .bool (kok k.K k.N)]) ∧ Below w.heap.size w w') := fun w => refKey_any k.K k.N k.S k.O w hN
  cases ht : rTab rs o with
  | none =>
    have HR := hide_p (HC.out.1 ht)
    rw [show (rTab rs o).isSome = false by rw [ht]; rfl] at HH
    clear h HC ht HNo HK
    go_enter Tryz.func37, Tryz.ntmps37
    go_upto_region 2 with fail
    rw [← hw1]
    clear hw1
    obtain ⟨⟨k0, k1, k2, k3, a0, a1, a2, a3, b0, b1, b2, b3, fk, fa, fb, hsz, -⟩, z0, z1, z2, z3, hsz4⟩ := HN4.out
    go_wp2_with fail
    refine HH.out.mono ?_
    rintro e w6 ⟨rfl, hw6⟩
    have hw6s := hw6.symm
    subst hw6s
    clear HH
    clear k0 k1 k2 k3 a0 a1 a2 a3 b0 b1 b2 b3 fk fa fb hsz z0 z1 z2 z3 hsz4
    obtain ⟨⟨k0, k1, k2, k3, a0, a1, a2, a3, b0, b1, b2, b3, fk, fa, fb, hsz, -⟩, z0, z1, z2, z3, hsz4⟩ := HN4.out
    go_wp2_with fail
    go_region
    all_goals
      go_wp2
      rw [HR.out]
      exact bodyPost_ret (v := .tuple #[.agg #[.int .i64 0, .int .u64 0, .string ⟨#[]⟩, .int .i64 0], .agg #[.int .i64 0, .int .u64 0, .string ⟨#[]⟩, .int .i64 0], .int .i64 5]) (by simp [results, Tryz.results37, go_sem, a0, a1, a2, a3, b0, b1, b2, b3]) rfl ⟨rfl, by repeat' (first | with_reducible exact HN4.out.n3.hb | with_reducible apply Below.drew | with_reducible refine Below.setCell ?_ ?_ _ | omega | (simp; omega) | (simp; done))⟩
  | some r =>
    replace HC := hide_p (HC.out.2 r ht)
    rw [show (rTab rs o).isSome = true by rw [ht]; rfl] at HH
    obtain ⟨hra, hrk⟩ := rTab_some ht
    obtain ⟨j, ho, hoj, hjl, hrj⟩ := rAt_some hra
    have HRJ := hide_p hrj
    obtain ⟨ka, kc, hkv, hkf0⟩ := (h.ob j r hrj).k.form
    obtain ⟨va, vc, hvv, hvf0⟩ := (h.ob j r hrj).v.form
    obtain ⟨sa, sc, hsv, _⟩ := (h.ob j r hrj).s.form
    have hkl : r.om.ks.length ≤ 1048576 := by have := usedR_ge rs j r hrj; have := h.hu; have := h.hl; have hw : r.om.wt = 1 + r.om.ks.length + r.om.sl.length := rfl; omega
    have hvl : Hid (r.om.vs.length = r.om.ks.length) := (h.ob j r hrj).len
    have hjl2 : (j : Int) < (rs.length : Int) := by omega
    have hlen : rs.length ≤ 1048576 := by have := usedR_len rs; have := h.hu; have := h.hl; omega
    have HG : Hid ((∀ g, ka = some ⟨g, 0, none⟩ → g < w.heap.size) ∧ ∀ g, va = some ⟨g, 0, none⟩ → g < w.heap.size) := by
      refine ⟨fun g e => (World.ownsRow.lt (h.ob j r hrj).k g ?_).2, fun g e => (World.ownsRow.lt (h.ob j r hrj).v g ?_).2⟩
      · rw [hkv, e]; rfl
      · rw [hvv, e]; rfl
    clear ht hra hrk hoj hrj hkf0 hvf0
    obtain ⟨rom, kv, vv, sv⟩ := r
    simp only at hkv hvv hsv hkl hvl HC
    subst hkv
    subst hvv
    subst hsv
    subst ho
    have e1 : (j : Int) + 1 - 1 = (j : Int) := by omega
    obtain ⟨a0', cap0, hR, hf0⟩ := (h.below HN4.out.n3.hb).form
    obtain ⟨g0, rfl, hg0, hc0⟩ := hf0 (by omega)
    have x := fun q hq => hc0 j _ HRJ.out q hq
    have c0 : w1.cell? ⟨db, 0, none⟩ = some (.slice (some ⟨g0, 0, none⟩) rs.length cap0) := by rw [← hR]; exact (h.below HN4.out.n3.hb).c0
    have x0 : w1.cell? ⟨g0, j * 10, none⟩ = some (.int .i64 rom.k) := x 0 (by omega)
    have x1 : w1.cell? ⟨g0, j * 10 + 1, none⟩ = some (.slice ka rom.ks.length kc) := x 1 (by omega)
    have x2 : w1.cell? ⟨g0, j * 10 + 2, none⟩ = some (.slice va rom.vs.length vc) := x 2 (by omega)
    have x3 : w1.cell? ⟨g0, j * 10 + 3, none⟩ = some (.int .i64 rom.M.K) := x 3 (by omega)
    have x4 : w1.cell? ⟨g0, j * 10 + 4, none⟩ = some (.int .u64 rom.M.N) := x 4 (by omega)
    have x5 : w1.cell? ⟨g0, j * 10 + 5, none⟩ = some (.string rom.M.S) := x 5 (by omega)
    have x6 : w1.cell? ⟨g0, j * 10 + 6, none⟩ = some (.int .i64 rom.M.O) := x 6 (by omega)
    have x7 : w1.cell? ⟨g0, j * 10 + 7, none⟩ = some (.int .i64 rom.a) := x 7 (by omega)
    have x8 : w1.cell? ⟨g0, j * 10 + 8, none⟩ = some (.int .i64 rom.b) := x 8 (by omega)
    have x9 : w1.cell? ⟨g0, j * 10 + 9, none⟩ = some (.slice sa rom.sl.length sc) := x 9 (by omega)
    clear hc0 hf0 hR hg0 x h
    go_enter Tryz.func37, Tryz.ntmps37
    go_upto_region 2 with fail
    rw [← hw1]
    clear hw1
    obtain ⟨⟨k0, k1, k2, k3, a0, a1, a2, a3, b0, b1, b2, b3, fk, fa, fb, hsz, -⟩, z0, z1, z2, z3, hsz4⟩ := HN4.out
    go_wp2_with fail
    refine HH.out.mono ?_
    rintro e w6 ⟨rfl, hw6⟩
    have hw6s := hw6.symm
    subst hw6s
    clear HH
    go_upto_region 4 with fail
    go_cut [10, 11] (fun t10 t11 wx => t10 = .pointer (some ⟨w1.heap.size, 0, none⟩) ∧ t11 = .int .i64 (-1) ∧ Hid (Bo wx w1.heap.size (⟨rom, .slice ka rom.ks.length kc, .slice va rom.vs.length vc, .slice sa rom.sl.length sc⟩ : Rr) ∧ N4 w wx k))
    case first =>
      go_wp2_with fail
      go_meet
      exact ⟨rfl, rfl, bo_lit w1 (⟨rom, .slice ka rom.ks.length kc, .slice va rom.vs.length vc, .slice sa rom.sl.length sc⟩ : Rr) #[.int .i64 rom.k, .slice ka rom.ks.length kc, .slice va rom.vs.length vc, .int .i64 rom.M.K, .int .u64 rom.M.N, .string rom.M.S, .int .i64 rom.M.O, .int .i64 rom.a, .int .i64 rom.b, .slice sa rom.sl.length sc] rfl, HN4.out.below ((Below.refl _ _).alloc (Nat.le_refl _) _)⟩
    case rest =>
      obtain ⟨rfl, rfl, HX⟩ := hcut
      clear x0 x1 x2 x3 x4 x5 x6 x7 x8 x9 c0
      clear k0 k1 k2 k3 a0 a1 a2 a3 b0 b1 b2 b3 fk fa fb hsz z0 z1 z2 z3 hsz4
      obtain ⟨w2, hw2⟩ : ∃ x, x = wc := ⟨_, rfl⟩
      subst hw2
      have hx1 := HN4.out.sz
      replace HN4 := hide_p HX.out.2
      obtain ⟨xb, hxb⟩ : ∃ b, b = w1.heap.size := ⟨_, rfl⟩
      rw [← hxb] at HX hx1 ⊢
      have HBX := hide_p HX.out.1
      clear hxb HX
      by_cases c0 : nK k.K = 0
      · have HR := hide_p (HC.out.1 c0)
        rw [c0] at HNo
        have hfd := fieldK 0 (nN k.K k.N) (nO k.K k.O) (nS k.K k.S)
        clear HC HK c0
        obtain ⟨⟨k0, k1, k2, k3, a0, a1, a2, a3, b0, b1, b2, b3, fk, fa, fb, hsz, -⟩, z0, z1, z2, z3, hsz4⟩ := HN4.out
        go_wp2_with fail
        refine (HNo.out _).mono ?_
        rintro e w3 ⟨rfl, hb3⟩
        clear k0 k1 k2 k3 a0 a1 a2 a3 b0 b1 b2 b3 fk fa fb hsz z0 z1 z2 z3 hsz4
        replace HN4 := hide_p (HN4.out.below hb3)
        replace HBX := hide_p (HBX.out.below hb3)
        clear HNo hb3
        have hvr := ((HV.out.below HN4.out.n3.hb).ob j _ HRJ.out).v
        have hkr := ((HV.out.below HN4.out.n3.hb).ob j _ HRJ.out).k
        have n1 : w3.cell? ⟨xb, 1, none⟩ = some (.slice ka rom.ks.length kc) := HBX.out.c 1 (by omega)
        have n2 : w3.cell? ⟨xb, 2, none⟩ = some (.slice va rom.vs.length vc) := HBX.out.c 2 (by omega)
        by_cases cp : 0 < rom.ks.length
        · obtain ⟨y, hy⟩ : ∃ y, rom.ks[0]? = some y := ⟨rom.ks[0], List.getElem?_eq_getElem cp⟩
          have cpv : 0 < rom.vs.length := by have := hvl.out; omega
          obtain ⟨v, hv⟩ : ∃ v, rom.vs[0]? = some v := ⟨rom.vs[0], List.getElem?_eq_getElem cpv⟩
          rw [hy, hv] at HR
          obtain ⟨_, _, ev, hvf⟩ := hvr.form
          simp only [Value.slice.injEq, true_and] at ev
          obtain ⟨ev1, ev2⟩ := ev
          obtain ⟨g2, eg, hg2, hat⟩ := hvf (show 0 < rom.vs.length by omega)
          rw [← ev1] at eg
          subst eg
          obtain ⟨_, _, ek, hkf⟩ := hkr.form
          simp only [Value.slice.injEq, true_and] at ek
          obtain ⟨ek1, ek2⟩ := ek
          obtain ⟨g1, eg1, hg1, hkat⟩ := hkf (show 0 < rom.ks.length by omega)
          rw [← ek1] at eg1
          subst eg1
          obtain ⟨y0, y1, y2, y3⟩ := hkat 0 y hy
          obtain ⟨v0, v1, v2, v3⟩ := hat 0 v hv
          have hne : ¬ rom.ks = [] := fun e => by rw [e] at cp; exact absurd cp (by decide)
          simp only [Nat.zero_mul, Nat.zero_add] at y0 y1 y2 y3 v0 v1 v2 v3
          have hl1 : g1 < w.heap.size := HG.out.1 g1 rfl
          have hl2 : g2 < w.heap.size := HG.out.2 g2 rfl
          have ne1 : ¬ g1 = w.heap.size + 1 := by omega
          have ne2 : ¬ g1 = w.heap.size + 1 + 1 := by omega
          have ne3 : ¬ g2 = w.heap.size + 1 := by omega
          have ne4 : ¬ g2 = w.heap.size + 1 + 1 := by omega
          have cpi : (0 : Int) < (rom.ks.length : Int) := by omega
          have cpj : (0 : Int) < (rom.vs.length : Int) := by omega
          have cpl : rom.vs.length ≤ 1048576 := by have := hvl.out; omega
          have cp0 : (0 : Int) ≤ (0 : Int) := by omega
          have hxn1 : ¬ xb = w.heap.size + 1 := by omega
          have hxn2 : ¬ xb = w.heap.size + 1 + 1 := by omega
          clear hvr hkr hvf hat hkf hkat hy hv ev1 ev2 ek1 ek2
          obtain ⟨⟨k0, k1, k2, k3, a0, a1, a2, a3, b0, b1, b2, b3, fk, fa, fb, hsz, -⟩, z0, z1, z2, z3, hsz4⟩ := HN4.out
          go_wp2_with fail
          go_region
          all_goals
            go_wp2
            rw [HR.out]
            exact bodyPost_ret (v := .tuple #[.agg #[.int .i64 y.K, .int .u64 y.N, .string y.S, .int .i64 y.O], .agg #[.int .i64 v.K, .int .u64 v.N, .string v.S, .int .i64 v.O], .int .i64 0]) (by simp [results, Tryz.results37, go_sem, a0, a1, a2, a3, b0, b1, b2, b3]) rfl ⟨rfl, by repeat' (first | with_reducible exact HN4.out.n3.hb | with_reducible apply Below.drew | with_reducible refine Below.setCell ?_ ?_ _ | omega | (simp; omega) | (simp; done))⟩
        · rw [List.getElem?_eq_none (by omega), List.getElem?_eq_none (by have := hvl.out; omega)] at HR
          have cpi : ¬ (0 : Int) < (rom.ks.length : Int) := by omega
          have hne : rom.ks = [] := List.length_eq_zero_iff.1 (by omega)
          have cpg : (rom.ks.length : Int) ≤ (0 : Int) := by omega
          clear hvr hkr
          obtain ⟨⟨k0, k1, k2, k3, a0, a1, a2, a3, b0, b1, b2, b3, fk, fa, fb, hsz, -⟩, z0, z1, z2, z3, hsz4⟩ := HN4.out
          go_wp2_with fail
          go_region
          all_goals
            go_wp2
            rw [HR.out]
            exact bodyPost_ret (v := .tuple #[.agg #[.int .i64 0, .int .u64 0, .string ⟨#[]⟩, .int .i64 0], .agg #[.int .i64 0, .int .u64 0, .string ⟨#[]⟩, .int .i64 0], .int .i64 0]) (by simp [results, Tryz.results37, go_sem, a0, a1, a2, a3, b0, b1, b2, b3]) rfl ⟨rfl, by repeat' (first | with_reducible exact HN4.out.n3.hb | with_reducible apply Below.drew | with_reducible refine Below.setCell ?_ ?_ _ | omega | (simp; omega) | (simp; done))⟩
      · replace HC := hide_p (HC.out.2 c0)
        have HP : Hid (∀ w', Below w.heap.size w w' → Calls Tryz.prog 64 #[(⟨rom, .slice ka rom.ks.length kc, .slice va rom.vs.length vc, .slice sa rom.sl.length sc⟩ : Rr).val, .agg #[.int .i64 (keyV k).K, .int .u64 (keyV k).N, .string (keyV k).S, .int .i64 (keyV k).O]] w' fun e w2 => e = .returned (.int .i64 (plN (placeM rom.ks (keyV k)))) ∧ Below w'.heap.size w' w2) := fun w' hb => place_any (⟨rom, .slice ka rom.ks.length kc, .slice va rom.vs.length vc, .slice sa rom.sl.length sc⟩ : Rr) (keyV k) w' ((HV.out.below hb).ob j _ HRJ.out).k ⟨_, _, _, rfl⟩ ⟨_, _, _, rfl⟩ hkl
        generalize keyV k = kk at *
        generalize nK k.K = NK at *
        have hfd := fieldK NK (nN k.K k.N) (nO k.K k.O) (nS k.K k.S)
        obtain ⟨⟨k0, k1, k2, k3, a0, a1, a2, a3, b0, b1, b2, b3, fk, fa, fb, hsz, -⟩, z0, z1, z2, z3, hsz4⟩ := HN4.out
        go_wp2_with fail
        refine (HNo.out _).mono ?_
        rintro e w3 ⟨rfl, hb3⟩
        clear k0 k1 k2 k3 a0 a1 a2 a3 b0 b1 b2 b3 fk fa fb hsz z0 z1 z2 z3 hsz4
        replace HN4 := hide_p (HN4.out.below hb3)
        replace HBX := hide_p (HBX.out.below hb3)
        clear HNo hb3
        obtain ⟨⟨k0, k1, k2, k3, a0, a1, a2, a3, b0, b1, b2, b3, fk, fa, fb, hsz, -⟩, z0, z1, z2, z3, hsz4⟩ := HN4.out
        go_wp2_with fail
        refine (HK.out _).mono ?_
        rintro e w4 ⟨rfl, hb4⟩
        clear k0 k1 k2 k3 a0 a1 a2 a3 b0 b1 b2 b3 fk fa fb hsz z0 z1 z2 z3 hsz4
        replace HN4 := hide_p (HN4.out.below hb4)
        replace HBX := hide_p (HBX.out.below hb4)
        clear HK hb4 hfd c0
        have hx4 := HBX.out.lt
        have hb5 := hide_p ((Below.refl w4.heap.size w4).alloc (Nat.le_refl _) (.cells #[.int .i64 kk.K, .int .u64 kk.N, .string kk.S, .int .i64 kk.O] 37))
        have HP5 := hide_p (HP.out _ (HN4.out.n3.hb.trans (hb5.out.mono HN4.out.n3.hb.size)))
        replace HN4 := hide_p (HN4.out.below hb5.out)
        replace HBX := hide_p (HBX.out.below hb5.out)
        obtain ⟨⟨k0, k1, k2, k3, a0, a1, a2, a3, b0, b1, b2, b3, fk, fa, fb, hsz, -⟩, z0, z1, z2, z3, hsz4⟩ := HN4.out
        have n0 : (w4.alloc (.cells #[.int .i64 kk.K, .int .u64 kk.N, .string kk.S, .int .i64 kk.O] 37)).cell? ⟨xb, 0, none⟩ = some (.int .i64 rom.k) := HBX.out.c 0 (by omega)
        have n1 : (w4.alloc (.cells #[.int .i64 kk.K, .int .u64 kk.N, .string kk.S, .int .i64 kk.O] 37)).cell? ⟨xb, 1, none⟩ = some (.slice ka rom.ks.length kc) := HBX.out.c 1 (by omega)
        have n2 : (w4.alloc (.cells #[.int .i64 kk.K, .int .u64 kk.N, .string kk.S, .int .i64 kk.O] 37)).cell? ⟨xb, 2, none⟩ = some (.slice va rom.vs.length vc) := HBX.out.c 2 (by omega)
        have n3 : (w4.alloc (.cells #[.int .i64 kk.K, .int .u64 kk.N, .string kk.S, .int .i64 kk.O] 37)).cell? ⟨xb, 3, none⟩ = some (.int .i64 rom.M.K) := HBX.out.c 3 (by omega)
        have n4 : (w4.alloc (.cells #[.int .i64 kk.K, .int .u64 kk.N, .string kk.S, .int .i64 kk.O] 37)).cell? ⟨xb, 4, none⟩ = some (.int .u64 rom.M.N) := HBX.out.c 4 (by omega)
        have n5 : (w4.alloc (.cells #[.int .i64 kk.K, .int .u64 kk.N, .string kk.S, .int .i64 kk.O] 37)).cell? ⟨xb, 5, none⟩ = some (.string rom.M.S) := HBX.out.c 5 (by omega)
        have n6 : (w4.alloc (.cells #[.int .i64 kk.K, .int .u64 kk.N, .string kk.S, .int .i64 kk.O] 37)).cell? ⟨xb, 6, none⟩ = some (.int .i64 rom.M.O) := HBX.out.c 6 (by omega)
        have n7 : (w4.alloc (.cells #[.int .i64 kk.K, .int .u64 kk.N, .string kk.S, .int .i64 kk.O] 37)).cell? ⟨xb, 7, none⟩ = some (.int .i64 rom.a) := HBX.out.c 7 (by omega)
        have n8 : (w4.alloc (.cells #[.int .i64 kk.K, .int .u64 kk.N, .string kk.S, .int .i64 kk.O] 37)).cell? ⟨xb, 8, none⟩ = some (.int .i64 rom.b) := HBX.out.c 8 (by omega)
        have n9 : (w4.alloc (.cells #[.int .i64 kk.K, .int .u64 kk.N, .string kk.S, .int .i64 kk.O] 37)).cell? ⟨xb, 9, none⟩ = some (.slice sa rom.sl.length sc) := HBX.out.c 9 (by omega)
        go_wp2_with fail
        refine HP5.out.mono ?_
        rintro e w6 ⟨rfl, hb6⟩
        clear k0 k1 k2 k3 a0 a1 a2 a3 b0 b1 b2 b3 fk fa fb hsz z0 z1 z2 z3 hsz4
        clear n0 n1 n2 n3 n4 n5 n6 n7 n8 n9
        replace HN4 := hide_p (HN4.out.below hb6)
        replace HBX := hide_p (HBX.out.below hb6)
        clear HP HP5 hb5 hb6 hx4
        cases hko : kok k.K k.N with
        | false =>
          have HR := hide_p (HC.out.1 hko)
          clear HC hko HBX
          generalize plN (placeM rom.ks kk) = PL at *
          obtain ⟨⟨k0, k1, k2, k3, a0, a1, a2, a3, b0, b1, b2, b3, fk, fa, fb, hsz, -⟩, z0, z1, z2, z3, hsz4⟩ := HN4.out
          go_wp2_with fail
          go_region
          all_goals
            go_wp2
            rw [HR.out]
            exact bodyPost_ret (v := .tuple #[.agg #[.int .i64 0, .int .u64 0, .string ⟨#[]⟩, .int .i64 0], .agg #[.int .i64 0, .int .u64 0, .string ⟨#[]⟩, .int .i64 0], .int .i64 5]) (by simp [results, Tryz.results37, go_sem, a0, a1, a2, a3, b0, b1, b2, b3]) rfl ⟨rfl, by repeat' (first | with_reducible exact HN4.out.n3.hb | with_reducible apply Below.drew | with_reducible refine Below.setCell ?_ ?_ _ | omega | (simp; omega) | (simp; done))⟩
        | true =>
          replace HC := hide_p (HC.out.2 hko)
          cases hp : placeM rom.ks kk with
          | none =>
            have HR := hide_p (HC.out.1 hp)
            rw [show plN none = -1 from rfl]
            clear HC hko hp HBX
            obtain ⟨⟨k0, k1, k2, k3, a0, a1, a2, a3, b0, b1, b2, b3, fk, fa, fb, hsz, -⟩, z0, z1, z2, z3, hsz4⟩ := HN4.out
            go_wp2_with fail
            go_region
            all_goals
              go_wp2
              rw [HR.out]
              exact bodyPost_ret (v := .tuple #[.agg #[.int .i64 0, .int .u64 0, .string ⟨#[]⟩, .int .i64 0], .agg #[.int .i64 0, .int .u64 0, .string ⟨#[]⟩, .int .i64 0], .int .i64 5]) (by simp [results, Tryz.results37, go_sem, a0, a1, a2, a3, b0, b1, b2, b3]) rfl ⟨rfl, by repeat' (first | with_reducible exact HN4.out.n3.hb | with_reducible apply Below.drew | with_reducible refine Below.setCell ?_ ?_ _ | omega | (simp; omega) | (simp; done))⟩
          | some q =>
            have HR := hide_p (HC.out.2 q hp)
            have hql := placeM_lt hp
            obtain ⟨p, hpq⟩ : ∃ p, p = q + 1 := ⟨_, rfl⟩
            rw [← hpq] at HR
            have hI : (q : Int) + 1 = (p : Int) := by omega
            have hq0 : ¬ (q : Int) < 0 := by omega
            have hpb : p ≤ 1048576 := by omega
            rw [show plN (some q) = (q : Int) from rfl]
            clear HC hko hp hpq hql
            have hvr := ((HV.out.below HN4.out.n3.hb).ob j _ HRJ.out).v
            have hkr := ((HV.out.below HN4.out.n3.hb).ob j _ HRJ.out).k
            have n1 : w6.cell? ⟨xb, 1, none⟩ = some (.slice ka rom.ks.length kc) := HBX.out.c 1 (by omega)
            have n2 : w6.cell? ⟨xb, 2, none⟩ = some (.slice va rom.vs.length vc) := HBX.out.c 2 (by omega)
            by_cases cp : p < rom.ks.length
            · obtain ⟨y, hy⟩ : ∃ y, rom.ks[p]? = some y := ⟨rom.ks[p], List.getElem?_eq_getElem cp⟩
              have cpv : p < rom.vs.length := by have := hvl.out; omega
              obtain ⟨v, hv⟩ : ∃ v, rom.vs[p]? = some v := ⟨rom.vs[p], List.getElem?_eq_getElem cpv⟩
              rw [hy, hv] at HR
              obtain ⟨_, _, ev, hvf⟩ := hvr.form
              simp only [Value.slice.injEq, true_and] at ev
              obtain ⟨ev1, ev2⟩ := ev
              obtain ⟨g2, eg, hg2, hat⟩ := hvf (show 0 < rom.vs.length by omega)
              rw [← ev1] at eg
              subst eg
              obtain ⟨_, _, ek, hkf⟩ := hkr.form
              simp only [Value.slice.injEq, true_and] at ek
              obtain ⟨ek1, ek2⟩ := ek
              obtain ⟨g1, eg1, hg1, hkat⟩ := hkf (show 0 < rom.ks.length by omega)
              rw [← ek1] at eg1
              subst eg1
              obtain ⟨y0, y1, y2, y3⟩ := hkat p y hy
              obtain ⟨v0, v1, v2, v3⟩ := hat p v hv
              have hl1 : g1 < w.heap.size := HG.out.1 g1 rfl
              have hl2 : g2 < w.heap.size := HG.out.2 g2 rfl
              have ne1 : ¬ g1 = w.heap.size + 1 := by omega
              have ne2 : ¬ g1 = w.heap.size + 1 + 1 := by omega
              have ne3 : ¬ g2 = w.heap.size + 1 := by omega
              have ne4 : ¬ g2 = w.heap.size + 1 + 1 := by omega
              have cpi : (p : Int) < (rom.ks.length : Int) := by omega
              have cpj : (p : Int) < (rom.vs.length : Int) := by omega
              have cpl : rom.vs.length ≤ 1048576 := by have := hvl.out; omega
              have cp0 : (0 : Int) ≤ (p : Int) := by omega
              have hxn1 : ¬ xb = w.heap.size + 1 := by omega
              have hxn2 : ¬ xb = w.heap.size + 1 + 1 := by omega
              clear hvr hkr hvf hat hkf hkat hy hv ev1 ev2 ek1 ek2
              obtain ⟨⟨k0, k1, k2, k3, a0, a1, a2, a3, b0, b1, b2, b3, fk, fa, fb, hsz, -⟩, z0, z1, z2, z3, hsz4⟩ := HN4.out
              go_wp2_with fail
              go_region
              all_goals
                go_wp2
                rw [HR.out]
                exact bodyPost_ret (v := .tuple #[.agg #[.int .i64 y.K, .int .u64 y.N, .string y.S, .int .i64 y.O], .agg #[.int .i64 v.K, .int .u64 v.N, .string v.S, .int .i64 v.O], .int .i64 0]) (by simp [results, Tryz.results37, go_sem, a0, a1, a2, a3, b0, b1, b2, b3]) rfl ⟨rfl, by repeat' (first | with_reducible exact HN4.out.n3.hb | with_reducible apply Below.drew | with_reducible refine Below.setCell ?_ ?_ _ | omega | (simp; omega) | (simp; done))⟩
            · rw [List.getElem?_eq_none (by omega), List.getElem?_eq_none (by have := hvl.out; omega)] at HR
              have cpi : ¬ (p : Int) < (rom.ks.length : Int) := by omega
              have cpg : (rom.ks.length : Int) ≤ (p : Int) := by omega
              clear hvr hkr
              obtain ⟨⟨k0, k1, k2, k3, a0, a1, a2, a3, b0, b1, b2, b3, fk, fa, fb, hsz, -⟩, z0, z1, z2, z3, hsz4⟩ := HN4.out
              go_wp2_with fail
              go_region
              all_goals
                go_wp2
                rw [HR.out]
                exact bodyPost_ret (v := .tuple #[.agg #[.int .i64 0, .int .u64 0, .string ⟨#[]⟩, .int .i64 0], .agg #[.int .i64 0, .int .u64 0, .string ⟨#[]⟩, .int .i64 0], .int .i64 0]) (by simp [results, Tryz.results37, go_sem, a0, a1, a2, a3, b0, b1, b2, b3]) rfl ⟨rfl, by repeat' (first | with_reducible exact HN4.out.n3.hb | with_reducible apply Below.drew | with_reducible refine Below.setCell ?_ ?_ _ | omega | (simp; omega) | (simp; done))⟩

end Go.Proofs.YthmocdabakkfhaaGreatDoor
