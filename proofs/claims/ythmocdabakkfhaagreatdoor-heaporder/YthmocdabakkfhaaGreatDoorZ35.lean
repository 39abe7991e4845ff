/-
  HpRset
-/
import Derived.Test.YthmocdabakkfhaaGreatDoorZ34

/-
  Layer 9: the reference's Set, walked.
-/
namespace Go.Proofs.YthmocdabakkfhaaGreatDoor
set_option maxRecDepth 100000
open Go.RowKit Flo

theorem setM_rs (lim : Nat) (rs : List Rr) (o : Int) (k v : V4) : (rTab rs o = none → setM lim (rs.map Rr.om) o k v = (5, rs.map Rr.om)) ∧ ∀ r j, rTab rs o = some r → (o - 1).toNat = j →
    (kok k.K k.N = false → setM lim (rs.map Rr.om) o k v = (1, rs.map Rr.om)) ∧ (kok k.K k.N = true →
      (placeM r.om.ks (keyV k) = none → (nK v.K = 0 → setM lim (rs.map Rr.om) o k v = (0, rs.map Rr.om)) ∧ (nK v.K ≠ 0 → (usedR rs < lim → setM lim (rs.map Rr.om) o k v = (0, (rs.map Rr.om).set j { r.om with ks := r.om.ks ++ [keyV k], vs := r.om.vs ++ [norV v] })) ∧ (¬ usedR rs < lim → setM lim (rs.map Rr.om) o k v = (2, rs.map Rr.om)))) ∧
      ∀ p, placeM r.om.ks (keyV k) = some p → (nK v.K = 0 → setM lim (rs.map Rr.om) o k v = (0, (rs.map Rr.om).set j { r.om with ks := r.om.ks.eraseIdx p, vs := r.om.vs.eraseIdx p })) ∧ (nK v.K ≠ 0 → setM lim (rs.map Rr.om) o k v = (0, (rs.map Rr.om).set j { r.om with vs := r.om.vs.set p (norV v) }))) := by
  refine ⟨fun h => ?_, fun r j h hj => ⟨fun hk => ?_, fun hk => ⟨fun hp => ⟨fun hv => ?_, fun hv => ⟨fun hl => ?_, fun hl => ?_⟩⟩, fun p hp => ⟨fun hv => ?_, fun hv => ?_⟩⟩⟩⟩
  · unfold setM; rw [tabM_rs, h]; rfl
  · unfold setM; rw [tabM_rs, h]; simp only [Option.map_some]; rw [if_pos hk]
  all_goals (unfold setM; rw [tabM_rs, h]; simp only [Option.map_some]; rw [if_neg (by rw [hk]; decide), hp]; simp only)
  · rw [if_pos hv]
  · rw [if_neg hv, used_rom, if_pos hl, hj]
  · rw [if_neg hv, used_rom, if_neg hl]
  · rw [if_pos hv, hj]
  · rw [if_neg hv, hj]

set_option maxHeartbeats 4000000 in
theorem rset_any {w : World} {db lim : Nat} {R : Value} {rs : List Rr} {Q : Nat → Prop} (h : Rv w db lim R rs Q) (o : Int) (k v : V4) (hN : U64 k.N) (hvN : U64 v.N) :
    Calls Tryz.prog 28 #[.pointer (some ⟨db, 0, none⟩), .int .i64 o, .agg #[.int .i64 k.K, .int .u64 k.N, .string k.S, .int .i64 k.O], .agg #[.int .i64 v.K, .int .u64 v.N, .string v.S, .int .i64 v.O]] w fun e w' => e = .returned (.int .i64 (setM lim (rs.map Rr.om) o k v).1) ∧ RP w db lim (setM lim (rs.map Rr.om) o k v).2 Q w' := by
  have HB0 : Hid (Below w.heap.size w ((w.alloc (.cells #[.int .i64 k.K, .int .u64 k.N, .string k.S, .int .i64 k.O] 37)).alloc (.cells #[.int .i64 v.K, .int .u64 v.N, .string v.S, .int .i64 v.O] 37))) := ((Below.refl _ _).alloc (Nat.le_refl _) _).alloc (by simp) _
  have HH := hide_p (rhas_any (h.below HB0.out) o)
  obtain ⟨hm0, hm1⟩ := setM_rs lim rs o k v
  cases ht : rTab rs o with
  | none =>
    rw [hm0 ht]
    rw [show (rTab rs o).isSome = false by rw [ht]; rfl] at HH
    have HQ := hide_p (h.rp HB0.out)
    clear h hm0 hm1 ht
    go_enter Tryz.func28, Tryz.ntmps28
    go_wp2_with fail
    refine HH.out.mono ?_
    rintro e w' ⟨rfl, rfl⟩
    clear HH
    go_wp2
    go_ret
    exact ⟨rfl, HQ.out⟩
  | some r =>
    obtain ⟨hra, hrk⟩ := rTab_some ht
    obtain ⟨j, ho, hoj, hjl, hrj⟩ := rAt_some hra
    obtain ⟨hm2, hm3⟩ := hm1 r j ht hoj
    rw [show (rTab rs o).isSome = true by rw [ht]; rfl] at HH
    have HK : Hid (∀ w, Calls Tryz.prog 62 #[.agg #[.int .i64 k.K, .int .u64 k.N, .string k.S, .int .i64 k.O]] w fun e w' => e = .returned (.tuple #[.agg #[.int .i64 (keyV k).K, .int .u64 (keyV k).N, .string (keyV k).S, .int .i64 (keyV k).O], .bool (kok k.K k.N)]) ∧ Below w.heap.size w w') := fun w => refKey_any k.K k.N k.S k.O w hN
    cases hko : kok k.K k.N with
    | false =>
      rw [hm2 hko]
      rw [hko] at HK
      have HV := hide_p h
      clear hm0 hm1 hm2 hm3 ht hra hrk hoj hjl hrj h ho hko
      generalize keyV k = kk at *
      go_enter Tryz.func28, Tryz.ntmps28
      go_wp2_with fail
      refine HH.out.mono ?_
      rintro e w' ⟨rfl, hw'⟩
      subst hw'
      clear HH
      go_wp2_with fail
      refine (HK.out _).mono ?_
      rintro e w1 ⟨rfl, hb1⟩
      obtain ⟨p0, p1, p2, p3⟩ := keep4 (b := w.heap.size) (v0 := .int .i64 k.K) (v1 := .int .u64 k.N) (v2 := .string k.S) (v3 := .int .i64 k.O) ⟨by go_simp, by go_simp, by go_simp, by go_simp⟩ hb1
      have hf1 : ∀ q, w1.frozen? ⟨w.heap.size, q, none⟩ = false := fun q => (hb1.frozen (by simp; omega)).trans (by go_simp)
      have HB1 : Hid (Below w.heap.size w w1) := HB0.out.trans (hb1.mono (by simp; omega))
      clear hb1 HK HB0
      have HQ := hide_p (HV.out.rp (set41 HB1.out (Nat.le_refl _) (.int .i64 kk.K) (.int .u64 kk.N) (.string kk.S) (.int .i64 kk.O)))
      go_wp2
      go_ret
      exact ⟨rfl, HQ.out⟩
    | true =>
      have hm4 := hm3 hko
      rw [hko] at HK
      have HN : Hid (∀ w, Calls Tryz.prog 63 #[.agg #[.int .i64 v.K, .int .u64 v.N, .string v.S, .int .i64 v.O]] w fun e w' => e = .returned (.agg #[.int .i64 (norV v).K, .int .u64 (norV v).N, .string (norV v).S, .int .i64 (norV v).O]) ∧ Below w.heap.size w w') := fun w => refNormal_any v.K v.N v.S v.O w hvN
      have HM4 := hide_p hm4
      have HNK : Hid (nK v.K = (norV v).K) := rfl
      have HV := hide_p h
      have HRJ := hide_p hrj
      obtain ⟨ka, kc, hkv, _⟩ := (h.ob j r hrj).k.form
      obtain ⟨va, vc, hvv, _⟩ := (h.ob j r hrj).v.form
      obtain ⟨sa, sc, hsv, _⟩ := (h.ob j r hrj).s.form
      have hrv := h.ob j r hrj
      have hwr := usedR_ge rs j r hrj
      have hkl : r.om.ks.length ≤ 1048576 := by have := h.hu; have := h.hl; have hw : r.om.wt = 1 + r.om.ks.length + r.om.sl.length := rfl; omega
      have hvl : Hid (r.om.vs.length = r.om.ks.length) := hrv.len
      have hjl2 : (j : Int) < (rs.length : Int) := by omega
      clear hm0 hm1 hm2 hm3 hm4 ht hra hrk hoj h hrj hko
      obtain ⟨rom, kv, vv, sv⟩ := r
      simp only at hkv hvv hsv hkl hvl HM4
      subst hkv
      subst hvv
      subst hsv
      have HRV := hide_p hrv
      clear hrv hwr
      subst ho
      have e1 : (j : Int) + 1 - 1 = (j : Int) := by omega
      generalize setM lim (rs.map Rr.om) ((j : Int) + 1) k v = res at *
      obtain ⟨kk, hkk⟩ : ∃ kk, kk = keyV k := ⟨_, rfl⟩
      obtain ⟨nv, hnv⟩ : ∃ nv, nv = norV v := ⟨_, rfl⟩
      rw [← hnv] at HN HNK HM4
      rw [← hkk] at HK HM4
      rw [HNK.out] at HM4
      clear hkk hnv HNK
      go_enter Tryz.func28, Tryz.ntmps28
      go_wp2_with fail
      refine HH.out.mono ?_
      rintro e w' ⟨rfl, hw'⟩
      subst hw'
      clear HH
      go_wp2_with fail
      refine (HK.out _).mono ?_
      rintro e w1 ⟨rfl, hb1⟩
      obtain ⟨p0, p1, p2, p3⟩ := keep4 (b := w.heap.size) (v0 := .int .i64 k.K) (v1 := .int .u64 k.N) (v2 := .string k.S) (v3 := .int .i64 k.O) ⟨by go_simp, by go_simp, by go_simp, by go_simp⟩ hb1
      obtain ⟨s0, s1, s2, s3⟩ := keep4 (b := w.heap.size + 1) (v0 := .int .i64 v.K) (v1 := .int .u64 v.N) (v2 := .string v.S) (v3 := .int .i64 v.O) ⟨by go_simp, by go_simp, by go_simp, by go_simp⟩ hb1
      have hf1 : ∀ q, w1.frozen? ⟨w.heap.size, q, none⟩ = false := fun q => (hb1.frozen (by simp; omega)).trans (by go_simp)
      have hf2 : ∀ q, w1.frozen? ⟨w.heap.size + 1, q, none⟩ = false := fun q => (hb1.frozen (by simp)).trans (by go_simp)
      have HB1 : Hid (Below w.heap.size w w1) := HB0.out.trans (hb1.mono (by simp; omega))
      have hsz1 : w.heap.size + 2 ≤ w1.heap.size := by have := hb1.size; simp at this; omega
      clear hb1 HK HB0
      obtain ⟨w2, hw2⟩ : ∃ w2, w2 = (((w1.setCell ⟨w.heap.size, 0, none⟩ (.int .i64 kk.K)).setCell ⟨w.heap.size, 1, none⟩ (.int .u64 kk.N)).setCell ⟨w.heap.size, 2, none⟩ (.string kk.S)).setCell ⟨w.heap.size, 3, none⟩ (.int .i64 kk.O) := ⟨_, rfl⟩
      have k0 : w2.cell? ⟨w.heap.size, 0, none⟩ = some (.int .i64 kk.K) := by rw [hw2]; go_simp
      have k1 : w2.cell? ⟨w.heap.size, 1, none⟩ = some (.int .u64 kk.N) := by rw [hw2]; go_simp
      have k2 : w2.cell? ⟨w.heap.size, 2, none⟩ = some (.string kk.S) := by rw [hw2]; go_simp
      have k3 : w2.cell? ⟨w.heap.size, 3, none⟩ = some (.int .i64 kk.O) := by rw [hw2]; go_simp
      have t0 : w2.cell? ⟨w.heap.size + 1, 0, none⟩ = some (.int .i64 v.K) := by rw [hw2]; go_simp
      have t1 : w2.cell? ⟨w.heap.size + 1, 1, none⟩ = some (.int .u64 v.N) := by rw [hw2]; go_simp
      have t2 : w2.cell? ⟨w.heap.size + 1, 2, none⟩ = some (.string v.S) := by rw [hw2]; go_simp
      have t3 : w2.cell? ⟨w.heap.size + 1, 3, none⟩ = some (.int .i64 v.O) := by rw [hw2]; go_simp
      have tf : ∀ q, w2.frozen? ⟨w.heap.size + 1, q, none⟩ = false := fun q => by rw [hw2]; go_simp
      have HB2 : Hid (Below w.heap.size w w2) := by rw [hw2]; exact set41 HB1.out (Nat.le_refl _) _ _ _ _
      have hsz2 : w.heap.size + 2 ≤ w2.heap.size := by rw [hw2]; simp; omega
      go_upto_region 6 with fail
      rw [← hw2]
      clear hw2 p0 p1 p2 p3 s0 s1 s2 s3 hf1 hf2 HB1 hsz1
      go_wp2_with fail
      refine (HN.out _).mono ?_
      rintro e w3 ⟨rfl, hb3⟩
      obtain ⟨p0, p1, p2, p3⟩ := keep4 ⟨k0, k1, k2, k3⟩ hb3
      obtain ⟨s0, s1, s2, s3⟩ := keep4 ⟨t0, t1, t2, t3⟩ hb3
      have sf : ∀ q, w3.frozen? ⟨w.heap.size + 1, q, none⟩ = false := fun q => (hb3.frozen (by show w.heap.size + 1 < _; omega)).trans (tf q)
      have HB3 : Hid (Below w.heap.size w w3) := HB2.out.trans (hb3.mono (by omega))
      have hsz3 : w.heap.size + 2 ≤ w3.heap.size := Nat.le_trans hsz2 hb3.size
      clear hb3 HN HB2 hsz2 k0 k1 k2 k3 t0 t1 t2 t3 tf
      go_upto_region 7 with fail
      obtain ⟨w5, hw5⟩ : ∃ w5, w5 = (((w3.setCell ⟨w.heap.size + 1, 0, none⟩ (.int .i64 nv.K)).setCell ⟨w.heap.size + 1, 1, none⟩ (.int .u64 nv.N)).setCell ⟨w.heap.size + 1, 2, none⟩ (.string nv.S)).setCell ⟨w.heap.size + 1, 3, none⟩ (.int .i64 nv.O) := ⟨_, rfl⟩
      have k0 : w5.cell? ⟨w.heap.size, 0, none⟩ = some (.int .i64 kk.K) := by rw [hw5]; go_simp
      have k1 : w5.cell? ⟨w.heap.size, 1, none⟩ = some (.int .u64 kk.N) := by rw [hw5]; go_simp
      have k2 : w5.cell? ⟨w.heap.size, 2, none⟩ = some (.string kk.S) := by rw [hw5]; go_simp
      have k3 : w5.cell? ⟨w.heap.size, 3, none⟩ = some (.int .i64 kk.O) := by rw [hw5]; go_simp
      have t0 : w5.cell? ⟨w.heap.size + 1, 0, none⟩ = some (.int .i64 nv.K) := by rw [hw5]; go_simp
      have t1 : w5.cell? ⟨w.heap.size + 1, 1, none⟩ = some (.int .u64 nv.N) := by rw [hw5]; go_simp
      have t2 : w5.cell? ⟨w.heap.size + 1, 2, none⟩ = some (.string nv.S) := by rw [hw5]; go_simp
      have t3 : w5.cell? ⟨w.heap.size + 1, 3, none⟩ = some (.int .i64 nv.O) := by rw [hw5]; go_simp
      have HB : Hid (Below w.heap.size w w5) := by rw [hw5]; exact set41 HB3.out (by omega) _ _ _ _
      have hsz : w.heap.size + 2 ≤ w5.heap.size := by rw [hw5]; simp; omega
      rw [← hw5]
      clear hw5 p0 p1 p2 p3 s0 s1 s2 s3 sf HB3 hsz3
      have hv5 := HV.out.below HB.out
      obtain ⟨a0, cap0, hR, hf0⟩ := hv5.form
      obtain ⟨g0, rfl, hg0, hc0⟩ := hf0 (by omega)
      have x := fun q hq => hc0 j _ HRJ.out q hq
      have c0 : w5.cell? ⟨db, 0, none⟩ = some (.slice (some ⟨g0, 0, none⟩) rs.length cap0) := by rw [← hR]; exact hv5.c0
      have x0 : w5.cell? ⟨g0, j * 10, none⟩ = some (.int .i64 rom.k) := x 0 (by omega)
      have x1 : w5.cell? ⟨g0, j * 10 + 1, none⟩ = some (.slice ka rom.ks.length kc) := x 1 (by omega)
      have x2 : w5.cell? ⟨g0, j * 10 + 2, none⟩ = some (.slice va rom.vs.length vc) := x 2 (by omega)
      have x3 : w5.cell? ⟨g0, j * 10 + 3, none⟩ = some (.int .i64 rom.M.K) := x 3 (by omega)
      have x4 : w5.cell? ⟨g0, j * 10 + 4, none⟩ = some (.int .u64 rom.M.N) := x 4 (by omega)
      have x5 : w5.cell? ⟨g0, j * 10 + 5, none⟩ = some (.string rom.M.S) := x 5 (by omega)
      have x6 : w5.cell? ⟨g0, j * 10 + 6, none⟩ = some (.int .i64 rom.M.O) := x 6 (by omega)
      have x7 : w5.cell? ⟨g0, j * 10 + 7, none⟩ = some (.int .i64 rom.a) := x 7 (by omega)
      have x8 : w5.cell? ⟨g0, j * 10 + 8, none⟩ = some (.int .i64 rom.b) := x 8 (by omega)
      have x9 : w5.cell? ⟨g0, j * 10 + 9, none⟩ = some (.slice sa rom.sl.length sc) := x 9 (by omega)
      have hlen : rs.length ≤ 1048576 := by have := usedR_len rs; have := HV.out.hu; have := HV.out.hl; omega
      clear hc0 hf0 hR hg0 x hv5
      go_cut [10] (fun t10 wx => t10 = .pointer (some ⟨w5.heap.size, 0, none⟩) ∧ Hid (Bo wx w5.heap.size (⟨rom, .slice ka rom.ks.length kc, .slice va rom.vs.length vc, .slice sa rom.sl.length sc⟩ : Rr) ∧ Below w5.heap.size w5 wx))
      case first =>
        go_wp2_with fail
        go_meet
        exact ⟨rfl, bo_lit w5 (⟨rom, .slice ka rom.ks.length kc, .slice va rom.vs.length vc, .slice sa rom.sl.length sc⟩ : Rr) #[.int .i64 rom.k, .slice ka rom.ks.length kc, .slice va rom.vs.length vc, .int .i64 rom.M.K, .int .u64 rom.M.N, .string rom.M.S, .int .i64 rom.M.O, .int .i64 rom.a, .int .i64 rom.b, .slice sa rom.sl.length sc] rfl, (Below.refl _ _).alloc (Nat.le_refl _) _⟩
      case rest =>
        obtain ⟨rfl, HX⟩ := hcut
        clear x0 x1 x2 x3 x4 x5 x6 x7 x8 x9 c0
        obtain ⟨w6, hw6⟩ : ∃ x, x = wc := ⟨_, rfl⟩
        subst hw6
        have HB6 : Hid (Below w.heap.size w w6) := HB.out.trans (HX.out.2.mono HB.out.size)
        have hs6 : w5.heap.size < w6.heap.size := HX.out.1.lt
        have bo := HX.out.1
        have n0 : w6.cell? ⟨w5.heap.size, 0, none⟩ = some (.int .i64 rom.k) := bo.c 0 (by omega)
        have n1 : w6.cell? ⟨w5.heap.size, 1, none⟩ = some (.slice ka rom.ks.length kc) := bo.c 1 (by omega)
        have n2 : w6.cell? ⟨w5.heap.size, 2, none⟩ = some (.slice va rom.vs.length vc) := bo.c 2 (by omega)
        have n3 : w6.cell? ⟨w5.heap.size, 3, none⟩ = some (.int .i64 rom.M.K) := bo.c 3 (by omega)
        have n4 : w6.cell? ⟨w5.heap.size, 4, none⟩ = some (.int .u64 rom.M.N) := bo.c 4 (by omega)
        have n5 : w6.cell? ⟨w5.heap.size, 5, none⟩ = some (.string rom.M.S) := bo.c 5 (by omega)
        have n6 : w6.cell? ⟨w5.heap.size, 6, none⟩ = some (.int .i64 rom.M.O) := bo.c 6 (by omega)
        have n7 : w6.cell? ⟨w5.heap.size, 7, none⟩ = some (.int .i64 rom.a) := bo.c 7 (by omega)
        have n8 : w6.cell? ⟨w5.heap.size, 8, none⟩ = some (.int .i64 rom.b) := bo.c 8 (by omega)
        have n9 : w6.cell? ⟨w5.heap.size, 9, none⟩ = some (.slice sa rom.sl.length sc) := bo.c 9 (by omega)
        have z0 := (HX.out.2.cell (show w.heap.size < w5.heap.size by omega)).trans k0
        have z1 := (HX.out.2.cell (show w.heap.size < w5.heap.size by omega)).trans k1
        have z2 := (HX.out.2.cell (show w.heap.size < w5.heap.size by omega)).trans k2
        have z3 := (HX.out.2.cell (show w.heap.size < w5.heap.size by omega)).trans k3
        have HP := hide_p (place_any (⟨rom, .slice ka rom.ks.length kc, .slice va rom.vs.length vc, .slice sa rom.sl.length sc⟩ : Rr) kk w6 ((HV.out.below HB6.out).ob j _ HRJ.out).k ⟨_, _, _, rfl⟩ ⟨_, _, _, rfl⟩ hkl)
        clear bo
        go_upto_region 8 with fail
        go_cut [11] (fun t11 wx => t11 = .int .i64 (plN (placeM rom.ks kk)) ∧ Hid (Below w6.heap.size w6 wx))
        case first =>
          go_wp2_with fail
          refine HP.out.mono ?_
          rintro e w7 ⟨rfl, hb7⟩
          have HB7 := hide_p hb7
          clear hb7 HP
          go_wp2_with fail
          go_meet
          exact ⟨rfl, HB7.out⟩
        case rest =>
          obtain ⟨rfl, HY⟩ := hcut
          clear n0 n1 n2 n3 n4 n5 n6 n7 n8 n9 z0 z1 z2 z3 HP
          obtain ⟨w7, hw7⟩ : ∃ x, x = wc := ⟨_, rfl⟩
          subst hw7
          go_upto_region 9 with fail
          obtain ⟨i1, hi1, hy0, hy1, hy2⟩ := valInfo
          have hxb : w5.heap.size < w7.heap.size := Nat.lt_of_lt_of_le hs6 HY.out.size
          have HB7 : Hid (Below w.heap.size w w7) := HB6.out.trans (HY.out.mono HB6.out.size)
          have HBO : Hid (Bo w7 w5.heap.size (⟨rom, (.slice ka rom.ks.length kc), (.slice va rom.vs.length vc), (.slice sa rom.sl.length sc)⟩ : Rr)) := HX.out.1.below HY.out
          have hrw := (HV.out.below HB7.out).ob j _ HRJ.out
          have hold := fun x hx => HV.out.lt x (HRV.out.own x hx).1
          have HS1 : Hid (∀ w', Wx (fun k => k = w5.heap.size ∨ w7.heap.size ≤ k) w7 w' → Src w' 4 (.slice ka rom.ks.length kc) rom.ks.length (vC rom.ks)) := fun w' hx => Src.of_owns (hrw.k.wx hx (fun g hg c => by
            have := hold g (Or.inl hg)
            have := HB.out.size
            rcases c with c | c <;> omega)) (vC_one _)
          have HS2 : Hid (∀ w', Wx (fun k => k = w5.heap.size ∨ w7.heap.size ≤ k) w7 w' → Src w' 4 (.slice va rom.vs.length vc) rom.vs.length (vC rom.vs)) := fun w' hx => Src.of_owns (hrw.v.wx hx (fun g hg c => by
            have := hold g (Or.inr (Or.inl hg))
            have := HB.out.size
            rcases c with c | c <;> omega)) (vC_one _)
          clear hrw hold
          go_cut [10] (fun t10 wx => t10 = .pointer (some ⟨w5.heap.size, 0, none⟩) ∧ Hid (∃ r1 r2, Tw w7.heap.size wx w5.heap.size rom (.slice sa rom.sl.length sc) rom.ks rom.vs r1 r2 ∧ Wx (fun k => k = w5.heap.size ∨ w7.heap.size ≤ k) w7 wx))
          case first =>
            refine wp_region_inv2 (by kernel_rfl) [36, 37, 38, 39, 40, 41, 42, 43, 44, 45] (fun L vs w' => ∃ v36 v37 v38 v39 v40 v41 v42 v43 v44 v45, vs = [v36, v37, v38, v39, v40, v41, v42, v43, v44, v45] ∧ (L 1 = true → v37 = .pointer (some ⟨w5.heap.size, 1, none⟩)) ∧ (L 2 = true → v38 = (.slice ka rom.ks.length kc)) ∧ (L 5 = true → v41 = .pointer (some ⟨w5.heap.size, 2, none⟩)) ∧ (L 6 = true → v42 = (.slice va rom.vs.length vc)) ∧ (L 8 = true → v44 = .pointer (some ⟨w5.heap.size, 1, none⟩)) ∧ (L 10 = true → v45 = .pointer (some ⟨w5.heap.size, 2, none⟩)) ∧ (L 3 = true → L 0 = true ∧ L 2 = true) ∧ (L 9 = true → L 3 = true) ∧ (L 7 = true → L 4 = true ∧ L 6 = true) ∧ (L 11 = true → L 7 = true) ∧ Hid (WR w7.heap.size w7 w' w5.heap.size rom (.slice ka rom.ks.length kc) (.slice va rom.vs.length vc) (.slice sa rom.sl.length sc) (L 9) (L 11) v39 v43 (P9 w7.heap.size rom.ks (L 0) (L 3) v36 v39) (P9 w7.heap.size rom.vs (L 4) (L 7) v40 v43))) (by kernel_rfl) (by decide) (by intro x hx; simp at hx; simp; omega) ?_ ⟨?_, ?_, ?_, ?_, ?_, ?_, ?_, ?_, ?_, ?_, ?_, ?_, trivial⟩ ?_
            · exact ⟨_, _, _, _, _, _, _, _, _, _, rfl, fun q => by (cases q), fun q => by (cases q), fun q => by (cases q), fun q => by (cases q), fun q => by (cases q), fun q => by (cases q), fun q => by (cases q), fun q => by (cases q), fun q => by (cases q), fun q => by (cases q),
                ⟨HBO.out, Wx.of_below _ ((Below.refl w7.heap.size w7).drew), fun _ => False, fun _ => False, fun _ c => c.elim, fun _ c => by (rcases c with c | c <;> exact c.elim), ⟨fun q => by (cases q), fun q => by (cases q)⟩, ⟨fun q => by (cases q), fun q => by (cases q)⟩⟩⟩
            · rintro A L vs w' F G ⟨v36, v37, v38, v39, v40, v41, v42, v43, v44, v45, rfl, d1, d2, d5, d6, d8, d10, m3, m9, m7, m11, HW⟩ hL hdep K' hK hK0
              have h3 : L 3 = false := by
                cases q : L 3 with
                | false => rfl
                | true => exact absurd ((m3 q).1) (by rw [hL]; decide)
              have h9 : L 9 = false := by
                cases q : L 9 with
                | false => rfl
                | true => exact absurd (m9 q) (by rw [h3]; decide)
              have hB : w7.heap.size ≤ w'.heap.size := HW.out.low.size
              have HW2 : Hid (WR w7.heap.size w7 (w'.alloc (.cells #[] 37)) w5.heap.size rom (.slice ka rom.ks.length kc) (.slice va rom.vs.length vc) (.slice sa rom.sl.length sc) (L 9) (L 11) v39 v43 (P9 w7.heap.size rom.ks true (L 3) (.slice (some ⟨w'.heap.size, 0, none⟩) 0 0) v39) (P9 w7.heap.size rom.vs (L 4) (L 7) v40 v43)) := by
                have hw := WR.stepA (n1' := v39) (PA' := P9 w7.heap.size rom.ks true false (.slice (some ⟨w'.heap.size, 0, none⟩) 0 0) v39) HW.out hxb hB h9 (P9.lcl _ _ _ _ _ _) (w' := w'.alloc (.cells #[] 37)) (fun X _ _ => P9.bs hB)
                rw [h3]
                exact hw
              
              clear F G
              go_simp
              refine hK 0 36 _ _ rfl ⟨_, _, _, _, _, _, _, _, _, _, rfl, d1, d2, d5, d6, d8, d10, (fun q => ⟨lmono (m3 q).1, lmono (m3 q).2⟩), (fun q => lmono (m9 q)), (fun q => ⟨lmono (m7 q).1, lmono (m7 q).2⟩), (fun q => lmono (m11 q)), HW2⟩
            · rintro A L vs w' F G ⟨v36, v37, v38, v39, v40, v41, v42, v43, v44, v45, rfl, d1, d2, d5, d6, d8, d10, m3, m9, m7, m11, HW⟩ hL hdep K' hK hK0
              have g10 : A.tmps[10]?.getD undef = .pointer (some ⟨w5.heap.size, 0, none⟩) := evD ((G 10 (by decide)).trans rfl)
              clear F G
              go_simp
              refine hK 1 37 _ w' rfl ⟨_, _, _, _, _, _, _, _, _, _, rfl, (fun _ => rfl), d2, d5, d6, d8, d10, (fun q => ⟨lmono (m3 q).1, lmono (m3 q).2⟩), (fun q => lmono (m9 q)), (fun q => ⟨lmono (m7 q).1, lmono (m7 q).2⟩), (fun q => lmono (m11 q)), HW⟩
            · rintro A L vs w' F G ⟨v36, v37, v38, v39, v40, v41, v42, v43, v44, v45, rfl, d1, d2, d5, d6, d8, d10, m3, m9, m7, m11, HW⟩ hL hdep K' hK hK0
              have p1 : L 1 = true := hdep { on := 1, ground := Ground.data } (by simp) rfl
              have h9 : L 9 = false := by
                cases q : L 9 with
                | false => rfl
                | true => exact absurd ((m3 (m9 q)).2) (by rw [hL]; decide)
              have c1 : w'.cell? ⟨w5.heap.size, 1, none⟩ = some (.slice ka rom.ks.length kc) := by
                have := HW.out.bo.c 1 (by omega)
                rw [h9] at this
                exact this
              have q := d1 p1
              subst q
              have g37 := evD (F 1 37 _ rfl rfl)
              clear F G
              go_simp
              refine hK 2 38 _ w' rfl ⟨_, _, _, _, _, _, _, _, _, _, rfl, (fun _ => rfl), (fun _ => rfl), d5, d6, d8, d10, (fun q => ⟨lmono (m3 q).1, lmono (m3 q).2⟩), (fun q => lmono (m9 q)), (fun q => ⟨lmono (m7 q).1, lmono (m7 q).2⟩), (fun q => lmono (m11 q)), HW⟩
            · rintro A L vs w' F G ⟨v36, v37, v38, v39, v40, v41, v42, v43, v44, v45, rfl, d1, d2, d5, d6, d8, d10, m3, m9, m7, m11, HW⟩ hL hdep K' hK hK0
              have p0 : L 0 = true := hdep { on := 0, ground := Ground.data } (by simp) rfl
              have p2 : L 2 = true := hdep { on := 2, ground := Ground.data } (by simp) rfl
              have h9 : L 9 = false := by
                cases q : L 9 with
                | false => rfl
                | true => exact absurd (m9 q) (by rw [hL]; decide)
              have hB : w7.heap.size ≤ w'.heap.size := HW.out.low.size
              obtain ⟨g, hg, hrow⟩ : ∃ g, v36 = .slice (some ⟨g, 0, none⟩) 0 0 ∧ w'.ownsRow w7.heap.size 37 4 v36 0 [] := by
                obtain ⟨XA, XB, _, _, hpa, _⟩ := HW.out.ex
                obtain ⟨g, hg, hr⟩ := hpa.1 p0 hL
                exact ⟨g, hg, hr.1⟩
              have q := d2 p2
              subst q
              refine step_append_src w' rfl (.tmp 36) (.tmp 38) 33 rfl w7.heap.size 37 i1 _ 4 40 Tryz.underlying33 hi1 hy0 hy1 hy2 rfl (by decide) v36 0 [] (F 0 36 _ rfl rfl) hrow (.slice ka rom.ks.length kc) rom.ks.length (vC rom.ks) (F 2 38 _ rfl rfl) (HS1.out w' HW.out.low) (by unfold maxLen; omega) (by omega) hB ?_
              intro a' c' w2 q1 q2 q3
              rw [Nat.zero_add, List.nil_append] at q1
              rw [Nat.zero_add] at q3 ⊢
              have HW2 : Hid (WR w7.heap.size w7 w2 w5.heap.size rom (.slice ka rom.ks.length kc) (.slice va rom.vs.length vc) (.slice sa rom.sl.length sc) (L 9) (L 11) (.slice a' rom.ks.length c') v43 (P9 w7.heap.size rom.ks (L 0) true v36 (.slice a' rom.ks.length c')) (P9 w7.heap.size rom.vs (L 4) (L 7) v40 v43)) := by
                have hw := WR.stepA (n1' := .slice a' rom.ks.length c') (PA' := P9 w7.heap.size rom.ks true true v36 (.slice a' rom.ks.length c')) HW.out hxb hB h9 (P9.lcl _ _ _ _ _ _) (w' := w2) (fun X hX _ => by
                  obtain ⟨g, hg, hr⟩ := hX.1 p0 hL
                  exact P9.app hr q1 q2 q3)
                rw [p0]
                exact hw
              refine hK 3 39 _ w2 rfl ⟨_, _, _, _, _, _, _, _, _, _, rfl, d1, (fun _ => rfl), d5, d6, d8, d10, (fun _ => ⟨lmono p0, lmono p2⟩), (fun q => lmono (m9 q)), (fun q => ⟨lmono (m7 q).1, lmono (m7 q).2⟩), (fun q => lmono (m11 q)), HW2⟩
            · rintro A L vs w' F G ⟨v36, v37, v38, v39, v40, v41, v42, v43, v44, v45, rfl, d1, d2, d5, d6, d8, d10, m3, m9, m7, m11, HW⟩ hL hdep K' hK hK0
              have h7 : L 7 = false := by
                cases q : L 7 with
                | false => rfl
                | true => exact absurd ((m7 q).1) (by rw [hL]; decide)
              have h11 : L 11 = false := by
                cases q : L 11 with
                | false => rfl
                | true => exact absurd (m11 q) (by rw [h7]; decide)
              have hB : w7.heap.size ≤ w'.heap.size := HW.out.low.size
              have HW2 : Hid (WR w7.heap.size w7 (w'.alloc (.cells #[] 37)) w5.heap.size rom (.slice ka rom.ks.length kc) (.slice va rom.vs.length vc) (.slice sa rom.sl.length sc) (L 9) (L 11) v39 v43 (P9 w7.heap.size rom.ks (L 0) (L 3) v36 v39) (P9 w7.heap.size rom.vs true (L 7) (.slice (some ⟨w'.heap.size, 0, none⟩) 0 0) v43)) := by
                have hw := WR.stepB (n2' := v43) (PB' := P9 w7.heap.size rom.vs true false (.slice (some ⟨w'.heap.size, 0, none⟩) 0 0) v43) HW.out hxb hB h11 (P9.lcl _ _ _ _ _ _) (w' := w'.alloc (.cells #[] 37)) (fun X _ _ => P9.bs hB)
                rw [h7]
                exact hw
              
              clear F G
              go_simp
              refine hK 4 40 _ _ rfl ⟨_, _, _, _, _, _, _, _, _, _, rfl, d1, d2, d5, d6, d8, d10, (fun q => ⟨lmono (m3 q).1, lmono (m3 q).2⟩), (fun q => lmono (m9 q)), (fun q => ⟨lmono (m7 q).1, lmono (m7 q).2⟩), (fun q => lmono (m11 q)), HW2⟩
            · rintro A L vs w' F G ⟨v36, v37, v38, v39, v40, v41, v42, v43, v44, v45, rfl, d1, d2, d5, d6, d8, d10, m3, m9, m7, m11, HW⟩ hL hdep K' hK hK0
              have g10 : A.tmps[10]?.getD undef = .pointer (some ⟨w5.heap.size, 0, none⟩) := evD ((G 10 (by decide)).trans rfl)
              clear F G
              go_simp
              refine hK 5 41 _ w' rfl ⟨_, _, _, _, _, _, _, _, _, _, rfl, d1, d2, (fun _ => rfl), d6, d8, d10, (fun q => ⟨lmono (m3 q).1, lmono (m3 q).2⟩), (fun q => lmono (m9 q)), (fun q => ⟨lmono (m7 q).1, lmono (m7 q).2⟩), (fun q => lmono (m11 q)), HW⟩
            · rintro A L vs w' F G ⟨v36, v37, v38, v39, v40, v41, v42, v43, v44, v45, rfl, d1, d2, d5, d6, d8, d10, m3, m9, m7, m11, HW⟩ hL hdep K' hK hK0
              have p5 : L 5 = true := hdep { on := 5, ground := Ground.data } (by simp) rfl
              have h11 : L 11 = false := by
                cases q : L 11 with
                | false => rfl
                | true => exact absurd ((m7 (m11 q)).2) (by rw [hL]; decide)
              have c2 : w'.cell? ⟨w5.heap.size, 2, none⟩ = some (.slice va rom.vs.length vc) := by
                have := HW.out.bo.c 2 (by omega)
                rw [h11] at this
                exact this
              have q := d5 p5
              subst q
              have g41 := evD (F 5 41 _ rfl rfl)
              clear F G
              go_simp
              refine hK 6 42 _ w' rfl ⟨_, _, _, _, _, _, _, _, _, _, rfl, d1, d2, (fun _ => rfl), (fun _ => rfl), d8, d10, (fun q => ⟨lmono (m3 q).1, lmono (m3 q).2⟩), (fun q => lmono (m9 q)), (fun q => ⟨lmono (m7 q).1, lmono (m7 q).2⟩), (fun q => lmono (m11 q)), HW⟩
            · rintro A L vs w' F G ⟨v36, v37, v38, v39, v40, v41, v42, v43, v44, v45, rfl, d1, d2, d5, d6, d8, d10, m3, m9, m7, m11, HW⟩ hL hdep K' hK hK0
              have p4 : L 4 = true := hdep { on := 4, ground := Ground.data } (by simp) rfl
              have p6 : L 6 = true := hdep { on := 6, ground := Ground.data } (by simp) rfl
              have h11 : L 11 = false := by
                cases q : L 11 with
                | false => rfl
                | true => exact absurd (m11 q) (by rw [hL]; decide)
              have hB : w7.heap.size ≤ w'.heap.size := HW.out.low.size
              obtain ⟨g, hg, hrow⟩ : ∃ g, v40 = .slice (some ⟨g, 0, none⟩) 0 0 ∧ w'.ownsRow w7.heap.size 37 4 v40 0 [] := by
                obtain ⟨XA, XB, _, _, _, hpb⟩ := HW.out.ex
                obtain ⟨g, hg, hr⟩ := hpb.1 p4 hL
                exact ⟨g, hg, hr.1⟩
              have q := d6 p6
              subst q
              refine step_append_src w' rfl (.tmp 40) (.tmp 42) 33 rfl w7.heap.size 37 i1 _ 4 40 Tryz.underlying33 hi1 hy0 hy1 hy2 rfl (by decide) v40 0 [] (F 4 40 _ rfl rfl) hrow (.slice va rom.vs.length vc) rom.vs.length (vC rom.vs) (F 6 42 _ rfl rfl) (HS2.out w' HW.out.low) (by unfold maxLen; have := hvl.out; omega) (by have := hvl.out; omega) hB ?_
              intro a' c' w2 q1 q2 q3
              rw [Nat.zero_add, List.nil_append] at q1
              rw [Nat.zero_add] at q3 ⊢
              have HW2 : Hid (WR w7.heap.size w7 w2 w5.heap.size rom (.slice ka rom.ks.length kc) (.slice va rom.vs.length vc) (.slice sa rom.sl.length sc) (L 9) (L 11) v39 (.slice a' rom.vs.length c') (P9 w7.heap.size rom.ks (L 0) (L 3) v36 v39) (P9 w7.heap.size rom.vs (L 4) true v40 (.slice a' rom.vs.length c'))) := by
                have hw := WR.stepB (n2' := .slice a' rom.vs.length c') (PB' := P9 w7.heap.size rom.vs true true v40 (.slice a' rom.vs.length c')) HW.out hxb hB h11 (P9.lcl _ _ _ _ _ _) (w' := w2) (fun X hX _ => by
                  obtain ⟨g, hg, hr⟩ := hX.1 p4 hL
                  exact P9.app hr q1 q2 q3)
                rw [p4]
                exact hw
              refine hK 7 43 _ w2 rfl ⟨_, _, _, _, _, _, _, _, _, _, rfl, d1, d2, d5, (fun _ => rfl), d8, d10, (fun q => ⟨lmono (m3 q).1, lmono (m3 q).2⟩), (fun q => lmono (m9 q)), (fun _ => ⟨lmono p4, lmono p6⟩), (fun q => lmono (m11 q)), HW2⟩
            · rintro A L vs w' F G ⟨v36, v37, v38, v39, v40, v41, v42, v43, v44, v45, rfl, d1, d2, d5, d6, d8, d10, m3, m9, m7, m11, HW⟩ hL hdep K' hK hK0
              have g10 : A.tmps[10]?.getD undef = .pointer (some ⟨w5.heap.size, 0, none⟩) := evD ((G 10 (by decide)).trans rfl)
              clear F G
              go_simp
              refine hK 8 44 _ w' rfl ⟨_, _, _, _, _, _, _, _, _, _, rfl, d1, d2, d5, d6, (fun _ => rfl), d10, (fun q => ⟨lmono (m3 q).1, lmono (m3 q).2⟩), (fun q => lmono (m9 q)), (fun q => ⟨lmono (m7 q).1, lmono (m7 q).2⟩), (fun q => lmono (m11 q)), HW⟩
            · rintro A L vs w' F G ⟨v36, v37, v38, v39, v40, v41, v42, v43, v44, v45, rfl, d1, d2, d5, d6, d8, d10, m3, m9, m7, m11, HW⟩ hL hdep K' hK hK0
              have p8 : L 8 = true := hdep { on := 8, ground := Ground.data } (by simp) rfl
              have p3 : L 3 = true := hdep { on := 3, ground := Ground.data } (by simp) rfl
              obtain ⟨a', c', hv9⟩ : ∃ a c, v39 = .slice a rom.ks.length c := by
                obtain ⟨XA, XB, _, _, hpa, _⟩ := HW.out.ex
                exact (hpa.2 p3).1
              have hc := HW.out.bo.c 1 (by omega)
              have hf := HW.out.bo.f 1
              rw [hL] at hc
              have hc1 : w'.cell? ⟨w5.heap.size, 1, none⟩ = some (.slice ka rom.ks.length kc) := hc
              have q := d8 p8
              subst q
              subst hv9
              have HW2 : Hid (WR w7.heap.size w7 (w'.setCell ⟨w5.heap.size, 1, none⟩ (.slice a' rom.ks.length c')) w5.heap.size rom (.slice ka rom.ks.length kc) (.slice va rom.vs.length vc) (.slice sa rom.sl.length sc) true (L 11) (.slice a' rom.ks.length c') v43 (P9 w7.heap.size rom.ks (L 0) (L 3) v36 (.slice a' rom.ks.length c')) (P9 w7.heap.size rom.vs (L 4) (L 7) v40 v43)) := by
                have hw := HW.out
                rw [hL] at hw
                exact hw.storeA hxb (P9.lcl _ _ _ _ _ _) (P9.lcl _ _ _ _ _ _)
              clear hc
              have g44 := evD (F 8 44 _ rfl rfl)
              have g39 := evD (F 3 39 _ rfl rfl)
              clear F G
              go_simp
              refine hK0 _ ⟨_, _, _, _, _, _, _, _, _, _, rfl, d1, d2, d5, d6, (fun _ => rfl), d10, (fun q => ⟨lmono (m3 q).1, lmono (m3 q).2⟩), (fun _ => lmono p3), (fun q => ⟨lmono (m7 q).1, lmono (m7 q).2⟩), (fun q => lmono (m11 q)), HW2⟩
            · rintro A L vs w' F G ⟨v36, v37, v38, v39, v40, v41, v42, v43, v44, v45, rfl, d1, d2, d5, d6, d8, d10, m3, m9, m7, m11, HW⟩ hL hdep K' hK hK0
              have g10 : A.tmps[10]?.getD undef = .pointer (some ⟨w5.heap.size, 0, none⟩) := evD ((G 10 (by decide)).trans rfl)
              clear F G
              go_simp
              refine hK 9 45 _ w' rfl ⟨_, _, _, _, _, _, _, _, _, _, rfl, d1, d2, d5, d6, d8, (fun _ => rfl), (fun q => ⟨lmono (m3 q).1, lmono (m3 q).2⟩), (fun q => lmono (m9 q)), (fun q => ⟨lmono (m7 q).1, lmono (m7 q).2⟩), (fun q => lmono (m11 q)), HW⟩
            · rintro A L vs w' F G ⟨v36, v37, v38, v39, v40, v41, v42, v43, v44, v45, rfl, d1, d2, d5, d6, d8, d10, m3, m9, m7, m11, HW⟩ hL hdep K' hK hK0
              have p10 : L 10 = true := hdep { on := 10, ground := Ground.data } (by simp) rfl
              have p7 : L 7 = true := hdep { on := 7, ground := Ground.data } (by simp) rfl
              obtain ⟨a', c', hv9⟩ : ∃ a c, v43 = .slice a rom.vs.length c := by
                obtain ⟨XA, XB, _, _, _, hpb⟩ := HW.out.ex
                exact (hpb.2 p7).1
              have hc := HW.out.bo.c 2 (by omega)
              have hf := HW.out.bo.f 2
              rw [hL] at hc
              have hc1 : w'.cell? ⟨w5.heap.size, 2, none⟩ = some (.slice va rom.vs.length vc) := hc
              have q := d10 p10
              subst q
              subst hv9
              have HW2 : Hid (WR w7.heap.size w7 (w'.setCell ⟨w5.heap.size, 2, none⟩ (.slice a' rom.vs.length c')) w5.heap.size rom (.slice ka rom.ks.length kc) (.slice va rom.vs.length vc) (.slice sa rom.sl.length sc) (L 9) true v39 (.slice a' rom.vs.length c') (P9 w7.heap.size rom.ks (L 0) (L 3) v36 v39) (P9 w7.heap.size rom.vs (L 4) (L 7) v40 (.slice a' rom.vs.length c'))) := by
                have hw := HW.out
                rw [hL] at hw
                exact hw.storeB hxb (P9.lcl _ _ _ _ _ _) (P9.lcl _ _ _ _ _ _)
              clear hc
              have g45 := evD (F 9 45 _ rfl rfl)
              have g43 := evD (F 7 43 _ rfl rfl)
              clear F G
              go_simp
              refine hK0 _ ⟨_, _, _, _, _, _, _, _, _, _, rfl, d1, d2, d5, d6, d8, (fun _ => rfl), (fun q => ⟨lmono (m3 q).1, lmono (m3 q).2⟩), (fun q => lmono (m9 q)), (fun q => ⟨lmono (m7 q).1, lmono (m7 q).2⟩), (fun _ => lmono p7), HW2⟩
            · rintro L vs w' hall ⟨v36, v37, v38, v39, v40, v41, v42, v43, v44, v45, rfl, d1, d2, d5, d6, d8, d10, m3, m9, m7, m11, HW⟩
              have HE : Hid (∃ r1 r2, Tw w7.heap.size w' w5.heap.size rom (.slice sa rom.sl.length sc) rom.ks rom.vs r1 r2 ∧ Wx (fun k => k = w5.heap.size ∨ w7.heap.size ≤ k) w7 w') := by
                have hw := HW.out
                have l0 := hall 0 (by decide)
                have l3 := hall 3 (by decide)
                have l4 := hall 4 (by decide)
                have l7 := hall 7 (by decide)
                have l9 := hall 9 (by decide)
                have l11 := hall 11 (by decide)
                rw [l0, l3, l4, l7, l9, l11] at hw
                obtain ⟨XA, XB, e1, e2, e3, e4⟩ := hw.ex
                exact ⟨v39, v43, ⟨hw.bo, (e3.2 rfl).2.1, (e4.2 rfl).2.1, fun g hg hc => e1 g ((e3.2 rfl).2.2 g hg) ((e4.2 rfl).2.2 g hc), hxb, hw.low.size⟩, hw.low⟩
              clear d1 d2 d5 d6 d8 d10 m3 m9 m7 m11 HW
              simp only [puts]
              go_simp
              go_step
              go_meet
              exact ⟨rfl, HE.out⟩
          case rest =>
            obtain ⟨rfl, HT⟩ := hcut
            obtain ⟨w8, hw8⟩ : ∃ x, x = wc := ⟨_, rfl⟩
            subst hw8
            have hB8 : Below w.heap.size w w8 := by
              obtain ⟨_, _, _, hx⟩ := HT.out
              exact HB7.out.trans (hx.below (fun k hk => by have := HB.out.size; omega) HB7.out.size)
            have hbx : ∀ b q u, b < w5.heap.size → w5.cell? ⟨b, q, none⟩ = some u → w8.cell? ⟨b, q, none⟩ = some u := fun b q u hb hc => by
              obtain ⟨_, _, _, hx⟩ := HT.out
              have c6 := (HX.out.2.cell (p := ⟨b, q, none⟩) hb).trans hc
              have c7 := (HY.out.cell (p := ⟨b, q, none⟩) (by show b < _; omega)).trans c6
              exact hx.cell (by omega) c7
            have y0 := hbx _ _ _ (by omega) k0
            have y1 := hbx _ _ _ (by omega) k1
            have y2 := hbx _ _ _ (by omega) k2
            have y3 := hbx _ _ _ (by omega) k3
            have z0 := hbx _ _ _ (by omega) t0
            have z1 := hbx _ _ _ (by omega) t1
            have z2 := hbx _ _ _ (by omega) t2
            have z3 := hbx _ _ _ (by omega) t3
            have HB8 := hide_p hB8
            clear hbx hB8 k0 k1 k2 k3 t0 t1 t2 t3
            obtain ⟨r1, r2, htw, _⟩ := HT.out
            have HTz := hide_p htw
            clear htw HT HBO HS1 HS2
            cases hp : placeM rom.ks kk with
            | none =>
              have HPN := hide_p hp
              rw [show plN none = -1 from rfl]
              by_cases hv0 : nv.K = 0
              · have HE : Hid (res = (0, (rs.map Rr.om).set j { rom with ks := rom.ks, vs := rom.vs })) := by
                  show res = _
                  rw [(HM4.out.1 hp).1 hv0, set_same (rs.map Rr.om) j rom (by rw [List.getElem?_map, HRJ.out]; rfl)]
                have HLv : Hid (rom.vs.length = rom.ks.length) := hvl
                have HWt : Hid (1 + rom.ks.length + rom.sl.length + usedR rs ≤ lim + (1 + rom.ks.length + rom.sl.length)) := by have := HV.out.hu; show _ ≤ _; omega
                have HBz : Hid (Below w.heap.size w w8) := HB8
                rw [hv0] at z0
                clear HM4 HPN hp hv0
                go_upto_region 18 with fail
                obtain ⟨a1, c1, er1⟩ := owns_form HTz.out.o1
                obtain ⟨a2, c2, er2⟩ := owns_form HTz.out.o2
                subst er1
                subst er2
                have hsz8 : w5.heap.size < w8.heap.size := HTz.out.bo.lt
                obtain ⟨i0, hi0, hz0, hz1, hz2⟩ := objInfo
                obtain ⟨a0, cap, hR, _, a0c, hown, hsrc, hcp⟩ := cp_ask2 HV.out HBz.out
                have HOWN := hide_p hown
                have HSRC := hide_p hsrc
                have HCP := hide_p hcp
                have hdb : db < w.heap.size := HV.out.lt db HV.out.qd
                have hdb8 : db < w8.heap.size := by have := HBz.out.size; omega
                have hfd : w8.frozen? ⟨db, 0, none⟩ = false := (HBz.out.frozen hdb).trans (HV.out.free 0)
                clear hown hsrc hcp hR
                obtain ⟨n, hn⟩ : ∃ n, n = rs.length := ⟨_, rfl⟩
                have HNN := hide_p hn
                rw [← hn] at HSRC HCP a0c hlen hjl2
                clear hn
                go_wp2_with (at_builtin; refine wpList_append_src _ rfl _ _ 29 rfl w.heap.size 39 i0 _ 10 136 Tryz.underlying29 hi0 hz0 hz1 hz2 rfl (by decide) _ 0 [] rfl HOWN.out _ n (rC rs) rfl HSRC.out (by unfold maxLen; omega) (by omega) (by have := HBz.out.size; simp; omega) ?_)
                intro a3 c3 w9 q1 q2 q3
                obtain ⟨k9, low9⟩ := HCP.out w9 a3 c3 q1 q2
                obtain ⟨g, rfl, hg1, hg2, hgf, hgc⟩ := cpd_g k9 (by omega)
                have hg8 : w8.heap.size ≤ g := by
                  rcases q3 with q | q
                  · have e : g = w8.heap.size := by simpa [Value.ownBlock] using q
                    omega
                  · have e : g = w8.heap.size + 1 := by simpa [Value.ownBlock] using q
                    omega
                have y := fun q hq => hgc j _ HRJ.out q hq
                have m0 : w9.cell? ⟨g, j * 10, none⟩ = some (.int .i64 rom.k) := y 0 (by omega)
                have m1 : w9.cell? ⟨g, j * 10 + 1, none⟩ = some (.slice ka rom.ks.length kc) := y 1 (by omega)
                have m2 : w9.cell? ⟨g, j * 10 + 2, none⟩ = some (.slice va rom.vs.length vc) := y 2 (by omega)
                have m3 : w9.cell? ⟨g, j * 10 + 3, none⟩ = some (.int .i64 rom.M.K) := y 3 (by omega)
                have m4 : w9.cell? ⟨g, j * 10 + 4, none⟩ = some (.int .u64 rom.M.N) := y 4 (by omega)
                have m5 : w9.cell? ⟨g, j * 10 + 5, none⟩ = some (.string rom.M.S) := y 5 (by omega)
                have m6 : w9.cell? ⟨g, j * 10 + 6, none⟩ = some (.int .i64 rom.M.O) := y 6 (by omega)
                have m7 : w9.cell? ⟨g, j * 10 + 7, none⟩ = some (.int .i64 rom.a) := y 7 (by omega)
                have m8 : w9.cell? ⟨g, j * 10 + 8, none⟩ = some (.int .i64 rom.b) := y 8 (by omega)
                have m9 : w9.cell? ⟨g, j * 10 + 9, none⟩ = some (.slice sa rom.sl.length sc) := y 9 (by omega)
                have bo := HTz.out.bo.below low9
                have n0 : w9.cell? ⟨w5.heap.size, 0, none⟩ = some (.int .i64 rom.k) := bo.c 0 (by omega)
                have n1 : w9.cell? ⟨w5.heap.size, 1, none⟩ = some (.slice a1 rom.ks.length c1) := bo.c 1 (by omega)
                have n2 : w9.cell? ⟨w5.heap.size, 2, none⟩ = some (.slice a2 rom.vs.length c2) := bo.c 2 (by omega)
                have n3 : w9.cell? ⟨w5.heap.size, 3, none⟩ = some (.int .i64 rom.M.K) := bo.c 3 (by omega)
                have n4 : w9.cell? ⟨w5.heap.size, 4, none⟩ = some (.int .u64 rom.M.N) := bo.c 4 (by omega)
                have n5 : w9.cell? ⟨w5.heap.size, 5, none⟩ = some (.string rom.M.S) := bo.c 5 (by omega)
                have n6 : w9.cell? ⟨w5.heap.size, 6, none⟩ = some (.int .i64 rom.M.O) := bo.c 6 (by omega)
                have n7 : w9.cell? ⟨w5.heap.size, 7, none⟩ = some (.int .i64 rom.a) := bo.c 7 (by omega)
                have n8 : w9.cell? ⟨w5.heap.size, 8, none⟩ = some (.int .i64 rom.b) := bo.c 8 (by omega)
                have n9 : w9.cell? ⟨w5.heap.size, 9, none⟩ = some (.slice sa rom.sl.length sc) := bo.c 9 (by omega)
                have mdb : w9.cell? ⟨db, 0, none⟩ = some (.slice a0 n cap) := (low9.cell hdb8).trans a0c
                have mfd : w9.frozen? ⟨db, 0, none⟩ = false := (low9.frozen hdb8).trans hfd
                have hgd : g ≠ db := by omega
                have hgx2 : g ≠ w5.heap.size := by omega
                have hdx : db ≠ w5.heap.size := by have := HB.out.size; omega
                have HRP : Hid (∀ w4 : World, w4.heap = (((((((((((w9.setCell ⟨db, 0, none⟩ (.slice (some ⟨g, 0, none⟩) n c3)).setCell ⟨g, j * 10, none⟩ (.int .i64 rom.k)).setCell ⟨g, j * 10 + 1, none⟩ (.slice a1 rom.ks.length c1)).setCell ⟨g, j * 10 + 2, none⟩ (.slice a2 rom.vs.length c2)).setCell ⟨g, j * 10 + 3, none⟩ (.int .i64 rom.M.K)).setCell ⟨g, j * 10 + 4, none⟩ (.int .u64 rom.M.N)).setCell ⟨g, j * 10 + 5, none⟩ (.string rom.M.S)).setCell ⟨g, j * 10 + 6, none⟩ (.int .i64 rom.M.O)).setCell ⟨g, j * 10 + 7, none⟩ (.int .i64 rom.a)).setCell ⟨g, j * 10 + 8, none⟩ (.int .i64 rom.b)).setCell ⟨g, j * 10 + 9, none⟩ (.slice sa rom.sl.length sc)).heap → w4.os = w9.os → w4.tape = w9.tape → w4.output = w9.output → RP w db lim ((rs.map Rr.om).set j { rom with ks := rom.ks, vs := rom.vs }) Q w4) := fun w4 e1 e2 e3 e4 => by
                  have hlow : Below w.heap.size w w9 := k9.low
                  obtain ⟨ho1, ho2⟩ := HV.out.old hlow HRJ.out
                  have b1 : ∀ x, (Value.slice a1 rom.ks.length c1).ownBlock = some x → w.heap.size ≤ x ∧ x < w8.heap.size := fun x hx => by
                    have := World.ownsRow.lt HTz.out.o1 x hx
                    have := HTz.out.lt
                    have := HB.out.size
                    omega
                  have b2 : ∀ x, (Value.slice a2 rom.vs.length c2).ownBlock = some x → w.heap.size ≤ x ∧ x < w8.heap.size := fun x hx => by
                    have := World.ownsRow.lt HTz.out.o2 x hx
                    have := HTz.out.lt
                    have := HB.out.size
                    omega
                  have h9s := low9.size
                  refine Sld.lay (w1 := w8) (r' := (⟨{ rom with ks := rom.ks, vs := rom.vs }, .slice a1 rom.ks.length c1, .slice a2 rom.vs.length c2, (.slice sa rom.sl.length sc)⟩ : Rr)) HV.out HRJ.out ?_ ?_ k9 hg8 ?_ (by rw [← HNN.out]; exact e1) e2 e3 e4
                  · have := HWt.out
                    have h1 : ((⟨{ rom with ks := rom.ks, vs := rom.vs }, .slice a1 rom.ks.length c1, .slice a2 rom.vs.length c2, (.slice sa rom.sl.length sc)⟩ : Rr)).om.wt = 1 + rom.ks.length + rom.sl.length := rfl
                    have h2 : (⟨rom, (.slice ka rom.ks.length kc), (.slice va rom.vs.length vc), (.slice sa rom.sl.length sc)⟩ : Rr).om.wt = 1 + rom.ks.length + rom.sl.length := rfl
                    omega
                  · refine ⟨?_, ?_, ho1.s, fun y hy => ?_, HLv.out⟩
                    · have k1 : Vr w8 (.slice a1 rom.ks.length c1) rom.ks := vr_of HTz.out.o1
                      exact k1.wx (Wx.of_below (fun _ => False) low9) (fun _ _ c => c)
                    · have k1 : Vr w8 (.slice a2 rom.vs.length c2) rom.vs := vr_of HTz.out.o2
                      exact k1.wx (Wx.of_below (fun _ => False) low9) (fun _ _ c => c)
                    · rcases hy with hy | hy | hy
                      · have := b1 y hy; exact Or.inr ⟨by omega, by omega⟩
                      · have := b2 y hy; exact Or.inr ⟨by omega, by omega⟩
                      · exact ho1.own y (Or.inr (Or.inr hy))
                  · intro y hy
                    rcases hy with hy | hy | hy
                    · exact (b1 y hy).2
                    · exact (b2 y hy).2
                    · have := ho2 y (Or.inr (Or.inr hy)); have := HBz.out.size; omega
                clear q1 q2 q3 k9 low9 hgc y bo HOWN HSRC HCP a0c hfd HTz
                go_wp2_with fail
                go_region
                all_goals go_wp2
                all_goals go_ret
                all_goals rw [HE.out]
                all_goals refine ⟨rfl, HRP.out _ (heap_drewd _) ?_ ?_ ?_⟩
                all_goals simp only [os_setc, tape_setc, output_setc, os_drewc, tape_drewc, output_drewc]
              · by_cases hu : usedR rs < lim
                · have HE : Hid (res = (0, (rs.map Rr.om).set j { rom with ks := rom.ks ++ [kk], vs := rom.vs ++ [nv] })) := ((HM4.out.1 hp).2 hv0).1 hu
                  have HU : Hid (∀ q, Calls Tryz.prog 44 #[.pointer (some ⟨db, 0, none⟩)] (w8.drewN q) fun e w' => e = .returned (.int .i64 ((usedR rs : Nat) : Int)) ∧ ∃ m, w' = (w8.drewN q).drewN m) := fun q => rused_any ((HV.out.below HB8.out).below (hp_drewN w8 q))
                  have hc1 : w8.cell? ⟨db, 1, none⟩ = some (.int .i64 lim) := (HV.out.below HB8.out).c1
                  have hul : usedR rs ≤ 1048576 := Nat.le_trans HV.out.hu HV.out.hl
                  have hll := HV.out.hl
                  have c2 : ¬ ((usedR rs : Int) + 1 > (lim : Int)) := by omega
                  have HUL := hide_p hu
                  have hvlen : rom.vs.length ≤ 1048576 := by have := hvl.out; omega
                  clear HM4 HPN hp hu
                  obtain ⟨u, huu⟩ : ∃ u, u = usedR rs := ⟨_, rfl⟩
                  have HUU := hide_p huu
                  rw [← huu] at HU hul c2
                  clear huu
                  go_wp2_with fail
                  go_quiet ((go_at_call 44; exact Calls.quiet_of (HU.out _)))
                  obtain ⟨wq, hwq⟩ : ∃ wq, wq = w8.drewN nq := ⟨_, rfl⟩
                  have hbq : Below w8.heap.size w8 wq := by rw [hwq]; exact hp_drewN w8 nq
                  have hBq : w7.heap.size ≤ wq.heap.size := by rw [hwq]; exact HTz.out.le
                  have HTq : Hid (Tw w7.heap.size wq w5.heap.size rom (.slice sa rom.sl.length sc) rom.ks rom.vs r1 r2) := by
                    have ht := HTz.out
                    exact ⟨ht.bo.below hbq, rowStay ht.o1 (fun g hg => hbq.block g (World.ownsRow.lt ht.o1 g hg).2), rowStay ht.o2 (fun g hg => hbq.block g (World.ownsRow.lt ht.o2 g hg).2), ht.ap, ht.lt, hBq⟩
                  have hcq : ∀ p, wq.cell? p = w8.cell? p := fun p => by rw [hwq]; rfl
                  rw [← hcq] at y0 y1 y2 y3 z0 z1 z2 z3 hc1
                  have HBq : Hid (Below w.heap.size w wq) := HB8.out.trans (hbq.mono HB8.out.size)
                  rw [← hwq]
                  clear HU hwq hcq hbq HTz HB8 hc1
                  go_upto_region 17 with fail
                  go_cut [10] (fun t10 wx => t10 = .pointer (some ⟨w5.heap.size, 0, none⟩) ∧ Hid (∃ r1 r2, Tw w7.heap.size wx w5.heap.size rom (.slice sa rom.sl.length sc) (rom.ks ++ [kk]) (rom.vs ++ [nv]) r1 r2 ∧ Wx (fun k => k = w5.heap.size ∨ w7.heap.size ≤ k) wq wx))
                  case first =>
                    refine wp_region_inv2 (by kernel_rfl) [88, 89, 90, 91, 92, 93, 94, 95, 96, 97, 98, 99] (fun L vs w' => ∃ v88 v89 v90 v91 v92 v93 v94 v95 v96 v97 v98 v99, vs = [v88, v89, v90, v91, v92, v93, v94, v95, v96, v97, v98, v99] ∧ (L 0 = true → v88 = .pointer (some ⟨w5.heap.size, 1, none⟩)) ∧ (L 1 = true → v89 = r1) ∧ (L 2 = true → v90 = (.agg #[.int .i64 kk.K, .int .u64 kk.N, .string kk.S, .int .i64 kk.O])) ∧ (L 5 = true → v93 = .pointer (some ⟨w5.heap.size, 2, none⟩)) ∧ (L 6 = true → v94 = r2) ∧ (L 7 = true → v95 = (.agg #[.int .i64 nv.K, .int .u64 nv.N, .string nv.S, .int .i64 nv.O])) ∧ (L 10 = true → v98 = .pointer (some ⟨w5.heap.size, 1, none⟩)) ∧ (L 12 = true → v99 = .pointer (some ⟨w5.heap.size, 2, none⟩)) ∧ (L 4 = true → L 1 = true ∧ L 3 = true) ∧ (L 11 = true → L 4 = true) ∧ (L 9 = true → L 6 = true ∧ L 8 = true) ∧ (L 13 = true → L 9 = true) ∧ Hid (WR w7.heap.size wq w' w5.heap.size rom r1 r2 (.slice sa rom.sl.length sc) (L 11) (L 13) v92 v97 (P17 w7.heap.size r1 rom.ks kk (L 3) (L 4) v91 v92) (P17 w7.heap.size r2 rom.vs nv (L 8) (L 9) v96 v97))) (by kernel_rfl) (by decide) (by intro x hx; simp at hx; simp; omega) ?_ ⟨?_, ?_, ?_, ?_, ?_, ?_, ?_, ?_, ?_, ?_, ?_, ?_, ?_, ?_, trivial⟩ ?_
                    · have ht := HTq.out
                      exact ⟨_, _, _, _, _, _, _, _, _, _, _, _, rfl, fun q => by (cases q), fun q => by (cases q), fun q => by (cases q), fun q => by (cases q), fun q => by (cases q), fun q => by (cases q), fun q => by (cases q), fun q => by (cases q), fun q => by (cases q), fun q => by (cases q), fun q => by (cases q), fun q => by (cases q),
                        ⟨ht.bo.below ((Below.refl _ wq).drew), Wx.of_below _ ((Below.refl _ wq).drew), fun k => r1.ownBlock = some k, fun k => r2.ownBlock = some k, fun k h1 h2 => ht.ap k h1 h2, fun k hk => by
                          rcases hk with c | c
                          · exact World.ownsRow.lt ht.o1 k c
                          · exact World.ownsRow.lt ht.o2 k c, ⟨fun _ => ⟨rowStay ht.o1 (fun _ _ => rfl), fun _ hg => hg⟩, fun q => by (cases q), fun q => by (cases q)⟩, ⟨fun _ => ⟨rowStay ht.o2 (fun _ _ => rfl), fun _ hg => hg⟩, fun q => by (cases q), fun q => by (cases q)⟩⟩⟩
                    · rintro A L vs w' F G ⟨v88, v89, v90, v91, v92, v93, v94, v95, v96, v97, v98, v99, rfl, d0, d1, d2, d5, d6, d7, d10, d12, mA, sA, mB, sB, HW⟩ hL hdep K' hK hK0
                      have g10 : A.tmps[10]?.getD undef = .pointer (some ⟨w5.heap.size, 0, none⟩) := evD ((G 10 (by decide)).trans rfl)
                      clear F G
                      go_simp
                      refine hK 0 88 _ w' rfl ⟨_, _, _, _, _, _, _, _, _, _, _, _, rfl, (fun _ => rfl), d1, d2, d5, d6, d7, d10, d12, (fun q => ⟨lmono (mA q).1, lmono (mA q).2⟩), (fun q => lmono (sA q)), (fun q => ⟨lmono (mB q).1, lmono (mB q).2⟩), (fun q => lmono (sB q)), HW⟩
                    · rintro A L vs w' F G ⟨v88, v89, v90, v91, v92, v93, v94, v95, v96, v97, v98, v99, rfl, d0, d1, d2, d5, d6, d7, d10, d12, mA, sA, mB, sB, HW⟩ hL hdep K' hK hK0
                      have p0 : L 0 = true := hdep { on := 0, ground := Ground.data } (by simp) rfl
                      have hs : L 11 = false := by
                        cases q : L 11 with
                        | false => rfl
                        | true => exact absurd (mA (sA q)).1 (by rw [hL]; decide)
                      have c1 : w'.cell? ⟨w5.heap.size, 1, none⟩ = some r1 := by
                        have := HW.out.bo.c 1 (by omega)
                        rw [hs] at this
                        exact this
                      have q := d0 p0
                      subst q
                      have g88 := evD (F 0 88 _ rfl rfl)
                      clear F G
                      go_simp
                      refine hK 1 89 _ w' rfl ⟨_, _, _, _, _, _, _, _, _, _, _, _, rfl, (fun _ => rfl), (fun _ => rfl), d2, d5, d6, d7, d10, d12, (fun q => ⟨lmono (mA q).1, lmono (mA q).2⟩), (fun q => lmono (sA q)), (fun q => ⟨lmono (mB q).1, lmono (mB q).2⟩), (fun q => lmono (sB q)), HW⟩
                    · rintro A L vs w' F G ⟨v88, v89, v90, v91, v92, v93, v94, v95, v96, v97, v98, v99, rfl, d0, d1, d2, d5, d6, d7, d10, d12, mA, sA, mB, sB, HW⟩ hL hdep K' hK hK0
                      have b0 := HW.out.low.cell (by omega) y0
                      have b1 := HW.out.low.cell (by omega) y1
                      have b2 := HW.out.low.cell (by omega) y2
                      have b3 := HW.out.low.cell (by omega) y3
                      have g6 : A.tmps[6]?.getD undef = .pointer (some ⟨w.heap.size, 0, none⟩) := evD ((G 6 (by decide)).trans rfl)
                      clear F G
                      go_simp
                      refine hK 2 90 _ w' rfl ⟨_, _, _, _, _, _, _, _, _, _, _, _, rfl, d0, d1, (fun _ => rfl), d5, d6, d7, d10, d12, (fun q => ⟨lmono (mA q).1, lmono (mA q).2⟩), (fun q => lmono (sA q)), (fun q => ⟨lmono (mB q).1, lmono (mB q).2⟩), (fun q => lmono (sB q)), HW⟩
                    · rintro A L vs w' F G ⟨v88, v89, v90, v91, v92, v93, v94, v95, v96, v97, v98, v99, rfl, d0, d1, d2, d5, d6, d7, d10, d12, mA, sA, mB, sB, HW⟩ hL hdep K' hK hK0
                      have p2 : L 2 = true := hdep { on := 2, ground := Ground.data } (by simp) rfl
                      have ha : L 4 = false := by
                        cases q : L 4 with
                        | false => rfl
                        | true => exact absurd (mA q).2 (by rw [hL]; decide)
                      have hs : L 11 = false := by
                        cases q : L 11 with
                        | false => rfl
                        | true => exact absurd (sA q) (by rw [ha]; decide)
                      have hB : w7.heap.size ≤ w'.heap.size := Nat.le_trans hBq HW.out.low.size
                      have HW2 : Hid (WR w7.heap.size wq (w'.alloc (.cells #[.int .i64 kk.K, .int .u64 kk.N, .string kk.S, .int .i64 kk.O] 37)) w5.heap.size rom r1 r2 (.slice sa rom.sl.length sc) (L 11) (L 13) v92 v97 (P17 w7.heap.size r1 rom.ks kk true (L 4) (.slice (some ⟨w'.heap.size, 0, none⟩) 1 1) v92) (P17 w7.heap.size r2 rom.vs nv (L 8) (L 9) v96 v97)) := by
                        have hw := WR.stepA (n1' := v92) (PA' := P17 w7.heap.size r1 rom.ks kk true false (.slice (some ⟨w'.heap.size, 0, none⟩) 1 1) v92) HW.out hxb hB hs (P17.lcl _ _ _ _ _ _ _ _) (w' := (w'.alloc (.cells #[.int .i64 kk.K, .int .u64 kk.N, .string kk.S, .int .i64 kk.O] 37))) (fun X hX hb => P17.bs (hX.1 ha) (fun k hk => (hb k hk).2))
                        rw [ha]
                        exact hw
                      have q := d2 p2
                      subst q
                      have g90 := evD (F 2 90 _ rfl rfl)
                      clear F G
                      go_simp
                      refine hK 3 91 _ _ rfl ⟨_, _, _, _, _, _, _, _, _, _, _, _, rfl, d0, d1, (fun _ => rfl), d5, d6, d7, d10, d12, (fun q => ⟨lmono (mA q).1, lmono (mA q).2⟩), (fun q => lmono (sA q)), (fun q => ⟨lmono (mB q).1, lmono (mB q).2⟩), (fun q => lmono (sB q)), HW2⟩
                    · rintro A L vs w' F G ⟨v88, v89, v90, v91, v92, v93, v94, v95, v96, v97, v98, v99, rfl, d0, d1, d2, d5, d6, d7, d10, d12, mA, sA, mB, sB, HW⟩ hL hdep K' hK hK0
                      have p1 : L 1 = true := hdep { on := 1, ground := Ground.data } (by simp) rfl
                      have p3 : L 3 = true := hdep { on := 3, ground := Ground.data } (by simp) rfl
                      have hs : L 11 = false := by
                        cases q : L 11 with
                        | false => rfl
                        | true => exact absurd (sA q) (by rw [hL]; decide)
                      have hB : w7.heap.size ≤ w'.heap.size := Nat.le_trans hBq HW.out.low.size
                      obtain ⟨hrow, g, hg, hblk⟩ : w'.ownsRow w7.heap.size 37 4 r1 rom.ks.length (vC rom.ks) ∧ ∃ g, v91 = .slice (some ⟨g, 0, none⟩) 1 1 ∧ w'.heap[g]? = some (.cells #[.int .i64 kk.K, .int .u64 kk.N, .string kk.S, .int .i64 kk.O] 37 (0, 0)) := by
                        obtain ⟨XA, XB, _, _, hpa, _⟩ := HW.out.ex
                        obtain ⟨g, e1, _, _, e4⟩ := hpa.2.1 p3 hL
                        exact ⟨(hpa.1 hL).1, g, e1, e4⟩
                      have q := d1 p1
                      subst q
                      refine step_append_src w' rfl (.tmp 89) (.tmp 91) 33 rfl w7.heap.size 37 i1 _ 4 40 Tryz.underlying33 hi1 hy0 hy1 hy2 rfl (by decide) v89 rom.ks.length (vC rom.ks) (F 1 89 _ rfl rfl) hrow v91 1 kk.cells (F 3 91 _ rfl rfl) (by rw [hg]; exact src_one hblk rfl (by intro u hu; simp at hu; rcases hu with rfl | rfl | rfl | rfl <;> rfl)) (by unfold maxLen; omega) (by omega) hB ?_
                      intro a' c' w2 q1 q2 q3
                      have HW2 : Hid (WR w7.heap.size wq w2 w5.heap.size rom v89 r2 (.slice sa rom.sl.length sc) (L 11) (L 13) (.slice a' (rom.ks.length + 1) c') v97 (P17 w7.heap.size v89 rom.ks kk (L 3) true v91 (.slice a' (rom.ks.length + 1) c')) (P17 w7.heap.size r2 rom.vs nv (L 8) (L 9) v96 v97)) := by
                        have hw := WR.stepA (n1' := (.slice a' (rom.ks.length + 1) c')) (PA' := P17 w7.heap.size v89 rom.ks kk true true v91 (.slice a' (rom.ks.length + 1) c')) HW.out hxb hB hs (P17.lcl _ _ _ _ _ _ _ _) (w' := w2) (fun X hX hb => P17.app (hX.1 hL) q1 q2 q3)
                        rw [p3]
                        exact hw
                      refine hK 4 92 _ w2 rfl ⟨_, _, _, _, _, _, _, _, _, _, _, _, rfl, d0, (fun _ => rfl), d2, d5, d6, d7, d10, d12, (fun _ => ⟨lmono p1, lmono p3⟩), (fun q => lmono (sA q)), (fun q => ⟨lmono (mB q).1, lmono (mB q).2⟩), (fun q => lmono (sB q)), HW2⟩
                    · rintro A L vs w' F G ⟨v88, v89, v90, v91, v92, v93, v94, v95, v96, v97, v98, v99, rfl, d0, d1, d2, d5, d6, d7, d10, d12, mA, sA, mB, sB, HW⟩ hL hdep K' hK hK0
                      have g10 : A.tmps[10]?.getD undef = .pointer (some ⟨w5.heap.size, 0, none⟩) := evD ((G 10 (by decide)).trans rfl)
                      clear F G
                      go_simp
                      refine hK 5 93 _ w' rfl ⟨_, _, _, _, _, _, _, _, _, _, _, _, rfl, d0, d1, d2, (fun _ => rfl), d6, d7, d10, d12, (fun q => ⟨lmono (mA q).1, lmono (mA q).2⟩), (fun q => lmono (sA q)), (fun q => ⟨lmono (mB q).1, lmono (mB q).2⟩), (fun q => lmono (sB q)), HW⟩
                    · rintro A L vs w' F G ⟨v88, v89, v90, v91, v92, v93, v94, v95, v96, v97, v98, v99, rfl, d0, d1, d2, d5, d6, d7, d10, d12, mA, sA, mB, sB, HW⟩ hL hdep K' hK hK0
                      have p5 : L 5 = true := hdep { on := 5, ground := Ground.data } (by simp) rfl
                      have hs : L 13 = false := by
                        cases q : L 13 with
                        | false => rfl
                        | true => exact absurd (mB (sB q)).1 (by rw [hL]; decide)
                      have c1 : w'.cell? ⟨w5.heap.size, 2, none⟩ = some r2 := by
                        have := HW.out.bo.c 2 (by omega)
                        rw [hs] at this
                        exact this
                      have q := d5 p5
                      subst q
                      have g93 := evD (F 5 93 _ rfl rfl)
                      clear F G
                      go_simp
                      refine hK 6 94 _ w' rfl ⟨_, _, _, _, _, _, _, _, _, _, _, _, rfl, d0, d1, d2, (fun _ => rfl), (fun _ => rfl), d7, d10, d12, (fun q => ⟨lmono (mA q).1, lmono (mA q).2⟩), (fun q => lmono (sA q)), (fun q => ⟨lmono (mB q).1, lmono (mB q).2⟩), (fun q => lmono (sB q)), HW⟩
                    · rintro A L vs w' F G ⟨v88, v89, v90, v91, v92, v93, v94, v95, v96, v97, v98, v99, rfl, d0, d1, d2, d5, d6, d7, d10, d12, mA, sA, mB, sB, HW⟩ hL hdep K' hK hK0
                      have b0 := HW.out.low.cell (by omega) z0
                      have b1 := HW.out.low.cell (by omega) z1
                      have b2 := HW.out.low.cell (by omega) z2
                      have b3 := HW.out.low.cell (by omega) z3
                      have g7 : A.tmps[7]?.getD undef = .pointer (some ⟨w.heap.size + 1, 0, none⟩) := evD ((G 7 (by decide)).trans rfl)
                      clear F G
                      go_simp
                      refine hK 7 95 _ w' rfl ⟨_, _, _, _, _, _, _, _, _, _, _, _, rfl, d0, d1, d2, d5, d6, (fun _ => rfl), d10, d12, (fun q => ⟨lmono (mA q).1, lmono (mA q).2⟩), (fun q => lmono (sA q)), (fun q => ⟨lmono (mB q).1, lmono (mB q).2⟩), (fun q => lmono (sB q)), HW⟩
                    · rintro A L vs w' F G ⟨v88, v89, v90, v91, v92, v93, v94, v95, v96, v97, v98, v99, rfl, d0, d1, d2, d5, d6, d7, d10, d12, mA, sA, mB, sB, HW⟩ hL hdep K' hK hK0
                      have p7 : L 7 = true := hdep { on := 7, ground := Ground.data } (by simp) rfl
                      have ha : L 9 = false := by
                        cases q : L 9 with
                        | false => rfl
                        | true => exact absurd (mB q).2 (by rw [hL]; decide)
                      have hs : L 13 = false := by
                        cases q : L 13 with
                        | false => rfl
                        | true => exact absurd (sB q) (by rw [ha]; decide)
                      have hB : w7.heap.size ≤ w'.heap.size := Nat.le_trans hBq HW.out.low.size
                      have HW2 : Hid (WR w7.heap.size wq (w'.alloc (.cells #[.int .i64 nv.K, .int .u64 nv.N, .string nv.S, .int .i64 nv.O] 37)) w5.heap.size rom r1 r2 (.slice sa rom.sl.length sc) (L 11) (L 13) v92 v97 (P17 w7.heap.size r1 rom.ks kk (L 3) (L 4) v91 v92) (P17 w7.heap.size r2 rom.vs nv true (L 9) (.slice (some ⟨w'.heap.size, 0, none⟩) 1 1) v97)) := by
                        have hw := WR.stepB (n2' := v97) (PB' := P17 w7.heap.size r2 rom.vs nv true false (.slice (some ⟨w'.heap.size, 0, none⟩) 1 1) v97) HW.out hxb hB hs (P17.lcl _ _ _ _ _ _ _ _) (w' := (w'.alloc (.cells #[.int .i64 nv.K, .int .u64 nv.N, .string nv.S, .int .i64 nv.O] 37))) (fun X hX hb => P17.bs (hX.1 ha) (fun k hk => (hb k hk).2))
                        rw [ha]
                        exact hw
                      have q := d7 p7
                      subst q
                      have g95 := evD (F 7 95 _ rfl rfl)
                      clear F G
                      go_simp
                      refine hK 8 96 _ _ rfl ⟨_, _, _, _, _, _, _, _, _, _, _, _, rfl, d0, d1, d2, d5, d6, (fun _ => rfl), d10, d12, (fun q => ⟨lmono (mA q).1, lmono (mA q).2⟩), (fun q => lmono (sA q)), (fun q => ⟨lmono (mB q).1, lmono (mB q).2⟩), (fun q => lmono (sB q)), HW2⟩
                    · rintro A L vs w' F G ⟨v88, v89, v90, v91, v92, v93, v94, v95, v96, v97, v98, v99, rfl, d0, d1, d2, d5, d6, d7, d10, d12, mA, sA, mB, sB, HW⟩ hL hdep K' hK hK0
                      have p6 : L 6 = true := hdep { on := 6, ground := Ground.data } (by simp) rfl
                      have p8 : L 8 = true := hdep { on := 8, ground := Ground.data } (by simp) rfl
                      have hs : L 13 = false := by
                        cases q : L 13 with
                        | false => rfl
                        | true => exact absurd (sB q) (by rw [hL]; decide)
                      have hB : w7.heap.size ≤ w'.heap.size := Nat.le_trans hBq HW.out.low.size
                      obtain ⟨hrow, g, hg, hblk⟩ : w'.ownsRow w7.heap.size 37 4 r2 rom.vs.length (vC rom.vs) ∧ ∃ g, v96 = .slice (some ⟨g, 0, none⟩) 1 1 ∧ w'.heap[g]? = some (.cells #[.int .i64 nv.K, .int .u64 nv.N, .string nv.S, .int .i64 nv.O] 37 (0, 0)) := by
                        obtain ⟨XA, XB, _, _, _, hpa⟩ := HW.out.ex
                        obtain ⟨g, e1, _, _, e4⟩ := hpa.2.1 p8 hL
                        exact ⟨(hpa.1 hL).1, g, e1, e4⟩
                      have q := d6 p6
                      subst q
                      refine step_append_src w' rfl (.tmp 94) (.tmp 96) 33 rfl w7.heap.size 37 i1 _ 4 40 Tryz.underlying33 hi1 hy0 hy1 hy2 rfl (by decide) v94 rom.vs.length (vC rom.vs) (F 6 94 _ rfl rfl) hrow v96 1 nv.cells (F 8 96 _ rfl rfl) (by rw [hg]; exact src_one hblk rfl (by intro u hu; simp at hu; rcases hu with rfl | rfl | rfl | rfl <;> rfl)) (by unfold maxLen; omega) (by omega) hB ?_
                      intro a' c' w2 q1 q2 q3
                      have HW2 : Hid (WR w7.heap.size wq w2 w5.heap.size rom r1 v94 (.slice sa rom.sl.length sc) (L 11) (L 13) v92 (.slice a' (rom.vs.length + 1) c') (P17 w7.heap.size r1 rom.ks kk (L 3) (L 4) v91 v92) (P17 w7.heap.size v94 rom.vs nv (L 8) true v96 (.slice a' (rom.vs.length + 1) c'))) := by
                        have hw := WR.stepB (n2' := (.slice a' (rom.vs.length + 1) c')) (PB' := P17 w7.heap.size v94 rom.vs nv true true v96 (.slice a' (rom.vs.length + 1) c')) HW.out hxb hB hs (P17.lcl _ _ _ _ _ _ _ _) (w' := w2) (fun X hX hb => P17.app (hX.1 hL) q1 q2 q3)
                        rw [p8]
                        exact hw
                      refine hK 9 97 _ w2 rfl ⟨_, _, _, _, _, _, _, _, _, _, _, _, rfl, d0, d1, d2, d5, (fun _ => rfl), d7, d10, d12, (fun q => ⟨lmono (mA q).1, lmono (mA q).2⟩), (fun q => lmono (sA q)), (fun _ => ⟨lmono p6, lmono p8⟩), (fun q => lmono (sB q)), HW2⟩
                    · rintro A L vs w' F G ⟨v88, v89, v90, v91, v92, v93, v94, v95, v96, v97, v98, v99, rfl, d0, d1, d2, d5, d6, d7, d10, d12, mA, sA, mB, sB, HW⟩ hL hdep K' hK hK0
                      have g10 : A.tmps[10]?.getD undef = .pointer (some ⟨w5.heap.size, 0, none⟩) := evD ((G 10 (by decide)).trans rfl)
                      clear F G
                      go_simp
                      refine hK 10 98 _ w' rfl ⟨_, _, _, _, _, _, _, _, _, _, _, _, rfl, d0, d1, d2, d5, d6, d7, (fun _ => rfl), d12, (fun q => ⟨lmono (mA q).1, lmono (mA q).2⟩), (fun q => lmono (sA q)), (fun q => ⟨lmono (mB q).1, lmono (mB q).2⟩), (fun q => lmono (sB q)), HW⟩
                    · rintro A L vs w' F G ⟨v88, v89, v90, v91, v92, v93, v94, v95, v96, v97, v98, v99, rfl, d0, d1, d2, d5, d6, d7, d10, d12, mA, sA, mB, sB, HW⟩ hL hdep K' hK hK0
                      have p10 : L 10 = true := hdep { on := 10, ground := Ground.data } (by simp) rfl
                      have p4 : L 4 = true := hdep { on := 4, ground := Ground.data } (by simp) rfl
                      obtain ⟨a', c', hv9⟩ : ∃ a c, v92 = .slice a (rom.ks.length + 1) c := by
                        obtain ⟨XA, XB, _, _, hpa, _⟩ := HW.out.ex
                        obtain ⟨a, c, e⟩ := (hpa.2.2 p4).1
                        exact ⟨a, c, by rw [e, List.length_append]; rfl⟩
                      have hc := HW.out.bo.c 1 (by omega)
                      have hf := HW.out.bo.f 1
                      rw [hL] at hc
                      have hc1 : w'.cell? ⟨w5.heap.size, 1, none⟩ = some r1 := hc
                      have q := d10 p10
                      subst q
                      subst hv9
                      have HW2 : Hid (WR w7.heap.size wq (w'.setCell ⟨w5.heap.size, 1, none⟩ (.slice a' (rom.ks.length + 1) c')) w5.heap.size rom r1 r2 (.slice sa rom.sl.length sc) true (L 13) (.slice a' (rom.ks.length + 1) c') v97 (P17 w7.heap.size r1 rom.ks kk (L 3) (L 4) v91 (.slice a' (rom.ks.length + 1) c')) (P17 w7.heap.size r2 rom.vs nv (L 8) (L 9) v96 v97)) := by
                        have hw := HW.out
                        rw [hL] at hw
                        exact hw.storeA hxb (P17.lcl _ _ _ _ _ _ _ _) (P17.lcl _ _ _ _ _ _ _ _)
                      clear hc
                      have g98 := evD (F 10 98 _ rfl rfl)
                      have g92 := evD (F 4 92 _ rfl rfl)
                      clear F G
                      go_simp
                      refine hK0 _ ⟨_, _, _, _, _, _, _, _, _, _, _, _, rfl, d0, d1, d2, d5, d6, d7, (fun _ => rfl), d12, (fun q => ⟨lmono (mA q).1, lmono (mA q).2⟩), (fun _ => lmono p4), (fun q => ⟨lmono (mB q).1, lmono (mB q).2⟩), (fun q => lmono (sB q)), HW2⟩
                    · rintro A L vs w' F G ⟨v88, v89, v90, v91, v92, v93, v94, v95, v96, v97, v98, v99, rfl, d0, d1, d2, d5, d6, d7, d10, d12, mA, sA, mB, sB, HW⟩ hL hdep K' hK hK0
                      have g10 : A.tmps[10]?.getD undef = .pointer (some ⟨w5.heap.size, 0, none⟩) := evD ((G 10 (by decide)).trans rfl)
                      clear F G
                      go_simp
                      refine hK 11 99 _ w' rfl ⟨_, _, _, _, _, _, _, _, _, _, _, _, rfl, d0, d1, d2, d5, d6, d7, d10, (fun _ => rfl), (fun q => ⟨lmono (mA q).1, lmono (mA q).2⟩), (fun q => lmono (sA q)), (fun q => ⟨lmono (mB q).1, lmono (mB q).2⟩), (fun q => lmono (sB q)), HW⟩
                    · rintro A L vs w' F G ⟨v88, v89, v90, v91, v92, v93, v94, v95, v96, v97, v98, v99, rfl, d0, d1, d2, d5, d6, d7, d10, d12, mA, sA, mB, sB, HW⟩ hL hdep K' hK hK0
                      have p12 : L 12 = true := hdep { on := 12, ground := Ground.data } (by simp) rfl
                      have p9 : L 9 = true := hdep { on := 9, ground := Ground.data } (by simp) rfl
                      obtain ⟨a', c', hv9⟩ : ∃ a c, v97 = .slice a (rom.vs.length + 1) c := by
                        obtain ⟨XA, XB, _, _, _, hpa⟩ := HW.out.ex
                        obtain ⟨a, c, e⟩ := (hpa.2.2 p9).1
                        exact ⟨a, c, by rw [e, List.length_append]; rfl⟩
                      have hc := HW.out.bo.c 2 (by omega)
                      have hf := HW.out.bo.f 2
                      rw [hL] at hc
                      have hc1 : w'.cell? ⟨w5.heap.size, 2, none⟩ = some r2 := hc
                      have q := d12 p12
                      subst q
                      subst hv9
                      have HW2 : Hid (WR w7.heap.size wq (w'.setCell ⟨w5.heap.size, 2, none⟩ (.slice a' (rom.vs.length + 1) c')) w5.heap.size rom r1 r2 (.slice sa rom.sl.length sc) (L 11) true v92 (.slice a' (rom.vs.length + 1) c') (P17 w7.heap.size r1 rom.ks kk (L 3) (L 4) v91 v92) (P17 w7.heap.size r2 rom.vs nv (L 8) (L 9) v96 (.slice a' (rom.vs.length + 1) c'))) := by
                        have hw := HW.out
                        rw [hL] at hw
                        exact hw.storeB hxb (P17.lcl _ _ _ _ _ _ _ _) (P17.lcl _ _ _ _ _ _ _ _)
                      clear hc
                      have g99 := evD (F 11 99 _ rfl rfl)
                      have g97 := evD (F 9 97 _ rfl rfl)
                      clear F G
                      go_simp
                      refine hK0 _ ⟨_, _, _, _, _, _, _, _, _, _, _, _, rfl, d0, d1, d2, d5, d6, d7, d10, (fun _ => rfl), (fun q => ⟨lmono (mA q).1, lmono (mA q).2⟩), (fun q => lmono (sA q)), (fun q => ⟨lmono (mB q).1, lmono (mB q).2⟩), (fun _ => lmono p9), HW2⟩
                    · rintro L vs w' hall ⟨v88, v89, v90, v91, v92, v93, v94, v95, v96, v97, v98, v99, rfl, d0, d1, d2, d5, d6, d7, d10, d12, mA, sA, mB, sB, HW⟩
                      have HE2 : Hid (∃ r1 r2, Tw w7.heap.size w' w5.heap.size rom (.slice sa rom.sl.length sc) (rom.ks ++ [kk]) (rom.vs ++ [nv]) r1 r2 ∧ Wx (fun k => k = w5.heap.size ∨ w7.heap.size ≤ k) wq w') := by
                        have hw := HW.out
                        rw [hall 3 (by decide), hall 4 (by decide), hall 8 (by decide), hall 9 (by decide), hall 11 (by decide), hall 13 (by decide)] at hw
                        obtain ⟨XA, XB, e1, e2, e3, e4⟩ := hw.ex
                        exact ⟨v92, v97, ⟨hw.bo, (e3.2.2 rfl).2.1, (e4.2.2 rfl).2.1, fun g hg hc => e1 g ((e3.2.2 rfl).2.2 g hg) ((e4.2.2 rfl).2.2 g hc), hxb, Nat.le_trans hBq hw.low.size⟩, hw.low⟩
                      clear d0 d1 d2 d5 d6 d7 d10 d12 mA sA mB sB HW
                      simp only [puts]
                      go_simp
                      go_step
                      go_meet
                      exact ⟨rfl, HE2.out⟩
                  case rest =>
                    obtain ⟨rfl, HT⟩ := hcut
                    obtain ⟨wz, hwz⟩ : ∃ x, x = wc := ⟨_, rfl⟩
                    subst hwz
                    have HBz : Hid (Below w.heap.size w wz) := by
                      obtain ⟨_, _, _, hx⟩ := HT.out
                      exact HBq.out.trans (hx.below (fun k hk => by have := HB.out.size; omega) HBq.out.size)
                    clear HTq HBq y0 y1 y2 y3 z0 z1 z2 z3
                    obtain ⟨r1', r2', htw, _⟩ := HT.out
                    have HTz := hide_p htw
                    clear htw HT
                    have HLv : Hid ((rom.vs ++ [nv]).length = (rom.ks ++ [kk]).length) := by show _ = _; rw [List.length_append, List.length_append, hvl.out]; rfl
                    have HWt : Hid (1 + (rom.ks ++ [kk]).length + rom.sl.length + usedR rs ≤ lim + (1 + rom.ks.length + rom.sl.length)) := by
                      have := HUL.out
                      show _ ≤ _
                      rw [List.length_append, List.length_singleton]
                      omega
                    obtain ⟨ks2, hks2⟩ : ∃ l, l = rom.ks ++ [kk] := ⟨_, rfl⟩
                    obtain ⟨vs2, hvs2⟩ : ∃ l, l = rom.vs ++ [nv] := ⟨_, rfl⟩
                    rw [← hks2, ← hvs2] at HTz HE HLv
                    rw [← hks2] at HWt
                    clear hks2 hvs2
                    go_upto_region 18 with fail
                    obtain ⟨a1, c1, er1⟩ := owns_form HTz.out.o1
                    obtain ⟨a2, c2, er2⟩ := owns_form HTz.out.o2
                    subst er1
                    subst er2
                    have hsz8 : w5.heap.size < wz.heap.size := HTz.out.bo.lt
                    obtain ⟨i0, hi0, hz0, hz1, hz2⟩ := objInfo
                    obtain ⟨a0, cap, hR, _, a0c, hown, hsrc, hcp⟩ := cp_ask2 HV.out HBz.out
                    have HOWN := hide_p hown
                    have HSRC := hide_p hsrc
                    have HCP := hide_p hcp
                    have hdb : db < w.heap.size := HV.out.lt db HV.out.qd
                    have hdb8 : db < wz.heap.size := by have := HBz.out.size; omega
                    have hfd : wz.frozen? ⟨db, 0, none⟩ = false := (HBz.out.frozen hdb).trans (HV.out.free 0)
                    clear hown hsrc hcp hR
                    obtain ⟨n, hn⟩ : ∃ n, n = rs.length := ⟨_, rfl⟩
                    have HNN := hide_p hn
                    rw [← hn] at HSRC HCP a0c hlen hjl2
                    clear hn
                    go_wp2_with (at_builtin; refine wpList_append_src _ rfl _ _ 29 rfl w.heap.size 39 i0 _ 10 136 Tryz.underlying29 hi0 hz0 hz1 hz2 rfl (by decide) _ 0 [] rfl HOWN.out _ n (rC rs) rfl HSRC.out (by unfold maxLen; omega) (by omega) (by have := HBz.out.size; simp; omega) ?_)
                    intro a3 c3 w9 q1 q2 q3
                    obtain ⟨k9, low9⟩ := HCP.out w9 a3 c3 q1 q2
                    obtain ⟨g, rfl, hg1, hg2, hgf, hgc⟩ := cpd_g k9 (by omega)
                    have hg8 : wz.heap.size ≤ g := by
                      rcases q3 with q | q
                      · have e : g = wz.heap.size := by simpa [Value.ownBlock] using q
                        omega
                      · have e : g = wz.heap.size + 1 := by simpa [Value.ownBlock] using q
                        omega
                    have y := fun q hq => hgc j _ HRJ.out q hq
                    have m0 : w9.cell? ⟨g, j * 10, none⟩ = some (.int .i64 rom.k) := y 0 (by omega)
                    have m1 : w9.cell? ⟨g, j * 10 + 1, none⟩ = some (.slice ka rom.ks.length kc) := y 1 (by omega)
                    have m2 : w9.cell? ⟨g, j * 10 + 2, none⟩ = some (.slice va rom.vs.length vc) := y 2 (by omega)
                    have m3 : w9.cell? ⟨g, j * 10 + 3, none⟩ = some (.int .i64 rom.M.K) := y 3 (by omega)
                    have m4 : w9.cell? ⟨g, j * 10 + 4, none⟩ = some (.int .u64 rom.M.N) := y 4 (by omega)
                    have m5 : w9.cell? ⟨g, j * 10 + 5, none⟩ = some (.string rom.M.S) := y 5 (by omega)
                    have m6 : w9.cell? ⟨g, j * 10 + 6, none⟩ = some (.int .i64 rom.M.O) := y 6 (by omega)
                    have m7 : w9.cell? ⟨g, j * 10 + 7, none⟩ = some (.int .i64 rom.a) := y 7 (by omega)
                    have m8 : w9.cell? ⟨g, j * 10 + 8, none⟩ = some (.int .i64 rom.b) := y 8 (by omega)
                    have m9 : w9.cell? ⟨g, j * 10 + 9, none⟩ = some (.slice sa rom.sl.length sc) := y 9 (by omega)
                    have bo := HTz.out.bo.below low9
                    have n0 : w9.cell? ⟨w5.heap.size, 0, none⟩ = some (.int .i64 rom.k) := bo.c 0 (by omega)
                    have n1 : w9.cell? ⟨w5.heap.size, 1, none⟩ = some (.slice a1 ks2.length c1) := bo.c 1 (by omega)
                    have n2 : w9.cell? ⟨w5.heap.size, 2, none⟩ = some (.slice a2 vs2.length c2) := bo.c 2 (by omega)
                    have n3 : w9.cell? ⟨w5.heap.size, 3, none⟩ = some (.int .i64 rom.M.K) := bo.c 3 (by omega)
                    have n4 : w9.cell? ⟨w5.heap.size, 4, none⟩ = some (.int .u64 rom.M.N) := bo.c 4 (by omega)
                    have n5 : w9.cell? ⟨w5.heap.size, 5, none⟩ = some (.string rom.M.S) := bo.c 5 (by omega)
                    have n6 : w9.cell? ⟨w5.heap.size, 6, none⟩ = some (.int .i64 rom.M.O) := bo.c 6 (by omega)
                    have n7 : w9.cell? ⟨w5.heap.size, 7, none⟩ = some (.int .i64 rom.a) := bo.c 7 (by omega)
                    have n8 : w9.cell? ⟨w5.heap.size, 8, none⟩ = some (.int .i64 rom.b) := bo.c 8 (by omega)
                    have n9 : w9.cell? ⟨w5.heap.size, 9, none⟩ = some (.slice sa rom.sl.length sc) := bo.c 9 (by omega)
                    have mdb : w9.cell? ⟨db, 0, none⟩ = some (.slice a0 n cap) := (low9.cell hdb8).trans a0c
                    have mfd : w9.frozen? ⟨db, 0, none⟩ = false := (low9.frozen hdb8).trans hfd
                    have hgd : g ≠ db := by omega
                    have hgx2 : g ≠ w5.heap.size := by omega
                    have hdx : db ≠ w5.heap.size := by have := HB.out.size; omega
                    have HRP : Hid (∀ w4 : World, w4.heap = (((((((((((w9.setCell ⟨db, 0, none⟩ (.slice (some ⟨g, 0, none⟩) n c3)).setCell ⟨g, j * 10, none⟩ (.int .i64 rom.k)).setCell ⟨g, j * 10 + 1, none⟩ (.slice a1 ks2.length c1)).setCell ⟨g, j * 10 + 2, none⟩ (.slice a2 vs2.length c2)).setCell ⟨g, j * 10 + 3, none⟩ (.int .i64 rom.M.K)).setCell ⟨g, j * 10 + 4, none⟩ (.int .u64 rom.M.N)).setCell ⟨g, j * 10 + 5, none⟩ (.string rom.M.S)).setCell ⟨g, j * 10 + 6, none⟩ (.int .i64 rom.M.O)).setCell ⟨g, j * 10 + 7, none⟩ (.int .i64 rom.a)).setCell ⟨g, j * 10 + 8, none⟩ (.int .i64 rom.b)).setCell ⟨g, j * 10 + 9, none⟩ (.slice sa rom.sl.length sc)).heap → w4.os = w9.os → w4.tape = w9.tape → w4.output = w9.output → RP w db lim ((rs.map Rr.om).set j { rom with ks := ks2, vs := vs2 }) Q w4) := fun w4 e1 e2 e3 e4 => by
                      have hlow : Below w.heap.size w w9 := k9.low
                      obtain ⟨ho1, ho2⟩ := HV.out.old hlow HRJ.out
                      have b1 : ∀ x, (Value.slice a1 ks2.length c1).ownBlock = some x → w.heap.size ≤ x ∧ x < wz.heap.size := fun x hx => by
                        have := World.ownsRow.lt HTz.out.o1 x hx
                        have := HTz.out.lt
                        have := HB.out.size
                        omega
                      have b2 : ∀ x, (Value.slice a2 vs2.length c2).ownBlock = some x → w.heap.size ≤ x ∧ x < wz.heap.size := fun x hx => by
                        have := World.ownsRow.lt HTz.out.o2 x hx
                        have := HTz.out.lt
                        have := HB.out.size
                        omega
                      have h9s := low9.size
                      refine Sld.lay (w1 := wz) (r' := (⟨{ rom with ks := ks2, vs := vs2 }, .slice a1 ks2.length c1, .slice a2 vs2.length c2, (.slice sa rom.sl.length sc)⟩ : Rr)) HV.out HRJ.out ?_ ?_ k9 hg8 ?_ (by rw [← HNN.out]; exact e1) e2 e3 e4
                      · have := HWt.out
                        have h1 : ((⟨{ rom with ks := ks2, vs := vs2 }, .slice a1 ks2.length c1, .slice a2 vs2.length c2, (.slice sa rom.sl.length sc)⟩ : Rr)).om.wt = 1 + ks2.length + rom.sl.length := rfl
                        have h2 : (⟨rom, (.slice ka rom.ks.length kc), (.slice va rom.vs.length vc), (.slice sa rom.sl.length sc)⟩ : Rr).om.wt = 1 + rom.ks.length + rom.sl.length := rfl
                        omega
                      · refine ⟨?_, ?_, ho1.s, fun y hy => ?_, HLv.out⟩
                        · have k1 : Vr wz (.slice a1 ks2.length c1) ks2 := vr_of HTz.out.o1
                          exact k1.wx (Wx.of_below (fun _ => False) low9) (fun _ _ c => c)
                        · have k1 : Vr wz (.slice a2 vs2.length c2) vs2 := vr_of HTz.out.o2
                          exact k1.wx (Wx.of_below (fun _ => False) low9) (fun _ _ c => c)
                        · rcases hy with hy | hy | hy
                          · have := b1 y hy; exact Or.inr ⟨by omega, by omega⟩
                          · have := b2 y hy; exact Or.inr ⟨by omega, by omega⟩
                          · exact ho1.own y (Or.inr (Or.inr hy))
                      · intro y hy
                        rcases hy with hy | hy | hy
                        · exact (b1 y hy).2
                        · exact (b2 y hy).2
                        · have := ho2 y (Or.inr (Or.inr hy)); have := HBz.out.size; omega
                    clear q1 q2 q3 k9 low9 hgc y bo HOWN HSRC HCP a0c hfd HTz
                    go_wp2_with fail
                    go_region
                    all_goals go_wp2
                    all_goals go_ret
                    all_goals rw [HE.out]
                    all_goals refine ⟨rfl, HRP.out _ (heap_drewd _) ?_ ?_ ?_⟩
                    all_goals simp only [os_setc, tape_setc, output_setc, os_drewc, tape_drewc, output_drewc]
                · have HE : Hid (res = (2, rs.map Rr.om)) := ((HM4.out.1 hp).2 hv0).2 hu
                  have HU : Hid (∀ q, Calls Tryz.prog 44 #[.pointer (some ⟨db, 0, none⟩)] (w8.drewN q) fun e w' => e = .returned (.int .i64 ((usedR rs : Nat) : Int)) ∧ ∃ m, w' = (w8.drewN q).drewN m) := fun q => rused_any ((HV.out.below HB8.out).below (hp_drewN w8 q))
                  have hc1 : w8.cell? ⟨db, 1, none⟩ = some (.int .i64 lim) := (HV.out.below HB8.out).c1
                  have hul : usedR rs ≤ 1048576 := Nat.le_trans HV.out.hu HV.out.hl
                  have hll := HV.out.hl
                  have c2 : ((usedR rs : Int) + 1 > (lim : Int)) := by omega
                  have HRQ : Hid (∀ q, RP w db lim (rs.map Rr.om) Q (w8.drewN q)) := fun q => HV.out.rp (HB8.out.trans ((hp_drewN w8 q).mono HB8.out.size))
                  clear HM4 HPN hp HTz HV HB8
                  generalize usedR rs = u at *
                  go_wp2_with fail
                  go_quiet ((go_at_call 44; exact Calls.quiet_of (HU.out _)))
                  clear HU
                  go_wp2
                  go_ret
                  rw [HE.out]
                  exact ⟨rfl, HRQ.out nq⟩
            | some p =>
              have HPN := hide_p hp
              have hpl : p < rom.ks.length := by
                unfold placeM at hp
                exact (List.findIdx?_eq_some_iff_getElem.1 hp).1
              rw [show plN (some p) = (p : Int) from rfl]
              by_cases hv0 : nv.K = 0
              · have HE : Hid (res = (0, (rs.map Rr.om).set j { rom with ks := rom.ks.eraseIdx p, vs := rom.vs.eraseIdx p })) := (HM4.out.2 p hp).1 hv0
                have hpv : p < rom.vs.length := by have := hvl.out; omega
                have hvlen : rom.vs.length ≤ 1048576 := by have := hvl.out; omega
                obtain ⟨a1, c1, er1⟩ := owns_form HTz.out.o1
                obtain ⟨a2, c2, er2⟩ := owns_form HTz.out.o2
                subst er1
                subst er2
                obtain ⟨g1, _, e1', _, _⟩ := HTz.out.o1.form (by omega)
                simp only [Value.slice.injEq, true_and] at e1'
                obtain ⟨e1', e3'⟩ := e1'
                subst e1'
                clear e3'
                obtain ⟨g2, _, e2', _, _⟩ := HTz.out.o2.form (by omega)
                simp only [Value.slice.injEq, true_and] at e2'
                obtain ⟨e2', e3'⟩ := e2'
                subst e2'
                clear e3'
                have hcap1 : rom.ks.length ≤ c1 ∧ c1 ≤ 9223372036854775807 := owns_cap HTz.out.o1
                have hcap2 : rom.vs.length ≤ c2 ∧ c2 ≤ 9223372036854775807 := owns_cap HTz.out.o2
                have hB8 : w7.heap.size ≤ w8.heap.size := HTz.out.le
                rw [hv0] at z0
                have hpg : (p : Int) ≥ 0 := by omega
                have hpn : ¬ ((p : Int) < 0) := by omega
                have hpc1 : (p : Int) ≤ (c1 : Int) := by omega
                have hpc2 : (p : Int) ≤ (c2 : Int) := by omega
                have hpk : (p : Int) + 1 ≤ (rom.ks.length : Int) := by omega
                have hwp : IntKind.i64.wrap ((p : Int) + 1) = (p : Int) + 1 := by rw [IntKind.wrap_i64]; omega
                have hpk2 : (p : Int) + 1 ≤ (rom.vs.length : Int) := by omega
                clear HM4 HPN hp
                go_upto_region 12 with fail
                go_cut [10] (fun t10 wx => t10 = .pointer (some ⟨w5.heap.size, 0, none⟩) ∧ Hid (∃ r1 r2, Tw w7.heap.size wx w5.heap.size rom (.slice sa rom.sl.length sc) (rom.ks.eraseIdx p) (rom.vs.eraseIdx p) r1 r2 ∧ Wx (fun k => k = w5.heap.size ∨ w7.heap.size ≤ k) w8 wx))
                case first =>
                  refine wp_region_inv2 (by kernel_rfl) [51, 52, 53, 54, 55, 56, 57, 58, 59, 60, 61, 62, 63, 64, 65, 66, 67, 68, 69, 70, 71, 72] (fun L vs w' => ∃ v51 v52 v53 v54 v55 v56 v57 v58 v59 v60 v61 v62 v63 v64 v65 v66 v67 v68 v69 v70 v71 v72, vs = [v51, v52, v53, v54, v55, v56, v57, v58, v59, v60, v61, v62, v63, v64, v65, v66, v67, v68, v69, v70, v71, v72] ∧ (L 0 = true → v51 = .pointer (some ⟨w5.heap.size, 1, none⟩)) ∧ (L 1 = true → v52 = (.slice (some ⟨g1, 0, none⟩) rom.ks.length c1)) ∧ (L 2 = true → v53 = (.int .i64 (p : Int))) ∧ (L 3 = true → v54 = (.slice (some ⟨g1, 0, none⟩) p c1)) ∧ (L 4 = true → v55 = .pointer (some ⟨w5.heap.size, 1, none⟩)) ∧ (L 5 = true → v56 = (.slice (some ⟨g1, 0, none⟩) rom.ks.length c1)) ∧ (L 6 = true → v57 = (.int .i64 (p : Int))) ∧ (L 7 = true → v58 = (.int .i64 ((p : Int) + 1))) ∧ (L 8 = true → v59 = (.slice (if c1 = p + 1 then some ⟨g1, 0, none⟩ else some ⟨g1, (p + 1) * 4, none⟩) (rom.ks.length - (p + 1)) (c1 - (p + 1)))) ∧ (L 10 = true → v61 = .pointer (some ⟨w5.heap.size, 2, none⟩)) ∧ (L 11 = true → v62 = (.slice (some ⟨g2, 0, none⟩) rom.vs.length c2)) ∧ (L 12 = true → v63 = (.int .i64 (p : Int))) ∧ (L 13 = true → v64 = (.slice (some ⟨g2, 0, none⟩) p c2)) ∧ (L 14 = true → v65 = .pointer (some ⟨w5.heap.size, 2, none⟩)) ∧ (L 15 = true → v66 = (.slice (some ⟨g2, 0, none⟩) rom.vs.length c2)) ∧ (L 16 = true → v67 = (.int .i64 (p : Int))) ∧ (L 17 = true → v68 = (.int .i64 ((p : Int) + 1))) ∧ (L 18 = true → v69 = (.slice (if c2 = p + 1 then some ⟨g2, 0, none⟩ else some ⟨g2, (p + 1) * 4, none⟩) (rom.vs.length - (p + 1)) (c2 - (p + 1)))) ∧ (L 20 = true → v71 = .pointer (some ⟨w5.heap.size, 1, none⟩)) ∧ (L 22 = true → v72 = .pointer (some ⟨w5.heap.size, 2, none⟩)) ∧ (L 9 = true → L 3 = true ∧ L 8 = true) ∧ (L 3 = true → L 1 = true ∧ L 2 = true) ∧ (L 8 = true → L 5 = true ∧ L 7 = true) ∧ (L 21 = true → L 9 = true) ∧ (L 19 = true → L 13 = true ∧ L 18 = true) ∧ (L 13 = true → L 11 = true ∧ L 12 = true) ∧ (L 18 = true → L 15 = true ∧ L 17 = true) ∧ (L 23 = true → L 19 = true) ∧ Hid (WR w7.heap.size w8 w' w5.heap.size rom (.slice (some ⟨g1, 0, none⟩) rom.ks.length c1) (.slice (some ⟨g2, 0, none⟩) rom.vs.length c2) (.slice sa rom.sl.length sc) (L 21) (L 23) v60 v70 (P12 w7.heap.size (.slice (some ⟨g1, 0, none⟩) rom.ks.length c1) rom.ks p (L 9) v60) (P12 w7.heap.size (.slice (some ⟨g2, 0, none⟩) rom.vs.length c2) rom.vs p (L 19) v70))) (by kernel_rfl) (by decide) (by intro x hx; simp at hx; simp; omega) ?_ ⟨?_, ?_, ?_, ?_, ?_, ?_, ?_, ?_, ?_, ?_, ?_, ?_, ?_, ?_, ?_, ?_, ?_, ?_, ?_, ?_, ?_, ?_, ?_, ?_, trivial⟩ ?_
                  · have ht := HTz.out
                    exact ⟨_, _, _, _, _, _, _, _, _, _, _, _, _, _, _, _, _, _, _, _, _, _, rfl, fun q => by (cases q), fun q => by (cases q), fun q => by (cases q), fun q => by (cases q), fun q => by (cases q), fun q => by (cases q), fun q => by (cases q), fun q => by (cases q), fun q => by (cases q), fun q => by (cases q), fun q => by (cases q), fun q => by (cases q), fun q => by (cases q), fun q => by (cases q), fun q => by (cases q), fun q => by (cases q), fun q => by (cases q), fun q => by (cases q), fun q => by (cases q), fun q => by (cases q), fun q => by (cases q), fun q => by (cases q), fun q => by (cases q), fun q => by (cases q), fun q => by (cases q), fun q => by (cases q), fun q => by (cases q), fun q => by (cases q),
                      ⟨ht.bo.below ((Below.refl _ w8).drew), Wx.of_below _ ((Below.refl _ w8).drew), fun k => k = g1, fun k => k = g2, fun k h1 h2 => ht.ap k (by rw [h1]; rfl) (by rw [h2]; rfl), fun k hk => by
                        rcases hk with c | c
                        · rw [c]; exact World.ownsRow.lt ht.o1 g1 rfl
                        · rw [c]; exact World.ownsRow.lt ht.o2 g2 rfl, ⟨fun _ => ⟨rowStay ht.o1 (fun _ _ => rfl), fun g hg => by simpa [Value.ownBlock] using hg.symm⟩, fun q => by (cases q)⟩, ⟨fun _ => ⟨rowStay ht.o2 (fun _ _ => rfl), fun g hg => by simpa [Value.ownBlock] using hg.symm⟩, fun q => by (cases q)⟩⟩⟩
                  · rintro A L vs w' F G ⟨v51, v52, v53, v54, v55, v56, v57, v58, v59, v60, v61, v62, v63, v64, v65, v66, v67, v68, v69, v70, v71, v72, rfl, d0, d1, d2, d3, d4, d5, d6, d7, d8, d10, d11, d12, d13, d14, d15, d16, d17, d18, d20, d22, mA, nA1, nA2, sA, mB, nB1, nB2, sB, HW⟩ hL hdep K' hK hK0
                    have g10 : A.tmps[10]?.getD undef = .pointer (some ⟨w5.heap.size, 0, none⟩) := evD ((G 10 (by decide)).trans rfl)
                    clear F G
                    go_simp
                    refine hK 0 51 _ w' rfl ⟨_, _, _, _, _, _, _, _, _, _, _, _, _, _, _, _, _, _, _, _, _, _, rfl, (fun _ => rfl), d1, d2, d3, d4, d5, d6, d7, d8, d10, d11, d12, d13, d14, d15, d16, d17, d18, d20, d22, (fun q => ⟨lmono (mA q).1, lmono (mA q).2⟩), (fun q => ⟨lmono (nA1 q).1, lmono (nA1 q).2⟩), (fun q => ⟨lmono (nA2 q).1, lmono (nA2 q).2⟩), (fun q => lmono (sA q)), (fun q => ⟨lmono (mB q).1, lmono (mB q).2⟩), (fun q => ⟨lmono (nB1 q).1, lmono (nB1 q).2⟩), (fun q => ⟨lmono (nB2 q).1, lmono (nB2 q).2⟩), (fun q => lmono (sB q)), HW⟩
                  · rintro A L vs w' F G ⟨v51, v52, v53, v54, v55, v56, v57, v58, v59, v60, v61, v62, v63, v64, v65, v66, v67, v68, v69, v70, v71, v72, rfl, d0, d1, d2, d3, d4, d5, d6, d7, d8, d10, d11, d12, d13, d14, d15, d16, d17, d18, d20, d22, mA, nA1, nA2, sA, mB, nB1, nB2, sB, HW⟩ hL hdep K' hK hK0
                    have p0 : L 0 = true := hdep { on := 0, ground := Ground.data } (by simp) rfl
                    have hs : L 21 = false := by
                      cases q : L 21 with
                      | false => rfl
                      | true => exact absurd (nA1 (mA (sA q)).1).1 (by rw [hL]; decide)
                    have cc : w'.cell? ⟨w5.heap.size, 1, none⟩ = some (.slice (some ⟨g1, 0, none⟩) rom.ks.length c1) := by
                      have := HW.out.bo.c 1 (by omega)
                      rw [hs] at this
                      exact this
                    have q := d0 p0
                    subst q
                    have g51 := evD (F 0 51 _ rfl rfl)
                    clear F G
                    go_simp
                    refine hK 1 52 _ w' rfl ⟨_, _, _, _, _, _, _, _, _, _, _, _, _, _, _, _, _, _, _, _, _, _, rfl, (fun _ => rfl), (fun _ => rfl), d2, d3, d4, d5, d6, d7, d8, d10, d11, d12, d13, d14, d15, d16, d17, d18, d20, d22, (fun q => ⟨lmono (mA q).1, lmono (mA q).2⟩), (fun q => ⟨lmono (nA1 q).1, lmono (nA1 q).2⟩), (fun q => ⟨lmono (nA2 q).1, lmono (nA2 q).2⟩), (fun q => lmono (sA q)), (fun q => ⟨lmono (mB q).1, lmono (mB q).2⟩), (fun q => ⟨lmono (nB1 q).1, lmono (nB1 q).2⟩), (fun q => ⟨lmono (nB2 q).1, lmono (nB2 q).2⟩), (fun q => lmono (sB q)), HW⟩
                  · rintro A L vs w' F G ⟨v51, v52, v53, v54, v55, v56, v57, v58, v59, v60, v61, v62, v63, v64, v65, v66, v67, v68, v69, v70, v71, v72, rfl, d0, d1, d2, d3, d4, d5, d6, d7, d8, d10, d11, d12, d13, d14, d15, d16, d17, d18, d20, d22, mA, nA1, nA2, sA, mB, nB1, nB2, sB, HW⟩ hL hdep K' hK hK0
                    have g11 : A.tmps[11]?.getD undef = .int .i64 (p : Int) := evD ((G 11 (by decide)).trans rfl)
                    clear F G
                    go_simp
                    refine hK 2 53 _ w' rfl ⟨_, _, _, _, _, _, _, _, _, _, _, _, _, _, _, _, _, _, _, _, _, _, rfl, d0, d1, (fun _ => rfl), d3, d4, d5, d6, d7, d8, d10, d11, d12, d13, d14, d15, d16, d17, d18, d20, d22, (fun q => ⟨lmono (mA q).1, lmono (mA q).2⟩), (fun q => ⟨lmono (nA1 q).1, lmono (nA1 q).2⟩), (fun q => ⟨lmono (nA2 q).1, lmono (nA2 q).2⟩), (fun q => lmono (sA q)), (fun q => ⟨lmono (mB q).1, lmono (mB q).2⟩), (fun q => ⟨lmono (nB1 q).1, lmono (nB1 q).2⟩), (fun q => ⟨lmono (nB2 q).1, lmono (nB2 q).2⟩), (fun q => lmono (sB q)), HW⟩
                  · rintro A L vs w' F G ⟨v51, v52, v53, v54, v55, v56, v57, v58, v59, v60, v61, v62, v63, v64, v65, v66, v67, v68, v69, v70, v71, v72, rfl, d0, d1, d2, d3, d4, d5, d6, d7, d8, d10, d11, d12, d13, d14, d15, d16, d17, d18, d20, d22, mA, nA1, nA2, sA, mB, nB1, nB2, sB, HW⟩ hL hdep K' hK hK0
                    have p1 : L 1 = true := hdep { on := 1, ground := Ground.data } (by simp) rfl
                    have p2 : L 2 = true := hdep { on := 2, ground := Ground.data } (by simp) rfl
                    have q := d1 p1
                    subst q
                    have q := d2 p2
                    subst q
                    have g52 := evD (F 1 52 _ rfl rfl)
                    have g53 := evD (F 2 53 _ rfl rfl)
                    clear F G
                    go_simp
                    refine hK 3 54 _ w' rfl ⟨_, _, _, _, _, _, _, _, _, _, _, _, _, _, _, _, _, _, _, _, _, _, rfl, d0, (fun _ => rfl), (fun _ => rfl), (fun _ => rfl), d4, d5, d6, d7, d8, d10, d11, d12, d13, d14, d15, d16, d17, d18, d20, d22, (fun q => ⟨lmono (mA q).1, lmono (mA q).2⟩), (fun _ => ⟨lmono p1, lmono p2⟩), (fun q => ⟨lmono (nA2 q).1, lmono (nA2 q).2⟩), (fun q => lmono (sA q)), (fun q => ⟨lmono (mB q).1, lmono (mB q).2⟩), (fun q => ⟨lmono (nB1 q).1, lmono (nB1 q).2⟩), (fun q => ⟨lmono (nB2 q).1, lmono (nB2 q).2⟩), (fun q => lmono (sB q)), HW⟩
                  · rintro A L vs w' F G ⟨v51, v52, v53, v54, v55, v56, v57, v58, v59, v60, v61, v62, v63, v64, v65, v66, v67, v68, v69, v70, v71, v72, rfl, d0, d1, d2, d3, d4, d5, d6, d7, d8, d10, d11, d12, d13, d14, d15, d16, d17, d18, d20, d22, mA, nA1, nA2, sA, mB, nB1, nB2, sB, HW⟩ hL hdep K' hK hK0
                    have g10 : A.tmps[10]?.getD undef = .pointer (some ⟨w5.heap.size, 0, none⟩) := evD ((G 10 (by decide)).trans rfl)
                    clear F G
                    go_simp
                    refine hK 4 55 _ w' rfl ⟨_, _, _, _, _, _, _, _, _, _, _, _, _, _, _, _, _, _, _, _, _, _, rfl, d0, d1, d2, d3, (fun _ => rfl), d5, d6, d7, d8, d10, d11, d12, d13, d14, d15, d16, d17, d18, d20, d22, (fun q => ⟨lmono (mA q).1, lmono (mA q).2⟩), (fun q => ⟨lmono (nA1 q).1, lmono (nA1 q).2⟩), (fun q => ⟨lmono (nA2 q).1, lmono (nA2 q).2⟩), (fun q => lmono (sA q)), (fun q => ⟨lmono (mB q).1, lmono (mB q).2⟩), (fun q => ⟨lmono (nB1 q).1, lmono (nB1 q).2⟩), (fun q => ⟨lmono (nB2 q).1, lmono (nB2 q).2⟩), (fun q => lmono (sB q)), HW⟩
                  · rintro A L vs w' F G ⟨v51, v52, v53, v54, v55, v56, v57, v58, v59, v60, v61, v62, v63, v64, v65, v66, v67, v68, v69, v70, v71, v72, rfl, d0, d1, d2, d3, d4, d5, d6, d7, d8, d10, d11, d12, d13, d14, d15, d16, d17, d18, d20, d22, mA, nA1, nA2, sA, mB, nB1, nB2, sB, HW⟩ hL hdep K' hK hK0
                    have p4 : L 4 = true := hdep { on := 4, ground := Ground.data } (by simp) rfl
                    have hs : L 21 = false := by
                      cases q : L 21 with
                      | false => rfl
                      | true => exact absurd (nA2 (mA (sA q)).2).1 (by rw [hL]; decide)
                    have cc : w'.cell? ⟨w5.heap.size, 1, none⟩ = some (.slice (some ⟨g1, 0, none⟩) rom.ks.length c1) := by
                      have := HW.out.bo.c 1 (by omega)
                      rw [hs] at this
                      exact this
                    have q := d4 p4
                    subst q
                    have g55 := evD (F 4 55 _ rfl rfl)
                    clear F G
                    go_simp
                    refine hK 5 56 _ w' rfl ⟨_, _, _, _, _, _, _, _, _, _, _, _, _, _, _, _, _, _, _, _, _, _, rfl, d0, d1, d2, d3, (fun _ => rfl), (fun _ => rfl), d6, d7, d8, d10, d11, d12, d13, d14, d15, d16, d17, d18, d20, d22, (fun q => ⟨lmono (mA q).1, lmono (mA q).2⟩), (fun q => ⟨lmono (nA1 q).1, lmono (nA1 q).2⟩), (fun q => ⟨lmono (nA2 q).1, lmono (nA2 q).2⟩), (fun q => lmono (sA q)), (fun q => ⟨lmono (mB q).1, lmono (mB q).2⟩), (fun q => ⟨lmono (nB1 q).1, lmono (nB1 q).2⟩), (fun q => ⟨lmono (nB2 q).1, lmono (nB2 q).2⟩), (fun q => lmono (sB q)), HW⟩
                  · rintro A L vs w' F G ⟨v51, v52, v53, v54, v55, v56, v57, v58, v59, v60, v61, v62, v63, v64, v65, v66, v67, v68, v69, v70, v71, v72, rfl, d0, d1, d2, d3, d4, d5, d6, d7, d8, d10, d11, d12, d13, d14, d15, d16, d17, d18, d20, d22, mA, nA1, nA2, sA, mB, nB1, nB2, sB, HW⟩ hL hdep K' hK hK0
                    have g11 : A.tmps[11]?.getD undef = .int .i64 (p : Int) := evD ((G 11 (by decide)).trans rfl)
                    clear F G
                    go_simp
                    refine hK 6 57 _ w' rfl ⟨_, _, _, _, _, _, _, _, _, _, _, _, _, _, _, _, _, _, _, _, _, _, rfl, d0, d1, d2, d3, d4, d5, (fun _ => rfl), d7, d8, d10, d11, d12, d13, d14, d15, d16, d17, d18, d20, d22, (fun q => ⟨lmono (mA q).1, lmono (mA q).2⟩), (fun q => ⟨lmono (nA1 q).1, lmono (nA1 q).2⟩), (fun q => ⟨lmono (nA2 q).1, lmono (nA2 q).2⟩), (fun q => lmono (sA q)), (fun q => ⟨lmono (mB q).1, lmono (mB q).2⟩), (fun q => ⟨lmono (nB1 q).1, lmono (nB1 q).2⟩), (fun q => ⟨lmono (nB2 q).1, lmono (nB2 q).2⟩), (fun q => lmono (sB q)), HW⟩
                  · rintro A L vs w' F G ⟨v51, v52, v53, v54, v55, v56, v57, v58, v59, v60, v61, v62, v63, v64, v65, v66, v67, v68, v69, v70, v71, v72, rfl, d0, d1, d2, d3, d4, d5, d6, d7, d8, d10, d11, d12, d13, d14, d15, d16, d17, d18, d20, d22, mA, nA1, nA2, sA, mB, nB1, nB2, sB, HW⟩ hL hdep K' hK hK0
                    have p6 : L 6 = true := hdep { on := 6, ground := Ground.data } (by simp) rfl
                    have q := d6 p6
                    subst q
                    have g57 := evD (F 6 57 _ rfl rfl)
                    clear F G
                    go_simp
                    refine hK 7 58 _ w' rfl ⟨_, _, _, _, _, _, _, _, _, _, _, _, _, _, _, _, _, _, _, _, _, _, rfl, d0, d1, d2, d3, d4, d5, (fun _ => rfl), (fun _ => rfl), d8, d10, d11, d12, d13, d14, d15, d16, d17, d18, d20, d22, (fun q => ⟨lmono (mA q).1, lmono (mA q).2⟩), (fun q => ⟨lmono (nA1 q).1, lmono (nA1 q).2⟩), (fun q => ⟨lmono (nA2 q).1, lmono (nA2 q).2⟩), (fun q => lmono (sA q)), (fun q => ⟨lmono (mB q).1, lmono (mB q).2⟩), (fun q => ⟨lmono (nB1 q).1, lmono (nB1 q).2⟩), (fun q => ⟨lmono (nB2 q).1, lmono (nB2 q).2⟩), (fun q => lmono (sB q)), HW⟩
                  · rintro A L vs w' F G ⟨v51, v52, v53, v54, v55, v56, v57, v58, v59, v60, v61, v62, v63, v64, v65, v66, v67, v68, v69, v70, v71, v72, rfl, d0, d1, d2, d3, d4, d5, d6, d7, d8, d10, d11, d12, d13, d14, d15, d16, d17, d18, d20, d22, mA, nA1, nA2, sA, mB, nB1, nB2, sB, HW⟩ hL hdep K' hK hK0
                    have p5 : L 5 = true := hdep { on := 5, ground := Ground.data } (by simp) rfl
                    have p7 : L 7 = true := hdep { on := 7, ground := Ground.data } (by simp) rfl
                    have q := d5 p5
                    subst q
                    have q := d7 p7
                    subst q
                    have g56 := evD (F 5 56 _ rfl rfl)
                    have g58 := evD (F 7 58 _ rfl rfl)
                    clear F G
                    go_simp
                    refine hK 8 59 _ w' rfl ⟨_, _, _, _, _, _, _, _, _, _, _, _, _, _, _, _, _, _, _, _, _, _, rfl, d0, d1, d2, d3, d4, (fun _ => rfl), d6, (fun _ => rfl), (fun _ => rfl), d10, d11, d12, d13, d14, d15, d16, d17, d18, d20, d22, (fun q => ⟨lmono (mA q).1, lmono (mA q).2⟩), (fun q => ⟨lmono (nA1 q).1, lmono (nA1 q).2⟩), (fun _ => ⟨lmono p5, lmono p7⟩), (fun q => lmono (sA q)), (fun q => ⟨lmono (mB q).1, lmono (mB q).2⟩), (fun q => ⟨lmono (nB1 q).1, lmono (nB1 q).2⟩), (fun q => ⟨lmono (nB2 q).1, lmono (nB2 q).2⟩), (fun q => lmono (sB q)), HW⟩
                  · rintro A L vs w' F G ⟨v51, v52, v53, v54, v55, v56, v57, v58, v59, v60, v61, v62, v63, v64, v65, v66, v67, v68, v69, v70, v71, v72, rfl, d0, d1, d2, d3, d4, d5, d6, d7, d8, d10, d11, d12, d13, d14, d15, d16, d17, d18, d20, d22, mA, nA1, nA2, sA, mB, nB1, nB2, sB, HW⟩ hL hdep K' hK hK0
                    have p3 : L 3 = true := hdep { on := 3, ground := Ground.data } (by simp) rfl
                    have p8 : L 8 = true := hdep { on := 8, ground := Ground.data } (by simp) rfl
                    have hs : L 21 = false := by
                      cases q : L 21 with
                      | false => rfl
                      | true => exact absurd (sA q) (by rw [hL]; decide)
                    have hB : w7.heap.size ≤ w'.heap.size := Nat.le_trans hB8 HW.out.low.size
                    have hrow : w'.ownsRow w7.heap.size 37 4 (.slice (some ⟨g1, 0, none⟩) rom.ks.length c1) rom.ks.length (vC rom.ks) := by
                      obtain ⟨XA, XB, _, _, hpa, _⟩ := HW.out.ex
                      exact (hpa.1 hL).1
                    have hrt := owns_take hrow (Nat.le_of_lt hpl)
                    rw [vC_take] at hrt
                    have hsd := src_drop2 (p := p) hrow
                    have q := d3 p3
                    subst q
                    have q := d8 p8
                    subst q
                    refine step_append_src w' rfl (.tmp 54) (.tmp 59) 33 rfl w7.heap.size 37 i1 _ 4 40 Tryz.underlying33 hi1 hy0 hy1 hy2 rfl (by decide) _ p (vC (rom.ks.take p)) (F 3 54 _ rfl rfl) hrt _ (rom.ks.length - (p + 1)) (vC (rom.ks.drop (p + 1))) (F 8 59 _ rfl rfl) hsd (by unfold maxLen; omega) (by omega) hB ?_
                    intro a' c' w2 q1 q2 q3
                    have HW2 : Hid (WR w7.heap.size w8 w2 w5.heap.size rom (.slice (some ⟨g1, 0, none⟩) rom.ks.length c1) (.slice (some ⟨g2, 0, none⟩) rom.vs.length c2) (.slice sa rom.sl.length sc) (L 21) (L 23) (.slice a' (p + (rom.ks.length - (p + 1))) c') v70 (P12 w7.heap.size (.slice (some ⟨g1, 0, none⟩) rom.ks.length c1) rom.ks p true (.slice a' (p + (rom.ks.length - (p + 1))) c')) (P12 w7.heap.size (.slice (some ⟨g2, 0, none⟩) rom.vs.length c2) rom.vs p (L 19) v70)) := by
                      exact WR.stepA (n1' := (.slice a' (p + (rom.ks.length - (p + 1))) c')) (PA' := P12 w7.heap.size (.slice (some ⟨g1, 0, none⟩) rom.ks.length c1) rom.ks p true (.slice a' (p + (rom.ks.length - (p + 1))) c')) HW.out hxb hB hs (P12.lcl _ _ _ _ _ _) (w' := w2) (fun X hX hb => P12.app hpl (hX.1 hL) q1 q2 q3)
                    refine hK 9 60 _ w2 rfl ⟨_, _, _, _, _, _, _, _, _, _, _, _, _, _, _, _, _, _, _, _, _, _, rfl, d0, d1, d2, (fun _ => rfl), d4, d5, d6, d7, (fun _ => rfl), d10, d11, d12, d13, d14, d15, d16, d17, d18, d20, d22, (fun _ => ⟨lmono p3, lmono p8⟩), (fun q => ⟨lmono (nA1 q).1, lmono (nA1 q).2⟩), (fun q => ⟨lmono (nA2 q).1, lmono (nA2 q).2⟩), (fun q => lmono (sA q)), (fun q => ⟨lmono (mB q).1, lmono (mB q).2⟩), (fun q => ⟨lmono (nB1 q).1, lmono (nB1 q).2⟩), (fun q => ⟨lmono (nB2 q).1, lmono (nB2 q).2⟩), (fun q => lmono (sB q)), HW2⟩
                  · rintro A L vs w' F G ⟨v51, v52, v53, v54, v55, v56, v57, v58, v59, v60, v61, v62, v63, v64, v65, v66, v67, v68, v69, v70, v71, v72, rfl, d0, d1, d2, d3, d4, d5, d6, d7, d8, d10, d11, d12, d13, d14, d15, d16, d17, d18, d20, d22, mA, nA1, nA2, sA, mB, nB1, nB2, sB, HW⟩ hL hdep K' hK hK0
                    have g10 : A.tmps[10]?.getD undef = .pointer (some ⟨w5.heap.size, 0, none⟩) := evD ((G 10 (by decide)).trans rfl)
                    clear F G
                    go_simp
                    refine hK 10 61 _ w' rfl ⟨_, _, _, _, _, _, _, _, _, _, _, _, _, _, _, _, _, _, _, _, _, _, rfl, d0, d1, d2, d3, d4, d5, d6, d7, d8, (fun _ => rfl), d11, d12, d13, d14, d15, d16, d17, d18, d20, d22, (fun q => ⟨lmono (mA q).1, lmono (mA q).2⟩), (fun q => ⟨lmono (nA1 q).1, lmono (nA1 q).2⟩), (fun q => ⟨lmono (nA2 q).1, lmono (nA2 q).2⟩), (fun q => lmono (sA q)), (fun q => ⟨lmono (mB q).1, lmono (mB q).2⟩), (fun q => ⟨lmono (nB1 q).1, lmono (nB1 q).2⟩), (fun q => ⟨lmono (nB2 q).1, lmono (nB2 q).2⟩), (fun q => lmono (sB q)), HW⟩
                  · rintro A L vs w' F G ⟨v51, v52, v53, v54, v55, v56, v57, v58, v59, v60, v61, v62, v63, v64, v65, v66, v67, v68, v69, v70, v71, v72, rfl, d0, d1, d2, d3, d4, d5, d6, d7, d8, d10, d11, d12, d13, d14, d15, d16, d17, d18, d20, d22, mA, nA1, nA2, sA, mB, nB1, nB2, sB, HW⟩ hL hdep K' hK hK0
                    have p10 : L 10 = true := hdep { on := 10, ground := Ground.data } (by simp) rfl
                    have hs : L 23 = false := by
                      cases q : L 23 with
                      | false => rfl
                      | true => exact absurd (nB1 (mB (sB q)).1).1 (by rw [hL]; decide)
                    have cc : w'.cell? ⟨w5.heap.size, 2, none⟩ = some (.slice (some ⟨g2, 0, none⟩) rom.vs.length c2) := by
                      have := HW.out.bo.c 2 (by omega)
                      rw [hs] at this
                      exact this
                    have q := d10 p10
                    subst q
                    have g61 := evD (F 10 61 _ rfl rfl)
                    clear F G
                    go_simp
                    refine hK 11 62 _ w' rfl ⟨_, _, _, _, _, _, _, _, _, _, _, _, _, _, _, _, _, _, _, _, _, _, rfl, d0, d1, d2, d3, d4, d5, d6, d7, d8, (fun _ => rfl), (fun _ => rfl), d12, d13, d14, d15, d16, d17, d18, d20, d22, (fun q => ⟨lmono (mA q).1, lmono (mA q).2⟩), (fun q => ⟨lmono (nA1 q).1, lmono (nA1 q).2⟩), (fun q => ⟨lmono (nA2 q).1, lmono (nA2 q).2⟩), (fun q => lmono (sA q)), (fun q => ⟨lmono (mB q).1, lmono (mB q).2⟩), (fun q => ⟨lmono (nB1 q).1, lmono (nB1 q).2⟩), (fun q => ⟨lmono (nB2 q).1, lmono (nB2 q).2⟩), (fun q => lmono (sB q)), HW⟩
                  · rintro A L vs w' F G ⟨v51, v52, v53, v54, v55, v56, v57, v58, v59, v60, v61, v62, v63, v64, v65, v66, v67, v68, v69, v70, v71, v72, rfl, d0, d1, d2, d3, d4, d5, d6, d7, d8, d10, d11, d12, d13, d14, d15, d16, d17, d18, d20, d22, mA, nA1, nA2, sA, mB, nB1, nB2, sB, HW⟩ hL hdep K' hK hK0
                    have g11 : A.tmps[11]?.getD undef = .int .i64 (p : Int) := evD ((G 11 (by decide)).trans rfl)
                    clear F G
                    go_simp
                    refine hK 12 63 _ w' rfl ⟨_, _, _, _, _, _, _, _, _, _, _, _, _, _, _, _, _, _, _, _, _, _, rfl, d0, d1, d2, d3, d4, d5, d6, d7, d8, d10, d11, (fun _ => rfl), d13, d14, d15, d16, d17, d18, d20, d22, (fun q => ⟨lmono (mA q).1, lmono (mA q).2⟩), (fun q => ⟨lmono (nA1 q).1, lmono (nA1 q).2⟩), (fun q => ⟨lmono (nA2 q).1, lmono (nA2 q).2⟩), (fun q => lmono (sA q)), (fun q => ⟨lmono (mB q).1, lmono (mB q).2⟩), (fun q => ⟨lmono (nB1 q).1, lmono (nB1 q).2⟩), (fun q => ⟨lmono (nB2 q).1, lmono (nB2 q).2⟩), (fun q => lmono (sB q)), HW⟩
                  · rintro A L vs w' F G ⟨v51, v52, v53, v54, v55, v56, v57, v58, v59, v60, v61, v62, v63, v64, v65, v66, v67, v68, v69, v70, v71, v72, rfl, d0, d1, d2, d3, d4, d5, d6, d7, d8, d10, d11, d12, d13, d14, d15, d16, d17, d18, d20, d22, mA, nA1, nA2, sA, mB, nB1, nB2, sB, HW⟩ hL hdep K' hK hK0
                    have p11 : L 11 = true := hdep { on := 11, ground := Ground.data } (by simp) rfl
                    have p12 : L 12 = true := hdep { on := 12, ground := Ground.data } (by simp) rfl
                    have q := d11 p11
                    subst q
                    have q := d12 p12
                    subst q
                    have g62 := evD (F 11 62 _ rfl rfl)
                    have g63 := evD (F 12 63 _ rfl rfl)
                    clear F G
                    go_simp
                    refine hK 13 64 _ w' rfl ⟨_, _, _, _, _, _, _, _, _, _, _, _, _, _, _, _, _, _, _, _, _, _, rfl, d0, d1, d2, d3, d4, d5, d6, d7, d8, d10, (fun _ => rfl), (fun _ => rfl), (fun _ => rfl), d14, d15, d16, d17, d18, d20, d22, (fun q => ⟨lmono (mA q).1, lmono (mA q).2⟩), (fun q => ⟨lmono (nA1 q).1, lmono (nA1 q).2⟩), (fun q => ⟨lmono (nA2 q).1, lmono (nA2 q).2⟩), (fun q => lmono (sA q)), (fun q => ⟨lmono (mB q).1, lmono (mB q).2⟩), (fun _ => ⟨lmono p11, lmono p12⟩), (fun q => ⟨lmono (nB2 q).1, lmono (nB2 q).2⟩), (fun q => lmono (sB q)), HW⟩
                  · rintro A L vs w' F G ⟨v51, v52, v53, v54, v55, v56, v57, v58, v59, v60, v61, v62, v63, v64, v65, v66, v67, v68, v69, v70, v71, v72, rfl, d0, d1, d2, d3, d4, d5, d6, d7, d8, d10, d11, d12, d13, d14, d15, d16, d17, d18, d20, d22, mA, nA1, nA2, sA, mB, nB1, nB2, sB, HW⟩ hL hdep K' hK hK0
                    have g10 : A.tmps[10]?.getD undef = .pointer (some ⟨w5.heap.size, 0, none⟩) := evD ((G 10 (by decide)).trans rfl)
                    clear F G
                    go_simp
                    refine hK 14 65 _ w' rfl ⟨_, _, _, _, _, _, _, _, _, _, _, _, _, _, _, _, _, _, _, _, _, _, rfl, d0, d1, d2, d3, d4, d5, d6, d7, d8, d10, d11, d12, d13, (fun _ => rfl), d15, d16, d17, d18, d20, d22, (fun q => ⟨lmono (mA q).1, lmono (mA q).2⟩), (fun q => ⟨lmono (nA1 q).1, lmono (nA1 q).2⟩), (fun q => ⟨lmono (nA2 q).1, lmono (nA2 q).2⟩), (fun q => lmono (sA q)), (fun q => ⟨lmono (mB q).1, lmono (mB q).2⟩), (fun q => ⟨lmono (nB1 q).1, lmono (nB1 q).2⟩), (fun q => ⟨lmono (nB2 q).1, lmono (nB2 q).2⟩), (fun q => lmono (sB q)), HW⟩
                  · rintro A L vs w' F G ⟨v51, v52, v53, v54, v55, v56, v57, v58, v59, v60, v61, v62, v63, v64, v65, v66, v67, v68, v69, v70, v71, v72, rfl, d0, d1, d2, d3, d4, d5, d6, d7, d8, d10, d11, d12, d13, d14, d15, d16, d17, d18, d20, d22, mA, nA1, nA2, sA, mB, nB1, nB2, sB, HW⟩ hL hdep K' hK hK0
                    have p14 : L 14 = true := hdep { on := 14, ground := Ground.data } (by simp) rfl
                    have hs : L 23 = false := by
                      cases q : L 23 with
                      | false => rfl
                      | true => exact absurd (nB2 (mB (sB q)).2).1 (by rw [hL]; decide)
                    have cc : w'.cell? ⟨w5.heap.size, 2, none⟩ = some (.slice (some ⟨g2, 0, none⟩) rom.vs.length c2) := by
                      have := HW.out.bo.c 2 (by omega)
                      rw [hs] at this
                      exact this
                    have q := d14 p14
                    subst q
                    have g65 := evD (F 14 65 _ rfl rfl)
                    clear F G
                    go_simp
                    refine hK 15 66 _ w' rfl ⟨_, _, _, _, _, _, _, _, _, _, _, _, _, _, _, _, _, _, _, _, _, _, rfl, d0, d1, d2, d3, d4, d5, d6, d7, d8, d10, d11, d12, d13, (fun _ => rfl), (fun _ => rfl), d16, d17, d18, d20, d22, (fun q => ⟨lmono (mA q).1, lmono (mA q).2⟩), (fun q => ⟨lmono (nA1 q).1, lmono (nA1 q).2⟩), (fun q => ⟨lmono (nA2 q).1, lmono (nA2 q).2⟩), (fun q => lmono (sA q)), (fun q => ⟨lmono (mB q).1, lmono (mB q).2⟩), (fun q => ⟨lmono (nB1 q).1, lmono (nB1 q).2⟩), (fun q => ⟨lmono (nB2 q).1, lmono (nB2 q).2⟩), (fun q => lmono (sB q)), HW⟩
                  · rintro A L vs w' F G ⟨v51, v52, v53, v54, v55, v56, v57, v58, v59, v60, v61, v62, v63, v64, v65, v66, v67, v68, v69, v70, v71, v72, rfl, d0, d1, d2, d3, d4, d5, d6, d7, d8, d10, d11, d12, d13, d14, d15, d16, d17, d18, d20, d22, mA, nA1, nA2, sA, mB, nB1, nB2, sB, HW⟩ hL hdep K' hK hK0
                    have g11 : A.tmps[11]?.getD undef = .int .i64 (p : Int) := evD ((G 11 (by decide)).trans rfl)
                    clear F G
                    go_simp
                    refine hK 16 67 _ w' rfl ⟨_, _, _, _, _, _, _, _, _, _, _, _, _, _, _, _, _, _, _, _, _, _, rfl, d0, d1, d2, d3, d4, d5, d6, d7, d8, d10, d11, d12, d13, d14, d15, (fun _ => rfl), d17, d18, d20, d22, (fun q => ⟨lmono (mA q).1, lmono (mA q).2⟩), (fun q => ⟨lmono (nA1 q).1, lmono (nA1 q).2⟩), (fun q => ⟨lmono (nA2 q).1, lmono (nA2 q).2⟩), (fun q => lmono (sA q)), (fun q => ⟨lmono (mB q).1, lmono (mB q).2⟩), (fun q => ⟨lmono (nB1 q).1, lmono (nB1 q).2⟩), (fun q => ⟨lmono (nB2 q).1, lmono (nB2 q).2⟩), (fun q => lmono (sB q)), HW⟩
                  · rintro A L vs w' F G ⟨v51, v52, v53, v54, v55, v56, v57, v58, v59, v60, v61, v62, v63, v64, v65, v66, v67, v68, v69, v70, v71, v72, rfl, d0, d1, d2, d3, d4, d5, d6, d7, d8, d10, d11, d12, d13, d14, d15, d16, d17, d18, d20, d22, mA, nA1, nA2, sA, mB, nB1, nB2, sB, HW⟩ hL hdep K' hK hK0
                    have p16 : L 16 = true := hdep { on := 16, ground := Ground.data } (by simp) rfl
                    have q := d16 p16
                    subst q
                    have g67 := evD (F 16 67 _ rfl rfl)
                    clear F G
                    go_simp
                    refine hK 17 68 _ w' rfl ⟨_, _, _, _, _, _, _, _, _, _, _, _, _, _, _, _, _, _, _, _, _, _, rfl, d0, d1, d2, d3, d4, d5, d6, d7, d8, d10, d11, d12, d13, d14, d15, (fun _ => rfl), (fun _ => rfl), d18, d20, d22, (fun q => ⟨lmono (mA q).1, lmono (mA q).2⟩), (fun q => ⟨lmono (nA1 q).1, lmono (nA1 q).2⟩), (fun q => ⟨lmono (nA2 q).1, lmono (nA2 q).2⟩), (fun q => lmono (sA q)), (fun q => ⟨lmono (mB q).1, lmono (mB q).2⟩), (fun q => ⟨lmono (nB1 q).1, lmono (nB1 q).2⟩), (fun q => ⟨lmono (nB2 q).1, lmono (nB2 q).2⟩), (fun q => lmono (sB q)), HW⟩
                  · rintro A L vs w' F G ⟨v51, v52, v53, v54, v55, v56, v57, v58, v59, v60, v61, v62, v63, v64, v65, v66, v67, v68, v69, v70, v71, v72, rfl, d0, d1, d2, d3, d4, d5, d6, d7, d8, d10, d11, d12, d13, d14, d15, d16, d17, d18, d20, d22, mA, nA1, nA2, sA, mB, nB1, nB2, sB, HW⟩ hL hdep K' hK hK0
                    have p15 : L 15 = true := hdep { on := 15, ground := Ground.data } (by simp) rfl
                    have p17 : L 17 = true := hdep { on := 17, ground := Ground.data } (by simp) rfl
                    have q := d15 p15
                    subst q
                    have q := d17 p17
                    subst q
                    have g66 := evD (F 15 66 _ rfl rfl)
                    have g68 := evD (F 17 68 _ rfl rfl)
                    clear F G
                    go_simp
                    refine hK 18 69 _ w' rfl ⟨_, _, _, _, _, _, _, _, _, _, _, _, _, _, _, _, _, _, _, _, _, _, rfl, d0, d1, d2, d3, d4, d5, d6, d7, d8, d10, d11, d12, d13, d14, (fun _ => rfl), d16, (fun _ => rfl), (fun _ => rfl), d20, d22, (fun q => ⟨lmono (mA q).1, lmono (mA q).2⟩), (fun q => ⟨lmono (nA1 q).1, lmono (nA1 q).2⟩), (fun q => ⟨lmono (nA2 q).1, lmono (nA2 q).2⟩), (fun q => lmono (sA q)), (fun q => ⟨lmono (mB q).1, lmono (mB q).2⟩), (fun q => ⟨lmono (nB1 q).1, lmono (nB1 q).2⟩), (fun _ => ⟨lmono p15, lmono p17⟩), (fun q => lmono (sB q)), HW⟩
                  · rintro A L vs w' F G ⟨v51, v52, v53, v54, v55, v56, v57, v58, v59, v60, v61, v62, v63, v64, v65, v66, v67, v68, v69, v70, v71, v72, rfl, d0, d1, d2, d3, d4, d5, d6, d7, d8, d10, d11, d12, d13, d14, d15, d16, d17, d18, d20, d22, mA, nA1, nA2, sA, mB, nB1, nB2, sB, HW⟩ hL hdep K' hK hK0
                    have p13 : L 13 = true := hdep { on := 13, ground := Ground.data } (by simp) rfl
                    have p18 : L 18 = true := hdep { on := 18, ground := Ground.data } (by simp) rfl
                    have hs : L 23 = false := by
                      cases q : L 23 with
                      | false => rfl
                      | true => exact absurd (sB q) (by rw [hL]; decide)
                    have hB : w7.heap.size ≤ w'.heap.size := Nat.le_trans hB8 HW.out.low.size
                    have hrow : w'.ownsRow w7.heap.size 37 4 (.slice (some ⟨g2, 0, none⟩) rom.vs.length c2) rom.vs.length (vC rom.vs) := by
                      obtain ⟨XA, XB, _, _, _, hpa⟩ := HW.out.ex
                      exact (hpa.1 hL).1
                    have hrt := owns_take hrow (Nat.le_of_lt hpv)
                    rw [vC_take] at hrt
                    have hsd := src_drop2 (p := p) hrow
                    have q := d13 p13
                    subst q
                    have q := d18 p18
                    subst q
                    refine step_append_src w' rfl (.tmp 64) (.tmp 69) 33 rfl w7.heap.size 37 i1 _ 4 40 Tryz.underlying33 hi1 hy0 hy1 hy2 rfl (by decide) _ p (vC (rom.vs.take p)) (F 13 64 _ rfl rfl) hrt _ (rom.vs.length - (p + 1)) (vC (rom.vs.drop (p + 1))) (F 18 69 _ rfl rfl) hsd (by unfold maxLen; omega) (by omega) hB ?_
                    intro a' c' w2 q1 q2 q3
                    have HW2 : Hid (WR w7.heap.size w8 w2 w5.heap.size rom (.slice (some ⟨g1, 0, none⟩) rom.ks.length c1) (.slice (some ⟨g2, 0, none⟩) rom.vs.length c2) (.slice sa rom.sl.length sc) (L 21) (L 23) v60 (.slice a' (p + (rom.vs.length - (p + 1))) c') (P12 w7.heap.size (.slice (some ⟨g1, 0, none⟩) rom.ks.length c1) rom.ks p (L 9) v60) (P12 w7.heap.size (.slice (some ⟨g2, 0, none⟩) rom.vs.length c2) rom.vs p true (.slice a' (p + (rom.vs.length - (p + 1))) c'))) := by
                      exact WR.stepB (n2' := (.slice a' (p + (rom.vs.length - (p + 1))) c')) (PB' := P12 w7.heap.size (.slice (some ⟨g2, 0, none⟩) rom.vs.length c2) rom.vs p true (.slice a' (p + (rom.vs.length - (p + 1))) c')) HW.out hxb hB hs (P12.lcl _ _ _ _ _ _) (w' := w2) (fun X hX hb => P12.app hpv (hX.1 hL) q1 q2 q3)
                    refine hK 19 70 _ w2 rfl ⟨_, _, _, _, _, _, _, _, _, _, _, _, _, _, _, _, _, _, _, _, _, _, rfl, d0, d1, d2, d3, d4, d5, d6, d7, d8, d10, d11, d12, (fun _ => rfl), d14, d15, d16, d17, (fun _ => rfl), d20, d22, (fun q => ⟨lmono (mA q).1, lmono (mA q).2⟩), (fun q => ⟨lmono (nA1 q).1, lmono (nA1 q).2⟩), (fun q => ⟨lmono (nA2 q).1, lmono (nA2 q).2⟩), (fun q => lmono (sA q)), (fun _ => ⟨lmono p13, lmono p18⟩), (fun q => ⟨lmono (nB1 q).1, lmono (nB1 q).2⟩), (fun q => ⟨lmono (nB2 q).1, lmono (nB2 q).2⟩), (fun q => lmono (sB q)), HW2⟩
                  · rintro A L vs w' F G ⟨v51, v52, v53, v54, v55, v56, v57, v58, v59, v60, v61, v62, v63, v64, v65, v66, v67, v68, v69, v70, v71, v72, rfl, d0, d1, d2, d3, d4, d5, d6, d7, d8, d10, d11, d12, d13, d14, d15, d16, d17, d18, d20, d22, mA, nA1, nA2, sA, mB, nB1, nB2, sB, HW⟩ hL hdep K' hK hK0
                    have g10 : A.tmps[10]?.getD undef = .pointer (some ⟨w5.heap.size, 0, none⟩) := evD ((G 10 (by decide)).trans rfl)
                    clear F G
                    go_simp
                    refine hK 20 71 _ w' rfl ⟨_, _, _, _, _, _, _, _, _, _, _, _, _, _, _, _, _, _, _, _, _, _, rfl, d0, d1, d2, d3, d4, d5, d6, d7, d8, d10, d11, d12, d13, d14, d15, d16, d17, d18, (fun _ => rfl), d22, (fun q => ⟨lmono (mA q).1, lmono (mA q).2⟩), (fun q => ⟨lmono (nA1 q).1, lmono (nA1 q).2⟩), (fun q => ⟨lmono (nA2 q).1, lmono (nA2 q).2⟩), (fun q => lmono (sA q)), (fun q => ⟨lmono (mB q).1, lmono (mB q).2⟩), (fun q => ⟨lmono (nB1 q).1, lmono (nB1 q).2⟩), (fun q => ⟨lmono (nB2 q).1, lmono (nB2 q).2⟩), (fun q => lmono (sB q)), HW⟩
                  · rintro A L vs w' F G ⟨v51, v52, v53, v54, v55, v56, v57, v58, v59, v60, v61, v62, v63, v64, v65, v66, v67, v68, v69, v70, v71, v72, rfl, d0, d1, d2, d3, d4, d5, d6, d7, d8, d10, d11, d12, d13, d14, d15, d16, d17, d18, d20, d22, mA, nA1, nA2, sA, mB, nB1, nB2, sB, HW⟩ hL hdep K' hK hK0
                    have p20 : L 20 = true := hdep { on := 20, ground := Ground.data } (by simp) rfl
                    have p9 : L 9 = true := hdep { on := 9, ground := Ground.data } (by simp) rfl
                    obtain ⟨a', nn, c', hv9⟩ : ∃ a n c, v60 = .slice a n c := by
                      obtain ⟨XA, XB, _, _, hpa, _⟩ := HW.out.ex
                      obtain ⟨a, c, e⟩ := (hpa.2 p9).1
                      exact ⟨a, _, c, e⟩
                    have hc := HW.out.bo.c 1 (by omega)
                    have hf := HW.out.bo.f 1
                    rw [hL] at hc
                    have hc1 : w'.cell? ⟨w5.heap.size, 1, none⟩ = some (.slice (some ⟨g1, 0, none⟩) rom.ks.length c1) := hc
                    have q := d20 p20
                    subst q
                    subst hv9
                    have HW2 : Hid (WR w7.heap.size w8 (w'.setCell ⟨w5.heap.size, 1, none⟩ (.slice a' nn c')) w5.heap.size rom (.slice (some ⟨g1, 0, none⟩) rom.ks.length c1) (.slice (some ⟨g2, 0, none⟩) rom.vs.length c2) (.slice sa rom.sl.length sc) true (L 23) (.slice a' nn c') v70 (P12 w7.heap.size (.slice (some ⟨g1, 0, none⟩) rom.ks.length c1) rom.ks p (L 9) (.slice a' nn c')) (P12 w7.heap.size (.slice (some ⟨g2, 0, none⟩) rom.vs.length c2) rom.vs p (L 19) v70)) := by
                      have hw := HW.out
                      rw [hL] at hw
                      exact hw.storeA hxb (P12.lcl _ _ _ _ _ _) (P12.lcl _ _ _ _ _ _)
                    clear hc
                    have g71 := evD (F 20 71 _ rfl rfl)
                    have g60 := evD (F 9 60 _ rfl rfl)
                    clear F G
                    go_simp
                    refine hK0 _ ⟨_, _, _, _, _, _, _, _, _, _, _, _, _, _, _, _, _, _, _, _, _, _, rfl, d0, d1, d2, d3, d4, d5, d6, d7, d8, d10, d11, d12, d13, d14, d15, d16, d17, d18, (fun _ => rfl), d22, (fun q => ⟨lmono (mA q).1, lmono (mA q).2⟩), (fun q => ⟨lmono (nA1 q).1, lmono (nA1 q).2⟩), (fun q => ⟨lmono (nA2 q).1, lmono (nA2 q).2⟩), (fun _ => lmono p9), (fun q => ⟨lmono (mB q).1, lmono (mB q).2⟩), (fun q => ⟨lmono (nB1 q).1, lmono (nB1 q).2⟩), (fun q => ⟨lmono (nB2 q).1, lmono (nB2 q).2⟩), (fun q => lmono (sB q)), HW2⟩
                  · rintro A L vs w' F G ⟨v51, v52, v53, v54, v55, v56, v57, v58, v59, v60, v61, v62, v63, v64, v65, v66, v67, v68, v69, v70, v71, v72, rfl, d0, d1, d2, d3, d4, d5, d6, d7, d8, d10, d11, d12, d13, d14, d15, d16, d17, d18, d20, d22, mA, nA1, nA2, sA, mB, nB1, nB2, sB, HW⟩ hL hdep K' hK hK0
                    have g10 : A.tmps[10]?.getD undef = .pointer (some ⟨w5.heap.size, 0, none⟩) := evD ((G 10 (by decide)).trans rfl)
                    clear F G
                    go_simp
                    refine hK 21 72 _ w' rfl ⟨_, _, _, _, _, _, _, _, _, _, _, _, _, _, _, _, _, _, _, _, _, _, rfl, d0, d1, d2, d3, d4, d5, d6, d7, d8, d10, d11, d12, d13, d14, d15, d16, d17, d18, d20, (fun _ => rfl), (fun q => ⟨lmono (mA q).1, lmono (mA q).2⟩), (fun q => ⟨lmono (nA1 q).1, lmono (nA1 q).2⟩), (fun q => ⟨lmono (nA2 q).1, lmono (nA2 q).2⟩), (fun q => lmono (sA q)), (fun q => ⟨lmono (mB q).1, lmono (mB q).2⟩), (fun q => ⟨lmono (nB1 q).1, lmono (nB1 q).2⟩), (fun q => ⟨lmono (nB2 q).1, lmono (nB2 q).2⟩), (fun q => lmono (sB q)), HW⟩
                  · rintro A L vs w' F G ⟨v51, v52, v53, v54, v55, v56, v57, v58, v59, v60, v61, v62, v63, v64, v65, v66, v67, v68, v69, v70, v71, v72, rfl, d0, d1, d2, d3, d4, d5, d6, d7, d8, d10, d11, d12, d13, d14, d15, d16, d17, d18, d20, d22, mA, nA1, nA2, sA, mB, nB1, nB2, sB, HW⟩ hL hdep K' hK hK0
                    have p22 : L 22 = true := hdep { on := 22, ground := Ground.data } (by simp) rfl
                    have p19 : L 19 = true := hdep { on := 19, ground := Ground.data } (by simp) rfl
                    obtain ⟨a', nn, c', hv9⟩ : ∃ a n c, v70 = .slice a n c := by
                      obtain ⟨XA, XB, _, _, _, hpa⟩ := HW.out.ex
                      obtain ⟨a, c, e⟩ := (hpa.2 p19).1
                      exact ⟨a, _, c, e⟩
                    have hc := HW.out.bo.c 2 (by omega)
                    have hf := HW.out.bo.f 2
                    rw [hL] at hc
                    have hc1 : w'.cell? ⟨w5.heap.size, 2, none⟩ = some (.slice (some ⟨g2, 0, none⟩) rom.vs.length c2) := hc
                    have q := d22 p22
                    subst q
                    subst hv9
                    have HW2 : Hid (WR w7.heap.size w8 (w'.setCell ⟨w5.heap.size, 2, none⟩ (.slice a' nn c')) w5.heap.size rom (.slice (some ⟨g1, 0, none⟩) rom.ks.length c1) (.slice (some ⟨g2, 0, none⟩) rom.vs.length c2) (.slice sa rom.sl.length sc) (L 21) true v60 (.slice a' nn c') (P12 w7.heap.size (.slice (some ⟨g1, 0, none⟩) rom.ks.length c1) rom.ks p (L 9) v60) (P12 w7.heap.size (.slice (some ⟨g2, 0, none⟩) rom.vs.length c2) rom.vs p (L 19) (.slice a' nn c'))) := by
                      have hw := HW.out
                      rw [hL] at hw
                      exact hw.storeB hxb (P12.lcl _ _ _ _ _ _) (P12.lcl _ _ _ _ _ _)
                    clear hc
                    have g72 := evD (F 21 72 _ rfl rfl)
                    have g70 := evD (F 19 70 _ rfl rfl)
                    clear F G
                    go_simp
                    refine hK0 _ ⟨_, _, _, _, _, _, _, _, _, _, _, _, _, _, _, _, _, _, _, _, _, _, rfl, d0, d1, d2, d3, d4, d5, d6, d7, d8, d10, d11, d12, d13, d14, d15, d16, d17, d18, d20, (fun _ => rfl), (fun q => ⟨lmono (mA q).1, lmono (mA q).2⟩), (fun q => ⟨lmono (nA1 q).1, lmono (nA1 q).2⟩), (fun q => ⟨lmono (nA2 q).1, lmono (nA2 q).2⟩), (fun q => lmono (sA q)), (fun q => ⟨lmono (mB q).1, lmono (mB q).2⟩), (fun q => ⟨lmono (nB1 q).1, lmono (nB1 q).2⟩), (fun q => ⟨lmono (nB2 q).1, lmono (nB2 q).2⟩), (fun _ => lmono p19), HW2⟩
                  · rintro L vs w' hall ⟨v51, v52, v53, v54, v55, v56, v57, v58, v59, v60, v61, v62, v63, v64, v65, v66, v67, v68, v69, v70, v71, v72, rfl, d0, d1, d2, d3, d4, d5, d6, d7, d8, d10, d11, d12, d13, d14, d15, d16, d17, d18, d20, d22, mA, nA1, nA2, sA, mB, nB1, nB2, sB, HW⟩
                    have HE2 : Hid (∃ r1 r2, Tw w7.heap.size w' w5.heap.size rom (.slice sa rom.sl.length sc) (rom.ks.eraseIdx p) (rom.vs.eraseIdx p) r1 r2 ∧ Wx (fun k => k = w5.heap.size ∨ w7.heap.size ≤ k) w8 w') := by
                      have hw := HW.out
                      rw [hall 9 (by decide), hall 19 (by decide), hall 21 (by decide), hall 23 (by decide)] at hw
                      obtain ⟨XA, XB, e1, e2, e3, e4⟩ := hw.ex
                      exact ⟨v60, v70, ⟨hw.bo, (e3.2 rfl).2.1, (e4.2 rfl).2.1, fun g hg hc => e1 g ((e3.2 rfl).2.2 g hg) ((e4.2 rfl).2.2 g hc), hxb, Nat.le_trans hB8 hw.low.size⟩, hw.low⟩
                    clear d0 d1 d2 d3 d4 d5 d6 d7 d8 d10 d11 d12 d13 d14 d15 d16 d17 d18 d20 d22 mA nA1 nA2 sA mB nB1 nB2 sB HW
                    simp only [puts]
                    go_simp
                    go_step
                    go_meet
                    exact ⟨rfl, HE2.out⟩
                case rest =>
                  obtain ⟨rfl, HT⟩ := hcut
                  obtain ⟨wz, hwz⟩ : ∃ x, x = wc := ⟨_, rfl⟩
                  subst hwz
                  have HBz : Hid (Below w.heap.size w wz) := by
                    obtain ⟨_, _, _, hx⟩ := HT.out
                    exact HB8.out.trans (hx.below (fun k hk => by have := HB.out.size; omega) HB8.out.size)
                  clear HTz HB8 y0 y1 y2 y3 z0 z1 z2 z3
                  obtain ⟨r1', r2', htw, _⟩ := HT.out
                  have HTz := hide_p htw
                  clear htw HT
                  have hlk := List.length_eraseIdx_of_lt hpl
                  have hlv := List.length_eraseIdx_of_lt hpv
                  have HLv : Hid ((rom.vs.eraseIdx p).length = (rom.ks.eraseIdx p).length) := by show _ = _; rw [hlk, hlv, hvl.out]
                  have HWt : Hid (1 + (rom.ks.eraseIdx p).length + rom.sl.length + usedR rs ≤ lim + (1 + rom.ks.length + rom.sl.length)) := by
                    have := HV.out.hu
                    show _ ≤ _
                    rw [hlk]
                    omega
                  clear hlk hlv
                  obtain ⟨ks2, hks2⟩ : ∃ l, l = rom.ks.eraseIdx p := ⟨_, rfl⟩
                  obtain ⟨vs2, hvs2⟩ : ∃ l, l = rom.vs.eraseIdx p := ⟨_, rfl⟩
                  rw [← hks2, ← hvs2] at HTz HE HLv
                  rw [← hks2] at HWt
                  clear hks2 hvs2
                  go_upto_region 18 with fail
                  obtain ⟨a1, c1, er1⟩ := owns_form HTz.out.o1
                  obtain ⟨a2, c2, er2⟩ := owns_form HTz.out.o2
                  subst er1
                  subst er2
                  have hsz8 : w5.heap.size < wz.heap.size := HTz.out.bo.lt
                  obtain ⟨i0, hi0, hz0, hz1, hz2⟩ := objInfo
                  obtain ⟨a0, cap, hR, _, a0c, hown, hsrc, hcp⟩ := cp_ask2 HV.out HBz.out
                  have HOWN := hide_p hown
                  have HSRC := hide_p hsrc
                  have HCP := hide_p hcp
                  have hdb : db < w.heap.size := HV.out.lt db HV.out.qd
                  have hdb8 : db < wz.heap.size := by have := HBz.out.size; omega
                  have hfd : wz.frozen? ⟨db, 0, none⟩ = false := (HBz.out.frozen hdb).trans (HV.out.free 0)
                  clear hown hsrc hcp hR
                  obtain ⟨n, hn⟩ : ∃ n, n = rs.length := ⟨_, rfl⟩
                  have HNN := hide_p hn
                  rw [← hn] at HSRC HCP a0c hlen hjl2
                  clear hn
                  go_wp2_with (at_builtin; refine wpList_append_src _ rfl _ _ 29 rfl w.heap.size 39 i0 _ 10 136 Tryz.underlying29 hi0 hz0 hz1 hz2 rfl (by decide) _ 0 [] rfl HOWN.out _ n (rC rs) rfl HSRC.out (by unfold maxLen; omega) (by omega) (by have := HBz.out.size; simp; omega) ?_)
                  intro a3 c3 w9 q1 q2 q3
                  obtain ⟨k9, low9⟩ := HCP.out w9 a3 c3 q1 q2
                  obtain ⟨g, rfl, hg1, hg2, hgf, hgc⟩ := cpd_g k9 (by omega)
                  have hg8 : wz.heap.size ≤ g := by
                    rcases q3 with q | q
                    · have e : g = wz.heap.size := by simpa [Value.ownBlock] using q
                      omega
                    · have e : g = wz.heap.size + 1 := by simpa [Value.ownBlock] using q
                      omega
                  have y := fun q hq => hgc j _ HRJ.out q hq
                  have m0 : w9.cell? ⟨g, j * 10, none⟩ = some (.int .i64 rom.k) := y 0 (by omega)
                  have m1 : w9.cell? ⟨g, j * 10 + 1, none⟩ = some (.slice ka rom.ks.length kc) := y 1 (by omega)
                  have m2 : w9.cell? ⟨g, j * 10 + 2, none⟩ = some (.slice va rom.vs.length vc) := y 2 (by omega)
                  have m3 : w9.cell? ⟨g, j * 10 + 3, none⟩ = some (.int .i64 rom.M.K) := y 3 (by omega)
                  have m4 : w9.cell? ⟨g, j * 10 + 4, none⟩ = some (.int .u64 rom.M.N) := y 4 (by omega)
                  have m5 : w9.cell? ⟨g, j * 10 + 5, none⟩ = some (.string rom.M.S) := y 5 (by omega)
                  have m6 : w9.cell? ⟨g, j * 10 + 6, none⟩ = some (.int .i64 rom.M.O) := y 6 (by omega)
                  have m7 : w9.cell? ⟨g, j * 10 + 7, none⟩ = some (.int .i64 rom.a) := y 7 (by omega)
                  have m8 : w9.cell? ⟨g, j * 10 + 8, none⟩ = some (.int .i64 rom.b) := y 8 (by omega)
                  have m9 : w9.cell? ⟨g, j * 10 + 9, none⟩ = some (.slice sa rom.sl.length sc) := y 9 (by omega)
                  have bo := HTz.out.bo.below low9
                  have n0 : w9.cell? ⟨w5.heap.size, 0, none⟩ = some (.int .i64 rom.k) := bo.c 0 (by omega)
                  have n1 : w9.cell? ⟨w5.heap.size, 1, none⟩ = some (.slice a1 ks2.length c1) := bo.c 1 (by omega)
                  have n2 : w9.cell? ⟨w5.heap.size, 2, none⟩ = some (.slice a2 vs2.length c2) := bo.c 2 (by omega)
                  have n3 : w9.cell? ⟨w5.heap.size, 3, none⟩ = some (.int .i64 rom.M.K) := bo.c 3 (by omega)
                  have n4 : w9.cell? ⟨w5.heap.size, 4, none⟩ = some (.int .u64 rom.M.N) := bo.c 4 (by omega)
                  have n5 : w9.cell? ⟨w5.heap.size, 5, none⟩ = some (.string rom.M.S) := bo.c 5 (by omega)
                  have n6 : w9.cell? ⟨w5.heap.size, 6, none⟩ = some (.int .i64 rom.M.O) := bo.c 6 (by omega)
                  have n7 : w9.cell? ⟨w5.heap.size, 7, none⟩ = some (.int .i64 rom.a) := bo.c 7 (by omega)
                  have n8 : w9.cell? ⟨w5.heap.size, 8, none⟩ = some (.int .i64 rom.b) := bo.c 8 (by omega)
                  have n9 : w9.cell? ⟨w5.heap.size, 9, none⟩ = some (.slice sa rom.sl.length sc) := bo.c 9 (by omega)
                  have mdb : w9.cell? ⟨db, 0, none⟩ = some (.slice a0 n cap) := (low9.cell hdb8).trans a0c
                  have mfd : w9.frozen? ⟨db, 0, none⟩ = false := (low9.frozen hdb8).trans hfd
                  have hgd : g ≠ db := by omega
                  have hgx2 : g ≠ w5.heap.size := by omega
                  have hdx : db ≠ w5.heap.size := by have := HB.out.size; omega
                  have HRP : Hid (∀ w4 : World, w4.heap = (((((((((((w9.setCell ⟨db, 0, none⟩ (.slice (some ⟨g, 0, none⟩) n c3)).setCell ⟨g, j * 10, none⟩ (.int .i64 rom.k)).setCell ⟨g, j * 10 + 1, none⟩ (.slice a1 ks2.length c1)).setCell ⟨g, j * 10 + 2, none⟩ (.slice a2 vs2.length c2)).setCell ⟨g, j * 10 + 3, none⟩ (.int .i64 rom.M.K)).setCell ⟨g, j * 10 + 4, none⟩ (.int .u64 rom.M.N)).setCell ⟨g, j * 10 + 5, none⟩ (.string rom.M.S)).setCell ⟨g, j * 10 + 6, none⟩ (.int .i64 rom.M.O)).setCell ⟨g, j * 10 + 7, none⟩ (.int .i64 rom.a)).setCell ⟨g, j * 10 + 8, none⟩ (.int .i64 rom.b)).setCell ⟨g, j * 10 + 9, none⟩ (.slice sa rom.sl.length sc)).heap → w4.os = w9.os → w4.tape = w9.tape → w4.output = w9.output → RP w db lim ((rs.map Rr.om).set j { rom with ks := ks2, vs := vs2 }) Q w4) := fun w4 e1 e2 e3 e4 => by
                    have hlow : Below w.heap.size w w9 := k9.low
                    obtain ⟨ho1, ho2⟩ := HV.out.old hlow HRJ.out
                    have b1 : ∀ x, (Value.slice a1 ks2.length c1).ownBlock = some x → w.heap.size ≤ x ∧ x < wz.heap.size := fun x hx => by
                      have := World.ownsRow.lt HTz.out.o1 x hx
                      have := HTz.out.lt
                      have := HB.out.size
                      omega
                    have b2 : ∀ x, (Value.slice a2 vs2.length c2).ownBlock = some x → w.heap.size ≤ x ∧ x < wz.heap.size := fun x hx => by
                      have := World.ownsRow.lt HTz.out.o2 x hx
                      have := HTz.out.lt
                      have := HB.out.size
                      omega
                    have h9s := low9.size
                    refine Sld.lay (w1 := wz) (r' := (⟨{ rom with ks := ks2, vs := vs2 }, .slice a1 ks2.length c1, .slice a2 vs2.length c2, (.slice sa rom.sl.length sc)⟩ : Rr)) HV.out HRJ.out ?_ ?_ k9 hg8 ?_ (by rw [← HNN.out]; exact e1) e2 e3 e4
                    · have := HWt.out
                      have h1 : ((⟨{ rom with ks := ks2, vs := vs2 }, .slice a1 ks2.length c1, .slice a2 vs2.length c2, (.slice sa rom.sl.length sc)⟩ : Rr)).om.wt = 1 + ks2.length + rom.sl.length := rfl
                      have h2 : (⟨rom, (.slice ka rom.ks.length kc), (.slice va rom.vs.length vc), (.slice sa rom.sl.length sc)⟩ : Rr).om.wt = 1 + rom.ks.length + rom.sl.length := rfl
                      omega
                    · refine ⟨?_, ?_, ho1.s, fun y hy => ?_, HLv.out⟩
                      · have k1 : Vr wz (.slice a1 ks2.length c1) ks2 := vr_of HTz.out.o1
                        exact k1.wx (Wx.of_below (fun _ => False) low9) (fun _ _ c => c)
                      · have k1 : Vr wz (.slice a2 vs2.length c2) vs2 := vr_of HTz.out.o2
                        exact k1.wx (Wx.of_below (fun _ => False) low9) (fun _ _ c => c)
                      · rcases hy with hy | hy | hy
                        · have := b1 y hy; exact Or.inr ⟨by omega, by omega⟩
                        · have := b2 y hy; exact Or.inr ⟨by omega, by omega⟩
                        · exact ho1.own y (Or.inr (Or.inr hy))
                    · intro y hy
                      rcases hy with hy | hy | hy
                      · exact (b1 y hy).2
                      · exact (b2 y hy).2
                      · have := ho2 y (Or.inr (Or.inr hy)); have := HBz.out.size; omega
                  clear q1 q2 q3 k9 low9 hgc y bo HOWN HSRC HCP a0c hfd HTz
                  go_wp2_with fail
                  go_region
                  all_goals go_wp2
                  all_goals go_ret
                  all_goals rw [HE.out]
                  all_goals refine ⟨rfl, HRP.out _ (heap_drewd _) ?_ ?_ ?_⟩
                  all_goals simp only [os_setc, tape_setc, output_setc, os_drewc, tape_drewc, output_drewc]
              · have HE : Hid (res = (0, (rs.map Rr.om).set j { rom with vs := rom.vs.set p nv })) := (HM4.out.2 p hp).2 hv0
                have hpv : p < rom.vs.length := by have := hvl.out; omega
                obtain ⟨a2, c2, er2⟩ := owns_form HTz.out.o2
                subst er2
                obtain ⟨g2, _, e2, _, _⟩ := HTz.out.o2.form (by omega)
                simp only [Value.slice.injEq, true_and] at e2
                obtain ⟨e2, e3⟩ := e2
                subst e2
                clear e3
                have hvr : Vr w8 (.slice (some ⟨g2, 0, none⟩) rom.vs.length c2) rom.vs := vr_of HTz.out.o2
                obtain ⟨x, hx⟩ : ∃ x, rom.vs[p]? = some x := ⟨rom.vs[p]'hpv, List.getElem?_eq_getElem hpv⟩
                have hat := vr_at hvr hx
                have x0 := hat.c0
                have x1 := hat.c1
                have x2 := hat.c2
                have x3 := hat.c3
                have hfg : ∀ q, w8.frozen? ⟨g2, q, none⟩ = false := fun q => owns_free HTz.out.o2 q
                have n2 : w8.cell? ⟨w5.heap.size, 2, none⟩ = some (.slice (some ⟨g2, 0, none⟩) rom.vs.length c2) := HTz.out.bo.c 2 (by omega)
                have hg2 : w7.heap.size ≤ g2 := (World.ownsRow.lt HTz.out.o2 g2 rfl).1
                have hpi : (p : Int) < (rom.vs.length : Int) := by omega
                have hpn : ¬ ((p : Int) < 0) := by omega
                have hpg : (p : Int) ≥ 0 := by omega
                have hvlen : rom.vs.length ≤ 1048576 := by have := hvl.out; omega
                have HTN : Hid (∀ wz, wz = ((((w8.setCell ⟨g2, p * 4, none⟩ (.int .i64 nv.K)).setCell ⟨g2, p * 4 + 1, none⟩ (.int .u64 nv.N)).setCell ⟨g2, p * 4 + 2, none⟩ (.string nv.S)).setCell ⟨g2, p * 4 + 3, none⟩ (.int .i64 nv.O)) → Tw w7.heap.size wz w5.heap.size rom (.slice sa rom.sl.length sc) rom.ks (rom.vs.set p nv) r1 (.slice (some ⟨g2, 0, none⟩) (rom.vs.set p nv).length c2) ∧ Below w.heap.size w wz) := fun wz hwz => by
                  have hw : wz = stores w8 g2 (p * 4) [(0, .int .i64 nv.K), (1, .int .u64 nv.N), (2, .string nv.S), (3, .int .i64 nv.O)] := hwz
                  have hwx : Wx (fun k => k = g2) w8 wz := by rw [hw]; exact wx_stores _ _
                  have ht := HTz.out
                  have hne : ∀ q, r1.ownBlock = some q → ¬ q = g2 := fun q hq e => ht.ap q hq (by rw [e]; rfl)
                  have k2 := owns_stores (o := p * 4) [(0, .int .i64 nv.K), (1, .int .u64 nv.N), (2, .string nv.S), (3, .int .i64 nv.O)] ht.o2
                  rw [vC_sets rom.vs p x nv _ hx (by simp) rfl, ← hw] at k2
                  refine ⟨⟨?_, rowStay ht.o1 (fun q hq => hwx.block q (World.ownsRow.lt ht.o1 q hq).2 (hne q hq)), ?_, ?_, ht.lt, Nat.le_trans ht.le hwx.size⟩, HB8.out.trans (hwx.below (fun k hk => by have := HB.out.size; omega) HB8.out.size)⟩
                  · rw [List.length_set]
                    exact ht.bo.wx hwx (by omega)
                  · rw [List.length_set]
                    exact k2
                  · intro q hq hc
                    exact hne q hq (by simpa [Value.ownBlock] using hc.symm)
                clear hat hvr hx HM4 HPN hp
                go_upto_region 18 with fail
                obtain ⟨wz, hwz⟩ : ∃ wz, wz = ((((w8.setCell ⟨g2, p * 4, none⟩ (.int .i64 nv.K)).setCell ⟨g2, p * 4 + 1, none⟩ (.int .u64 nv.N)).setCell ⟨g2, p * 4 + 2, none⟩ (.string nv.S)).setCell ⟨g2, p * 4 + 3, none⟩ (.int .i64 nv.O)) := ⟨_, rfl⟩
                rw [← hwz]
                have htn := HTN.out wz hwz
                clear HTN HTz hwz x0 x1 x2 x3 hfg n2 y0 y1 y2 y3 z0 z1 z2 z3 hpi hpn hpg
                obtain ⟨r2z, er2z⟩ : ∃ r, r = Value.slice (some ⟨g2, 0, none⟩) (rom.vs.set p nv).length c2 := ⟨_, rfl⟩
                rw [← er2z] at htn
                have HTz := hide_p htn.1
                have HBz := hide_p htn.2
                clear htn HB8 er2z
                have HLv : Hid ((rom.vs.set p nv).length = rom.ks.length) := by show _ = _; rw [List.length_set]; exact hvl.out
                have HWt : Hid (1 + rom.ks.length + rom.sl.length + usedR rs ≤ lim + (1 + rom.ks.length + rom.sl.length)) := by have := HV.out.hu; show _ ≤ _; omega
                obtain ⟨vs2, hvs2⟩ : ∃ l, l = rom.vs.set p nv := ⟨_, rfl⟩
                rw [← hvs2] at HTz HE HLv
                clear hvs2
                obtain ⟨a1, c1, er1⟩ := owns_form HTz.out.o1
                obtain ⟨a2, c2, er2⟩ := owns_form HTz.out.o2
                subst er1
                subst er2
                have hsz8 : w5.heap.size < wz.heap.size := HTz.out.bo.lt
                obtain ⟨i0, hi0, hz0, hz1, hz2⟩ := objInfo
                obtain ⟨a0, cap, hR, _, a0c, hown, hsrc, hcp⟩ := cp_ask2 HV.out HBz.out
                have HOWN := hide_p hown
                have HSRC := hide_p hsrc
                have HCP := hide_p hcp
                have hdb : db < w.heap.size := HV.out.lt db HV.out.qd
                have hdb8 : db < wz.heap.size := by have := HBz.out.size; omega
                have hfd : wz.frozen? ⟨db, 0, none⟩ = false := (HBz.out.frozen hdb).trans (HV.out.free 0)
                clear hown hsrc hcp hR
                obtain ⟨n, hn⟩ : ∃ n, n = rs.length := ⟨_, rfl⟩
                have HNN := hide_p hn
                rw [← hn] at HSRC HCP a0c hlen hjl2
                clear hn
                go_wp2_with (at_builtin; refine wpList_append_src _ rfl _ _ 29 rfl w.heap.size 39 i0 _ 10 136 Tryz.underlying29 hi0 hz0 hz1 hz2 rfl (by decide) _ 0 [] rfl HOWN.out _ n (rC rs) rfl HSRC.out (by unfold maxLen; omega) (by omega) (by have := HBz.out.size; simp; omega) ?_)
                intro a3 c3 w9 q1 q2 q3
                obtain ⟨k9, low9⟩ := HCP.out w9 a3 c3 q1 q2
                obtain ⟨g, rfl, hg1, hg2, hgf, hgc⟩ := cpd_g k9 (by omega)
                have hg8 : wz.heap.size ≤ g := by
                  rcases q3 with q | q
                  · have e : g = wz.heap.size := by simpa [Value.ownBlock] using q
                    omega
                  · have e : g = wz.heap.size + 1 := by simpa [Value.ownBlock] using q
                    omega
                have y := fun q hq => hgc j _ HRJ.out q hq
                have m0 : w9.cell? ⟨g, j * 10, none⟩ = some (.int .i64 rom.k) := y 0 (by omega)
                have m1 : w9.cell? ⟨g, j * 10 + 1, none⟩ = some (.slice ka rom.ks.length kc) := y 1 (by omega)
                have m2 : w9.cell? ⟨g, j * 10 + 2, none⟩ = some (.slice va rom.vs.length vc) := y 2 (by omega)
                have m3 : w9.cell? ⟨g, j * 10 + 3, none⟩ = some (.int .i64 rom.M.K) := y 3 (by omega)
                have m4 : w9.cell? ⟨g, j * 10 + 4, none⟩ = some (.int .u64 rom.M.N) := y 4 (by omega)
                have m5 : w9.cell? ⟨g, j * 10 + 5, none⟩ = some (.string rom.M.S) := y 5 (by omega)
                have m6 : w9.cell? ⟨g, j * 10 + 6, none⟩ = some (.int .i64 rom.M.O) := y 6 (by omega)
                have m7 : w9.cell? ⟨g, j * 10 + 7, none⟩ = some (.int .i64 rom.a) := y 7 (by omega)
                have m8 : w9.cell? ⟨g, j * 10 + 8, none⟩ = some (.int .i64 rom.b) := y 8 (by omega)
                have m9 : w9.cell? ⟨g, j * 10 + 9, none⟩ = some (.slice sa rom.sl.length sc) := y 9 (by omega)
                have bo := HTz.out.bo.below low9
                have n0 : w9.cell? ⟨w5.heap.size, 0, none⟩ = some (.int .i64 rom.k) := bo.c 0 (by omega)
                have n1 : w9.cell? ⟨w5.heap.size, 1, none⟩ = some (.slice a1 rom.ks.length c1) := bo.c 1 (by omega)
                have n2 : w9.cell? ⟨w5.heap.size, 2, none⟩ = some (.slice a2 vs2.length c2) := bo.c 2 (by omega)
                have n3 : w9.cell? ⟨w5.heap.size, 3, none⟩ = some (.int .i64 rom.M.K) := bo.c 3 (by omega)
                have n4 : w9.cell? ⟨w5.heap.size, 4, none⟩ = some (.int .u64 rom.M.N) := bo.c 4 (by omega)
                have n5 : w9.cell? ⟨w5.heap.size, 5, none⟩ = some (.string rom.M.S) := bo.c 5 (by omega)
                have n6 : w9.cell? ⟨w5.heap.size, 6, none⟩ = some (.int .i64 rom.M.O) := bo.c 6 (by omega)
                have n7 : w9.cell? ⟨w5.heap.size, 7, none⟩ = some (.int .i64 rom.a) := bo.c 7 (by omega)
                have n8 : w9.cell? ⟨w5.heap.size, 8, none⟩ = some (.int .i64 rom.b) := bo.c 8 (by omega)
                have n9 : w9.cell? ⟨w5.heap.size, 9, none⟩ = some (.slice sa rom.sl.length sc) := bo.c 9 (by omega)
                have mdb : w9.cell? ⟨db, 0, none⟩ = some (.slice a0 n cap) := (low9.cell hdb8).trans a0c
                have mfd : w9.frozen? ⟨db, 0, none⟩ = false := (low9.frozen hdb8).trans hfd
                have hgd : g ≠ db := by omega
                have hgx2 : g ≠ w5.heap.size := by omega
                have hdx : db ≠ w5.heap.size := by have := HB.out.size; omega
                have HRP : Hid (∀ w4 : World, w4.heap = (((((((((((w9.setCell ⟨db, 0, none⟩ (.slice (some ⟨g, 0, none⟩) n c3)).setCell ⟨g, j * 10, none⟩ (.int .i64 rom.k)).setCell ⟨g, j * 10 + 1, none⟩ (.slice a1 rom.ks.length c1)).setCell ⟨g, j * 10 + 2, none⟩ (.slice a2 vs2.length c2)).setCell ⟨g, j * 10 + 3, none⟩ (.int .i64 rom.M.K)).setCell ⟨g, j * 10 + 4, none⟩ (.int .u64 rom.M.N)).setCell ⟨g, j * 10 + 5, none⟩ (.string rom.M.S)).setCell ⟨g, j * 10 + 6, none⟩ (.int .i64 rom.M.O)).setCell ⟨g, j * 10 + 7, none⟩ (.int .i64 rom.a)).setCell ⟨g, j * 10 + 8, none⟩ (.int .i64 rom.b)).setCell ⟨g, j * 10 + 9, none⟩ (.slice sa rom.sl.length sc)).heap → w4.os = w9.os → w4.tape = w9.tape → w4.output = w9.output → RP w db lim ((rs.map Rr.om).set j { rom with ks := rom.ks, vs := vs2 }) Q w4) := fun w4 e1 e2 e3 e4 => by
                  have hlow : Below w.heap.size w w9 := k9.low
                  obtain ⟨ho1, ho2⟩ := HV.out.old hlow HRJ.out
                  have b1 : ∀ x, (Value.slice a1 rom.ks.length c1).ownBlock = some x → w.heap.size ≤ x ∧ x < wz.heap.size := fun x hx => by
                    have := World.ownsRow.lt HTz.out.o1 x hx
                    have := HTz.out.lt
                    have := HB.out.size
                    omega
                  have b2 : ∀ x, (Value.slice a2 vs2.length c2).ownBlock = some x → w.heap.size ≤ x ∧ x < wz.heap.size := fun x hx => by
                    have := World.ownsRow.lt HTz.out.o2 x hx
                    have := HTz.out.lt
                    have := HB.out.size
                    omega
                  have h9s := low9.size
                  refine Sld.lay (w1 := wz) (r' := (⟨{ rom with ks := rom.ks, vs := vs2 }, .slice a1 rom.ks.length c1, .slice a2 vs2.length c2, (.slice sa rom.sl.length sc)⟩ : Rr)) HV.out HRJ.out ?_ ?_ k9 hg8 ?_ (by rw [← HNN.out]; exact e1) e2 e3 e4
                  · have := HWt.out
                    have h1 : ((⟨{ rom with ks := rom.ks, vs := vs2 }, .slice a1 rom.ks.length c1, .slice a2 vs2.length c2, (.slice sa rom.sl.length sc)⟩ : Rr)).om.wt = 1 + rom.ks.length + rom.sl.length := rfl
                    have h2 : (⟨rom, (.slice ka rom.ks.length kc), (.slice va rom.vs.length vc), (.slice sa rom.sl.length sc)⟩ : Rr).om.wt = 1 + rom.ks.length + rom.sl.length := rfl
                    omega
                  · refine ⟨?_, ?_, ho1.s, fun y hy => ?_, HLv.out⟩
                    · have k1 : Vr wz (.slice a1 rom.ks.length c1) rom.ks := vr_of HTz.out.o1
                      exact k1.wx (Wx.of_below (fun _ => False) low9) (fun _ _ c => c)
                    · have k1 : Vr wz (.slice a2 vs2.length c2) vs2 := vr_of HTz.out.o2
                      exact k1.wx (Wx.of_below (fun _ => False) low9) (fun _ _ c => c)
                    · rcases hy with hy | hy | hy
                      · have := b1 y hy; exact Or.inr ⟨by omega, by omega⟩
                      · have := b2 y hy; exact Or.inr ⟨by omega, by omega⟩
                      · exact ho1.own y (Or.inr (Or.inr hy))
                  · intro y hy
                    rcases hy with hy | hy | hy
                    · exact (b1 y hy).2
                    · exact (b2 y hy).2
                    · have := ho2 y (Or.inr (Or.inr hy)); have := HBz.out.size; omega
                clear q1 q2 q3 k9 low9 hgc y bo HOWN HSRC HCP a0c hfd HTz
                go_wp2_with fail
                go_region
                all_goals go_wp2
                all_goals go_ret
                all_goals rw [HE.out]
                all_goals refine ⟨rfl, HRP.out _ (heap_drewd _) ?_ ?_ ?_⟩
                all_goals simp only [os_setc, tape_setc, output_setc, os_drewc, tape_drewc, output_drewc]

end Go.Proofs.YthmocdabakkfhaaGreatDoor
