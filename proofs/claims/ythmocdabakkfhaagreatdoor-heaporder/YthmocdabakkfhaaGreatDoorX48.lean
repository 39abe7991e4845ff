/-
  HeapOrder
-/
import Derived.Test.YthmocdabakkfhaaGreatDoorX47

/-
  HeapOrder: the law, walked.
-/
namespace Go.Proofs.YthmocdabakkfhaaGreatDoor
set_option maxRecDepth 100000
open Go.RowKit Flo

theorem rhasL_any {w : World} {db lim : Nat} {L : List Om} {Q : Nat → Prop} (h : RH w db lim L Q) (o : Int) :
    Calls Tryz.prog 7 #[.pointer (some ⟨db, 0, none⟩), .int .i64 o] w fun e w' => e = .returned (.bool (tabM L o).isSome) ∧ w' = w := by
  obtain ⟨R, rs, hr, rfl⟩ := h
  have h1 := rhas_any hr o
  rw [show (tabM (rs.map Rr.om) o).isSome = (rTab rs o).isSome by rw [tabM_rs]; cases rTab rs o <;> rfl]
  exact h1
/-- A key in the block b, that may be written. -/
structure Kx (w : World) (b : Nat) (k : V4) : Prop where
  c0 : w.cell? ⟨b, 0, none⟩ = some (.int .i64 k.K)
  c1 : w.cell? ⟨b, 1, none⟩ = some (.int .u64 k.N)
  c2 : w.cell? ⟨b, 2, none⟩ = some (.string k.S)
  c3 : w.cell? ⟨b, 3, none⟩ = some (.int .i64 k.O)
  fr : ∀ j, w.frozen? ⟨b, j, none⟩ = false

theorem wx4 (w : World) (b : Nat) (v0 v1 v2 v3 : Value) : Wx (fun k => k = b) w ((((w.setCell ⟨b, 0, none⟩ v0).setCell ⟨b, 1, none⟩ v1).setCell ⟨b, 2, none⟩ v2).setCell ⟨b, 3, none⟩ v3) :=
  Wx.set' (X := fun k => k = b) (Wx.set' (X := fun k => k = b) (Wx.set' (X := fun k => k = b) (Wx.set' (X := fun k => k = b) (Wx.refl _ _) _ _ rfl) _ _ rfl) _ _ rfl) _ _ rfl
theorem kx4 (w : World) (b : Nat) (k : V4) {u0 u1 u2 u3 : Value} (c0 : w.cell? ⟨b, 0, none⟩ = some u0) (c1 : w.cell? ⟨b, 1, none⟩ = some u1) (c2 : w.cell? ⟨b, 2, none⟩ = some u2) (c3 : w.cell? ⟨b, 3, none⟩ = some u3) (fr : ∀ j, w.frozen? ⟨b, j, none⟩ = false) :
    Kx ((((w.setCell ⟨b, 0, none⟩ (.int .i64 k.K)).setCell ⟨b, 1, none⟩ (.int .u64 k.N)).setCell ⟨b, 2, none⟩ (.string k.S)).setCell ⟨b, 3, none⟩ (.int .i64 k.O)) b k := by
  refine ⟨?_, ?_, ?_, ?_, fun j => ?_⟩
  · go_simp
  · go_simp
  · go_simp
  · go_simp
  · rw [World.frozen?_setCell, World.frozen?_setCell, World.frozen?_setCell, World.frozen?_setCell]
    exact fr j

set_option maxHeartbeats 4000000 in
theorem heapOrder_walk (v : Value) (cs : List Ac) (w : World) (db : Db w) (h : Acs w v cs) :
    Calls Tryz.prog 4 #[v] w fun e w' => e = .returned (.bool true) ∧ Below w.heap.size w w' := by
  have HG := hide_p (goes_any 1000 (by omega) v cs w db h)
  obtain ⟨a, cap, rfl, _⟩ := h.form
  generalize cs.length = n at *
  clear h db
  go_enter Tryz.func4, Tryz.ntmps4
  go_wp2_with fail
  refine HG.out.mono ?_
  rintro e w1 ⟨hb, dd, L, Z, Q, rfl, hdv, hnn, hmz, hsk, hb1⟩
  obtain ⟨M, hM⟩ : ∃ M, M = L.length := ⟨_, rfl⟩
  have HM := hide_p hM
  have hMl : M ≤ 1048576 := by rw [hM]; exact hdv.l.om.1
  have HD := hide_p hdv
  have HB1 := hide_p hb1
  have HSK := hide_p hsk
  clear HG hdv hnn hmz hsk hb1 hM
  go_wp2_with fail
  go_loopg [6] M (fun kk t6 wr => ∃ o : Nat, t6 = .int .i64 (o : Int) ∧ 1 ≤ o ∧ o ≤ M + 1 ∧ Hid (kk = M + 1 - o ∧ Dv wr hb dd 1000 w.heap.size L Z Q ∧ Below w.heap.size w wr))
  case atStart => exact ⟨1, rfl, by omega, by omega, ⟨by omega, HD.out, HB1.out⟩⟩
  case round =>
    obtain ⟨o, rfl, ho1, ho, HI⟩ := hrel
    clear HD HB1
    obtain ⟨a2, cap2, hd0, hdl, hrow⟩ := HI.out.2.1.r.at
    rw [← HM.out] at hd0
    by_cases c3 : o ≤ M
    · have c3i : (o : Int) ≤ (M : Int) := by omega
      have HH := hide_p (rhasL_any HI.out.2.1.r (o : Int))
      cases ht : tabM L (o : Int) with
      | none =>
        rw [ht] at HH
        rw [show (none : Option Om).isSome = false from rfl] at HH
        clear hrow
        go_wp2_with fail
        refine HH.out.mono ?_
        rintro e w2 ⟨rfl, rfl⟩
        clear HH
        go_wp2_with fail
        go_roundg (M + 1 - (o + 1))
        case measure => have := HI.out.1; omega
        case rel => exact ⟨o + 1, by go_num, by omega, by omega, ⟨rfl, HI.out.2⟩⟩
      | some m =>
        rw [ht] at HH
        rw [show (some m).isSome = true from rfl] at HH
        obtain ⟨p, hp⟩ : ∃ p : Nat, o = p + 1 := ⟨o - 1, by omega⟩
        subst hp
        have hm : L[p]? = some m := by
          have h1 := (Option.filter_eq_some_iff.1 ht).1
          unfold atM at h1
          rw [if_pos (by have := HM.out; omega), show (((p + 1 : Nat) : Int) - 1).toNat = p by omega] at h1
          exact h1
        obtain ⟨g, kb, kc2, vb, vc2, sb, sc2, rfl, hg7, ⟨r0, r1, r2, r3, r4, r5, r6, r7, r8, r9⟩, y1, y2, y3⟩ := hrow p m hm
        have HOM := hide_p (HI.out.2.1.l.om.2 m (List.mem_of_getElem? hm))
        have hpm : (p : Int) < (M : Int) := by omega
        rw [show ((p + 1 : Nat) : Int) = (p : Int) + 1 by omega] at ht c3i HH ⊢
        have e1 : (p : Int) + 1 - 1 = (p : Int) := by omega
        have HT := hide_p ht
        have HY := hide_p (And.intro y1 y2)
        clear hrow hm y1 y2 y3 ht
        go_wp2_with fail
        refine HH.out.mono ?_
        rintro e w2 ⟨rfl, hw2⟩
        have hw2s := hw2.symm
        subst hw2s
        clear HH hw2
        go_upto_region 9 with fail
        obtain ⟨w6, hw6⟩ : ∃ x, x = wr := ⟨_, rfl⟩
        subst hw6
        have HD6 := hide_p HI.out.2.1
        have HL6 := hide_p HI.out.2.2
        have HK6 := hide_p HI.out.1
        obtain ⟨wa, hwa⟩ : ∃ x, x = (w6.alloc (.cells #[.int .i64 m.k, .slice kb m.ks.length kc2, .slice vb m.vs.length vc2, .int .i64 m.M.K, .int .u64 m.M.N, .string m.M.S, .int .i64 m.M.O, .int .i64 m.a, .int .i64 m.b, .slice sb m.sl.length sc2] 39)).alloc (.cells #[.int .i64 0, .int .u64 0, .string ⟨#[]⟩, .int .i64 0] 37) := ⟨_, rfl⟩
        have hba : Below w6.heap.size w6 wa := by rw [hwa]; exact ((Below.refl _ _).alloc (Nat.le_refl _) _).alloc (by simp) _
        have hx1 : wa.cell? ⟨w6.heap.size, 1, none⟩ = some (.slice kb m.ks.length kc2) := by rw [hwa]; go_simp
        have hx2 : wa.cell? ⟨w6.heap.size, 2, none⟩ = some (.slice vb m.vs.length vc2) := by rw [hwa]; go_simp
        have hkx : Kx wa (w6.heap.size + 1) V0 := by
          rw [hwa]
          refine ⟨?_, ?_, ?_, ?_, fun j => ?_⟩
          · show _ = some (Value.int .i64 0); go_simp
          · show _ = some (Value.int .u64 0); go_simp
          · show _ = some (Value.string ⟨#[]⟩); go_simp
          · show _ = some (Value.int .i64 0); go_simp
          · exact World.frozen?_alloc_at _ _ _ _ (by simp)
        have hsa : w6.heap.size + 2 ≤ wa.heap.size := by rw [hwa]; simp
        have hev := HOM.out.1
        rw [hev] at hx2
        obtain ⟨K, hK⟩ : ∃ K, K = m.ks.length := ⟨_, rfl⟩
        have hKl : K ≤ 1048576 := by rw [hK]; exact HOM.out.2.1
        rw [← hK] at hx1 hx2
        have HKK := hide_p hK
        have HEV := hide_p hev
        have HST : Hid (Below w6.heap.size w6 wa ∧ wa.cell? ⟨w6.heap.size, 1, none⟩ = some (.slice kb K kc2) ∧ wa.cell? ⟨w6.heap.size, 2, none⟩ = some (.slice vb K vc2) ∧ Kx wa (w6.heap.size + 1) V0 ∧ w6.heap.size + 2 ≤ wa.heap.size) := ⟨hba, hx1, hx2, hkx, hsa⟩
        clear hba hx1 hx2 hkx hsa hev hK HI r0 r1 r2 r3 r4 r5 r6 r7 r8 r9 hd0 hdl hg7
        rw [← hwa]
        clear hwa
        go_wp2_with fail
        go_loopg [9] (K + 1) (fun kk t9 wr => ∃ i : Nat, t9 = .int .i64 (i : Int) ∧ i ≤ K + 1 ∧ Hid (kk = K + 1 - i ∧ Below w6.heap.size w6 wr ∧ wr.cell? ⟨w6.heap.size, 1, none⟩ = some (.slice kb K kc2) ∧ wr.cell? ⟨w6.heap.size, 2, none⟩ = some (.slice vb K vc2) ∧ (i ≤ K → Kx wr (w6.heap.size + 1) (ahead m i)) ∧ w6.heap.size + 2 ≤ wr.heap.size))
        case atStart => exact ⟨0, rfl, by omega, ⟨rfl, HST.out.1, HST.out.2.1, HST.out.2.2.1, fun _ => HST.out.2.2.2.1, HST.out.2.2.2.2⟩⟩
        case round =>
          obtain ⟨i, rfl, hi, HJ⟩ := hrel
          clear HST
          obtain ⟨-, hb6, hx1, hx2, hkx, hs6⟩ := HJ.out
          by_cases c4 : i ≤ K
          · have c4i : (i : Int) ≤ (K : Int) := by omega
            obtain ⟨k0, k1, k2, k3, kf⟩ := hkx c4
            have hnx := next_of (HD6.out.below hb6).l HT.out i (by have := HKK.out; omega)
            have HNE : Hid (Calls Tryz.prog 8 #[.pointer (some ⟨hb, 0, none⟩), .int .i64 ((p : Int) + 1), .agg #[.int .i64 (ahead m i).K, .int .u64 (ahead m i).N, .string (ahead m i).S, .int .i64 (ahead m i).O]] wr fun e w2 => e = .returned (.tuple #[.agg #[.int .i64 ((m.ks[i]?).getD V0).K, .int .u64 ((m.ks[i]?).getD V0).N, .string ((m.ks[i]?).getD V0).S, .int .i64 ((m.ks[i]?).getD V0).O], .agg #[.int .i64 ((m.vs[i]?).getD V0).K, .int .u64 ((m.vs[i]?).getD V0).N, .string ((m.vs[i]?).getD V0).S, .int .i64 ((m.vs[i]?).getD V0).O], .int .i64 0]) ∧ Below wr.heap.size wr w2) := by
              have h1 := lnext_any (HD6.out.below hb6).l ((p : Int) + 1) (ahead m i) (ahead_u64 (HD6.out.below hb6).l HT.out i) (ahead_size HSK.out HT.out i)
              rw [hnx] at h1
              exact h1
            clear hnx
            by_cases c6 : i < K
            · obtain ⟨x, hx⟩ : ∃ x, m.ks[i]? = some x := ⟨m.ks[i]'(by have := HKK.out; omega), List.getElem?_eq_getElem _⟩
              obtain ⟨y, hy⟩ : ∃ y, m.vs[i]? = some y := ⟨m.vs[i]'(by have := HKK.out; have := HEV.out; omega), List.getElem?_eq_getElem _⟩
              rw [hx, hy] at HNE
              have HNF : Hid (Calls Tryz.prog 8 #[.pointer (some ⟨hb, 0, none⟩), .int .i64 ((p : Int) + 1), .agg #[.int .i64 (ahead m i).K, .int .u64 (ahead m i).N, .string (ahead m i).S, .int .i64 (ahead m i).O]] wr fun e w2 => e = .returned (.tuple #[.agg #[.int .i64 x.K, .int .u64 x.N, .string x.S, .int .i64 x.O], .agg #[.int .i64 y.K, .int .u64 y.N, .string y.S, .int .i64 y.O], .int .i64 0]) ∧ Below wr.heap.size wr w2) := HNE.out
              have HAX : Hid (ahead m (i + 1) = x) := by show (m.ks[i]?).getD V0 = x; rw [hx]; rfl
              have HGT : Hid (∀ u, Below w6.heap.size w6 u → Calls Tryz.prog 9 #[.pointer (some ⟨hb, 0, none⟩), .int .i64 ((p : Int) + 1), .agg #[.int .i64 x.K, .int .u64 x.N, .string x.S, .int .i64 x.O]] u fun e w2 => e = .returned (.agg #[.int .i64 y.K, .int .u64 y.N, .string y.S, .int .i64 y.O]) ∧ Below u.heap.size u w2) := fun u hu => by
                have h1 := lget_any (HD6.out.below hu).l ((p : Int) + 1) x (((HD6.out.below hu).l.keys HT.out i x hx).2.2.2) (HSK.out.tab HT.out x (List.mem_of_getElem? hx))
                rw [get_of (HD6.out.below hu).l HT.out hx, hy] at h1
                exact h1
              obtain ⟨g1, hg1, hl1, d1⟩ := HY.out.1 (by have := HKK.out; omega)
              obtain ⟨g2, hg2, hl2, d2⟩ := HY.out.2 (by have := HKK.out; have := HEV.out; omega)
              subst hg1
              subst hg2
              have HR1 := hide_p (d1 i x hx)
              have HR2 := hide_p (d2 i y hy)
              have c5 : (i : Int) < (K : Int) := by omega
              have c5a : decide ((i : Int) = (K : Int)) = false := decide_eq_false (by omega)
              have c5b : decide ((i : Int) < (K : Int)) = true := decide_eq_true c5
              have c5c : ((i : Int) == (K : Int)) = false := by simp; omega
              have c5d : (0 : Int) ≤ (i : Int) := by omega
              clear HNE hx hy d1 d2
              go_wp2_with fail
              refine HNF.out.mono ?_
              rintro e w7 ⟨rfl, hb7⟩
              clear HNF
              obtain ⟨w8, hw8⟩ : ∃ w8, w8 = (w7.alloc (.cells #[.int .i64 x.K, .int .u64 x.N, .string x.S, .int .i64 x.O] 37)).alloc (.cells #[.int .i64 y.K, .int .u64 y.N, .string y.S, .int .i64 y.O] 37) := ⟨_, rfl⟩
              have hb8 : Below w7.heap.size w7 w8 := by rw [hw8]; exact ((Below.refl _ _).alloc (Nat.le_refl _) _).alloc (by simp) _
              have hb78 : Below wr.heap.size wr w8 := hb7.trans (hb8.mono hb7.size)
              have hl8 : w7.heap.size + 2 ≤ w8.heap.size := by rw [hw8]; simp
              have hs7 : w6.heap.size + 2 ≤ w7.heap.size := Nat.le_trans hs6 hb7.size
              have hu6 : ∀ q : BelowOf w8, Below w6.heap.size w6 q.u := fun q => (hb6.trans (hb78.mono hb6.size)).trans (q.h.mono (Nat.le_trans hb6.size hb78.size))
              have HU6 := hide_p hu6
              have HUW : Hid (∀ u, Below w8.heap.size w8 u → Below wr.heap.size wr u) := fun u hu => hb78.trans (hu.mono hb78.size)
              have hlw : w6.heap.size < wr.heap.size := by omega
              have A0 : ∀ q : BelowOf w8, q.u.cell? ⟨w7.heap.size, 0, none⟩ = some (.int .i64 x.K) := fun q => (q.h.cell (p := ⟨w7.heap.size, 0, none⟩) (show w7.heap.size < w8.heap.size by omega)).trans (by rw [hw8]; go_simp)
              have A1 : ∀ q : BelowOf w8, q.u.cell? ⟨w7.heap.size, 1, none⟩ = some (.int .u64 x.N) := fun q => (q.h.cell (p := ⟨w7.heap.size, 1, none⟩) (show w7.heap.size < w8.heap.size by omega)).trans (by rw [hw8]; go_simp)
              have A2 : ∀ q : BelowOf w8, q.u.cell? ⟨w7.heap.size, 2, none⟩ = some (.string x.S) := fun q => (q.h.cell (p := ⟨w7.heap.size, 2, none⟩) (show w7.heap.size < w8.heap.size by omega)).trans (by rw [hw8]; go_simp)
              have A3 : ∀ q : BelowOf w8, q.u.cell? ⟨w7.heap.size, 3, none⟩ = some (.int .i64 x.O) := fun q => (q.h.cell (p := ⟨w7.heap.size, 3, none⟩) (show w7.heap.size < w8.heap.size by omega)).trans (by rw [hw8]; go_simp)
              have B0 : ∀ q : BelowOf w8, q.u.cell? ⟨w7.heap.size + 1, 0, none⟩ = some (.int .i64 y.K) := fun q => (q.h.cell (p := ⟨w7.heap.size + 1, 0, none⟩) (show w7.heap.size + 1 < w8.heap.size by omega)).trans (by rw [hw8]; go_simp)
              have B1 : ∀ q : BelowOf w8, q.u.cell? ⟨w7.heap.size + 1, 1, none⟩ = some (.int .u64 y.N) := fun q => (q.h.cell (p := ⟨w7.heap.size + 1, 1, none⟩) (show w7.heap.size + 1 < w8.heap.size by omega)).trans (by rw [hw8]; go_simp)
              have B2 : ∀ q : BelowOf w8, q.u.cell? ⟨w7.heap.size + 1, 2, none⟩ = some (.string y.S) := fun q => (q.h.cell (p := ⟨w7.heap.size + 1, 2, none⟩) (show w7.heap.size + 1 < w8.heap.size by omega)).trans (by rw [hw8]; go_simp)
              have B3 : ∀ q : BelowOf w8, q.u.cell? ⟨w7.heap.size + 1, 3, none⟩ = some (.int .i64 y.O) := fun q => (q.h.cell (p := ⟨w7.heap.size + 1, 3, none⟩) (show w7.heap.size + 1 < w8.heap.size by omega)).trans (by rw [hw8]; go_simp)
              have D1 : ∀ q : BelowOf w8, q.u.cell? ⟨w6.heap.size, 1, none⟩ = some (.slice (some ⟨g1, 0, none⟩) K kc2) := fun q => ((HUW.out _ q.h).cell (p := ⟨w6.heap.size, 1, none⟩) hlw).trans hx1
              have D2 : ∀ q : BelowOf w8, q.u.cell? ⟨w6.heap.size, 2, none⟩ = some (.slice (some ⟨g2, 0, none⟩) K vc2) := fun q => ((HUW.out _ q.h).cell (p := ⟨w6.heap.size, 2, none⟩) hlw).trans hx2
              have E0 : ∀ q : BelowOf w8, q.u.cell? ⟨g1, i * 4, none⟩ = some (.int .i64 x.K) := fun q => ((hu6 q).cell (p := ⟨g1, i * 4, none⟩) hl1).trans HR1.out.c0
              have E1 : ∀ q : BelowOf w8, q.u.cell? ⟨g1, i * 4 + 1, none⟩ = some (.int .u64 x.N) := fun q => ((hu6 q).cell (p := ⟨g1, i * 4 + 1, none⟩) hl1).trans HR1.out.c1
              have E2 : ∀ q : BelowOf w8, q.u.cell? ⟨g1, i * 4 + 2, none⟩ = some (.string x.S) := fun q => ((hu6 q).cell (p := ⟨g1, i * 4 + 2, none⟩) hl1).trans HR1.out.c2
              have E3 : ∀ q : BelowOf w8, q.u.cell? ⟨g1, i * 4 + 3, none⟩ = some (.int .i64 x.O) := fun q => ((hu6 q).cell (p := ⟨g1, i * 4 + 3, none⟩) hl1).trans HR1.out.c3
              have F0 : ∀ q : BelowOf w8, q.u.cell? ⟨g2, i * 4, none⟩ = some (.int .i64 y.K) := fun q => ((hu6 q).cell (p := ⟨g2, i * 4, none⟩) hl2).trans HR2.out.c0
              have F1 : ∀ q : BelowOf w8, q.u.cell? ⟨g2, i * 4 + 1, none⟩ = some (.int .u64 y.N) := fun q => ((hu6 q).cell (p := ⟨g2, i * 4 + 1, none⟩) hl2).trans HR2.out.c1
              have F2 : ∀ q : BelowOf w8, q.u.cell? ⟨g2, i * 4 + 2, none⟩ = some (.string y.S) := fun q => ((hu6 q).cell (p := ⟨g2, i * 4 + 2, none⟩) hl2).trans HR2.out.c2
              have F3 : ∀ q : BelowOf w8, q.u.cell? ⟨g2, i * 4 + 3, none⟩ = some (.int .i64 y.O) := fun q => ((hu6 q).cell (p := ⟨g2, i * 4 + 3, none⟩) hl2).trans HR2.out.c3
              have HKX : Hid (∀ u, Below w8.heap.size w8 u → Kx u (w6.heap.size + 1) (ahead m i) ∧ u.cell? ⟨w7.heap.size, 0, none⟩ = some (.int .i64 x.K) ∧ u.cell? ⟨w7.heap.size, 1, none⟩ = some (.int .u64 x.N) ∧ u.cell? ⟨w7.heap.size, 2, none⟩ = some (.string x.S) ∧ u.cell? ⟨w7.heap.size, 3, none⟩ = some (.int .i64 x.O)) := fun u hu => ⟨⟨((HUW.out _ hu).cell (p := ⟨w6.heap.size + 1, 0, none⟩) (show w6.heap.size + 1 < wr.heap.size by omega)).trans k0, ((HUW.out _ hu).cell (p := ⟨w6.heap.size + 1, 1, none⟩) (show w6.heap.size + 1 < wr.heap.size by omega)).trans k1, ((HUW.out _ hu).cell (p := ⟨w6.heap.size + 1, 2, none⟩) (show w6.heap.size + 1 < wr.heap.size by omega)).trans k2, ((HUW.out _ hu).cell (p := ⟨w6.heap.size + 1, 3, none⟩) (show w6.heap.size + 1 < wr.heap.size by omega)).trans k3, fun j => ((HUW.out _ hu).frozen (p := ⟨w6.heap.size + 1, j, none⟩) (show w6.heap.size + 1 < wr.heap.size by omega)).trans (kf j)⟩, A0 ⟨u, hu⟩, A1 ⟨u, hu⟩, A2 ⟨u, hu⟩, A3 ⟨u, hu⟩⟩
              have HX12 : Hid (∀ u, Below w8.heap.size w8 u → u.cell? ⟨w6.heap.size, 1, none⟩ = some (.slice (some ⟨g1, 0, none⟩) K kc2) ∧ u.cell? ⟨w6.heap.size, 2, none⟩ = some (.slice (some ⟨g2, 0, none⟩) K vc2)) := fun u hu => ⟨D1 ⟨u, hu⟩, D2 ⟨u, hu⟩⟩
              have HS8 : Hid (w7.heap.size + 2 ≤ w8.heap.size) := by show _ ≤ _; rw [hw8]; simp
              clear hb7 hb8 hb78 hu6 hlw k0 k1 k2 k3 kf hx1 hx2 hkx
              go_upto_region 13 with fail
              rw [← hw8]
              clear hw8
              refine wp_region_below (by kernel_rfl) (by kernel_rfl) ?_
              repeat (go_big_quiet_step (rfl))
              go_big_quiet_step ((go_at_call 9; exact below_of (HGT.out _ (HU6.out _))))
              repeat (go_big_quiet_step (rfl))
              refine wpQuiet_nil ?_
              intro wq hw'
              obtain ⟨⟨w9, hwq⟩, hw''⟩ := hw'
              subst hw''
              have HWQ := hide_p hwq
              clear hwq A0 A1 A2 A3 B0 B1 B2 B3 D1 D2 E0 E1 E2 E3 F0 F1 F2 F3 HGT HR1 HR2
              obtain ⟨⟨k0, k1, k2, k3, kf⟩, a0, a1, a2, a3⟩ := HKX.out wq HWQ.out
              have hn7 : ¬ w7.heap.size = w6.heap.size + 1 := by omega
              go_wp2_with fail
              go_roundg (K + 1 - (i + 1))
              case measure => have := HJ.out.1; omega
              case rel =>
                have hw := wx4 wq (w6.heap.size + 1) (.int .i64 x.K) (.int .u64 x.N) (.string x.S) (.int .i64 x.O)
                have hq6 := HU6.out ⟨wq, HWQ.out⟩
                have hs8 := HS8.out
                have hqs := HWQ.out.size
                have hfs := hw.size
                exact ⟨i + 1, by go_num, by omega, ⟨rfl, hq6.trans (hw.below (fun k hk => by omega) hq6.size), hw.cell (by omega) (HX12.out wq HWQ.out).1, hw.cell (by omega) (HX12.out wq HWQ.out).2, fun _ => by rw [HAX.out]; exact kx4 wq (w6.heap.size + 1) x k0 k1 k2 k3 kf, by omega⟩⟩
            · have hnk : m.ks[i]? = none := List.getElem?_eq_none (by have := HKK.out; omega)
              have hnv : m.vs[i]? = none := List.getElem?_eq_none (by have := HKK.out; have := HEV.out; omega)
              rw [hnk, hnv] at HNE
              have HNF : Hid (Calls Tryz.prog 8 #[.pointer (some ⟨hb, 0, none⟩), .int .i64 ((p : Int) + 1), .agg #[.int .i64 (ahead m i).K, .int .u64 (ahead m i).N, .string (ahead m i).S, .int .i64 (ahead m i).O]] wr fun e w2 => e = .returned (.tuple #[.agg #[.int .i64 0, .int .u64 0, .string ⟨#[]⟩, .int .i64 0], .agg #[.int .i64 0, .int .u64 0, .string ⟨#[]⟩, .int .i64 0], .int .i64 0]) ∧ Below wr.heap.size wr w2) := HNE.out
              have c5 : (i : Int) = (K : Int) := by omega
              have c5a : decide ((i : Int) = (K : Int)) = true := decide_eq_true c5
              have c5b : decide ((i : Int) < (K : Int)) = false := decide_eq_false (by omega)
              have c5c : ((i : Int) == (K : Int)) = true := by rw [c5]; simp
              clear HNE hnk hnv c5
              go_wp2_with fail
              refine HNF.out.mono ?_
              rintro e w7 ⟨rfl, hb7⟩
              clear HNF
              obtain ⟨w8, hw8⟩ : ∃ w8, w8 = (w7.alloc (.cells #[.int .i64 0, .int .u64 0, .string ⟨#[]⟩, .int .i64 0] 37)).alloc (.cells #[.int .i64 0, .int .u64 0, .string ⟨#[]⟩, .int .i64 0] 37) := ⟨_, rfl⟩
              have hb8 : Below w7.heap.size w7 w8 := by rw [hw8]; exact ((Below.refl _ _).alloc (Nat.le_refl _) _).alloc (by simp) _
              have hb78 : Below wr.heap.size wr w8 := hb7.trans (hb8.mono hb7.size)
              have hl8 : w7.heap.size + 2 ≤ w8.heap.size := by rw [hw8]; simp
              have hs7 : w6.heap.size + 2 ≤ w7.heap.size := Nat.le_trans hs6 hb7.size
              have hu6 : ∀ q : BelowOf w8, Below w6.heap.size w6 q.u := fun q => (hb6.trans (hb78.mono hb6.size)).trans (q.h.mono (Nat.le_trans hb6.size hb78.size))
              have HU6 := hide_p hu6
              have HUW : Hid (∀ u, Below w8.heap.size w8 u → Below wr.heap.size wr u) := fun u hu => hb78.trans (hu.mono hb78.size)
              have hlw : w6.heap.size < wr.heap.size := by omega
              have A0 : ∀ q : BelowOf w8, q.u.cell? ⟨w7.heap.size, 0, none⟩ = some (.int .i64 0) := fun q => (q.h.cell (p := ⟨w7.heap.size, 0, none⟩) (show w7.heap.size < w8.heap.size by omega)).trans (by rw [hw8]; go_simp)
              have A1 : ∀ q : BelowOf w8, q.u.cell? ⟨w7.heap.size, 1, none⟩ = some (.int .u64 0) := fun q => (q.h.cell (p := ⟨w7.heap.size, 1, none⟩) (show w7.heap.size < w8.heap.size by omega)).trans (by rw [hw8]; go_simp)
              have A2 : ∀ q : BelowOf w8, q.u.cell? ⟨w7.heap.size, 2, none⟩ = some (.string ⟨#[]⟩) := fun q => (q.h.cell (p := ⟨w7.heap.size, 2, none⟩) (show w7.heap.size < w8.heap.size by omega)).trans (by rw [hw8]; go_simp)
              have A3 : ∀ q : BelowOf w8, q.u.cell? ⟨w7.heap.size, 3, none⟩ = some (.int .i64 0) := fun q => (q.h.cell (p := ⟨w7.heap.size, 3, none⟩) (show w7.heap.size < w8.heap.size by omega)).trans (by rw [hw8]; go_simp)
              have B0 : ∀ q : BelowOf w8, q.u.cell? ⟨w7.heap.size + 1, 0, none⟩ = some (.int .i64 0) := fun q => (q.h.cell (p := ⟨w7.heap.size + 1, 0, none⟩) (show w7.heap.size + 1 < w8.heap.size by omega)).trans (by rw [hw8]; go_simp)
              have B1 : ∀ q : BelowOf w8, q.u.cell? ⟨w7.heap.size + 1, 1, none⟩ = some (.int .u64 0) := fun q => (q.h.cell (p := ⟨w7.heap.size + 1, 1, none⟩) (show w7.heap.size + 1 < w8.heap.size by omega)).trans (by rw [hw8]; go_simp)
              have B2 : ∀ q : BelowOf w8, q.u.cell? ⟨w7.heap.size + 1, 2, none⟩ = some (.string ⟨#[]⟩) := fun q => (q.h.cell (p := ⟨w7.heap.size + 1, 2, none⟩) (show w7.heap.size + 1 < w8.heap.size by omega)).trans (by rw [hw8]; go_simp)
              have B3 : ∀ q : BelowOf w8, q.u.cell? ⟨w7.heap.size + 1, 3, none⟩ = some (.int .i64 0) := fun q => (q.h.cell (p := ⟨w7.heap.size + 1, 3, none⟩) (show w7.heap.size + 1 < w8.heap.size by omega)).trans (by rw [hw8]; go_simp)
              have D1 : ∀ q : BelowOf w8, q.u.cell? ⟨w6.heap.size, 1, none⟩ = some (.slice kb K kc2) := fun q => ((HUW.out _ q.h).cell (p := ⟨w6.heap.size, 1, none⟩) hlw).trans hx1
              have D2 : ∀ q : BelowOf w8, q.u.cell? ⟨w6.heap.size, 2, none⟩ = some (.slice vb K vc2) := fun q => ((HUW.out _ q.h).cell (p := ⟨w6.heap.size, 2, none⟩) hlw).trans hx2
              have HKX : Hid (∀ u, Below w8.heap.size w8 u → Kx u (w6.heap.size + 1) (ahead m i) ∧ u.cell? ⟨w7.heap.size, 0, none⟩ = some (.int .i64 0) ∧ u.cell? ⟨w7.heap.size, 1, none⟩ = some (.int .u64 0) ∧ u.cell? ⟨w7.heap.size, 2, none⟩ = some (.string ⟨#[]⟩) ∧ u.cell? ⟨w7.heap.size, 3, none⟩ = some (.int .i64 0)) := fun u hu => ⟨⟨((HUW.out _ hu).cell (p := ⟨w6.heap.size + 1, 0, none⟩) (show w6.heap.size + 1 < wr.heap.size by omega)).trans k0, ((HUW.out _ hu).cell (p := ⟨w6.heap.size + 1, 1, none⟩) (show w6.heap.size + 1 < wr.heap.size by omega)).trans k1, ((HUW.out _ hu).cell (p := ⟨w6.heap.size + 1, 2, none⟩) (show w6.heap.size + 1 < wr.heap.size by omega)).trans k2, ((HUW.out _ hu).cell (p := ⟨w6.heap.size + 1, 3, none⟩) (show w6.heap.size + 1 < wr.heap.size by omega)).trans k3, fun j => ((HUW.out _ hu).frozen (p := ⟨w6.heap.size + 1, j, none⟩) (show w6.heap.size + 1 < wr.heap.size by omega)).trans (kf j)⟩, A0 ⟨u, hu⟩, A1 ⟨u, hu⟩, A2 ⟨u, hu⟩, A3 ⟨u, hu⟩⟩
              have HX12 : Hid (∀ u, Below w8.heap.size w8 u → u.cell? ⟨w6.heap.size, 1, none⟩ = some (.slice kb K kc2) ∧ u.cell? ⟨w6.heap.size, 2, none⟩ = some (.slice vb K vc2)) := fun u hu => ⟨D1 ⟨u, hu⟩, D2 ⟨u, hu⟩⟩
              have HS8 : Hid (w7.heap.size + 2 ≤ w8.heap.size) := by show _ ≤ _; rw [hw8]; simp
              clear hb7 hb8 hb78 hu6 hlw k0 k1 k2 k3 kf hx1 hx2 hkx
              go_upto_region 13 with fail
              rw [← hw8]
              clear hw8
              refine wp_region_below (by kernel_rfl) (by kernel_rfl) ?_
              repeat (go_big_quiet_step (rfl))
              refine wpQuiet_nil ?_
              intro wq hw'
              obtain ⟨⟨w9, hwq⟩, hw''⟩ := hw'
              subst hw''
              have HWQ := hide_p hwq
              clear hwq A0 A1 A2 A3 B0 B1 B2 B3 D1 D2
              obtain ⟨⟨k0, k1, k2, k3, kf⟩, a0, a1, a2, a3⟩ := HKX.out wq HWQ.out
              have hn7 : ¬ w7.heap.size = w6.heap.size + 1 := by omega
              go_wp2_with fail
              go_roundg (K + 1 - (i + 1))
              case measure => have := HJ.out.1; omega
              case rel =>
                have hw := wx4 wq (w6.heap.size + 1) (.int .i64 0) (.int .u64 0) (.string ⟨#[]⟩) (.int .i64 0)
                have hq6 := HU6.out ⟨wq, HWQ.out⟩
                have hs8 := HS8.out
                have hqs := HWQ.out.size
                have hfs := hw.size
                exact ⟨i + 1, by go_num, by omega, ⟨rfl, hq6.trans (hw.below (fun k hk => by omega) hq6.size), hw.cell (by omega) (HX12.out wq HWQ.out).1, hw.cell (by omega) (HX12.out wq HWQ.out).2, fun c => by omega, by omega⟩⟩
          · have c4i : ¬ (i : Int) ≤ (K : Int) := by omega
            have HE : Hid (Dv wr hb dd 1000 w.heap.size L Z Q ∧ Below w.heap.size w wr) := ⟨HD6.out.below hb6, HL6.out.trans (hb6.mono HL6.out.size)⟩
            clear HJ hb6 hkx hs6 hx2
            go_wp2_with fail
            go_roundg (M + 1 - (p + 1 + 1))
            case measure => have := HK6.out; omega
            case rel => exact ⟨p + 1 + 1, by go_num, by omega, by omega, ⟨rfl, HE.out⟩⟩
    · have c3i : ¬ (o : Int) ≤ (M : Int) := by omega
      have hdb : Db wr := by
        obtain ⟨_, _, _, h1, _⟩ := HI.out.2.1.l
        exact h1.db
      have HLV := hide_p (hlives_any wr hdb)
      have HLW := hide_p HI.out.2.2
      clear hrow HI hdb
      go_wp2_with fail
      refine HLV.out.mono ?_
      rintro e w2 ⟨rfl, hb2⟩
      have HE := hide_p (HLW.out.trans (hb2.mono HLW.out.size))
      clear hb2 HLV
      go_wp2
      go_ret
      exact ⟨rfl, HE.out⟩

end Go.Proofs.YthmocdabakkfhaaGreatDoor
