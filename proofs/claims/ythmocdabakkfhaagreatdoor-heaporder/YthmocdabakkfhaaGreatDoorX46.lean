/-
  HpGoes
-/
import Derived.Test.YthmocdabakkfhaaGreatDoorX45

/-
  Layer 9: the law's goes: all calls by both heaps, then all objects.
-/
namespace Go.Proofs.YthmocdabakkfhaaGreatDoor
set_option maxRecDepth 100000
open Go.RowKit Flo

theorem Mz.set {L : List Om} (h : Mz L) (i : Nat) {x : Om} (hx : x.k ≠ 5 → x.M = V0) : Mz (L.set i x) := by
  intro y hy
  rcases List.mem_or_eq_of_mem_set hy with c | c
  · exact h y c
  · rw [c]; exact hx
theorem Mz.snoc {L : List Om} (h : Mz L) {x : Om} (hx : x.M = V0) : Mz (L ++ [x]) := by
  intro y hy
  rcases List.mem_append.1 hy with c | c
  · exact h y c
  · rw [List.mem_singleton.1 c]; exact fun _ => hx
theorem Mz.at {L : List Om} (h : Mz L) {o : Int} {x : Om} (hx : atM L o = some x) : x.k ≠ 5 → x.M = V0 := by
  unfold atM at hx
  split at hx
  · exact h x (List.mem_of_getElem? hx)
  · cases hx
theorem tabM_k {L : List Om} {o : Int} {x : Om} (hx : tabM L o = some x) : x.k = 5 := of_decide_eq_true (Option.filter_eq_some_iff.1 hx).2
theorem Mz.setM {L : List Om} (h : Mz L) (lim : Nat) (o : Int) (k v : V4) : Mz (setM lim L o k v).2 := by
  unfold Go.Proofs.YthmocdabakkfhaaGreatDoor.setM
  cases ht : tabM L o with
  | none => exact h
  | some x =>
    have hx := tabM_k ht
    simp only
    split
    · exact h
    · split
      · split
        · exact h
        · split
          · exact h.set _ (fun q => absurd hx q)
          · exact h
      · split
        · exact h.set _ (fun q => absurd hx q)
        · exact h.set _ (fun q => absurd hx q)
theorem Mz.does {L : List Om} (h : Mz L) (lim : Nat) (c : Ac) : Mz (doesM lim L c) := by
  unfold doesM
  split
  · unfold tableM
    split
    · exact h.snoc rfl
    · exact h
  · split
    · exact h.setM lim _ _ _
    · split
      · unfold metaM
        cases ht : tabM L c.o with
        | none => exact h
        | some x =>
          have hx := tabM_k ht
          simp only
          split
          · exact h
          · exact h.set _ (fun q => absurd hx q)
      · split
        · unfold makeM
          split
          · exact h
          · split
            · exact h.snoc rfl
            · exact h
        · split
          · unfold slotM
            cases ht : atM L c.o with
            | none => exact h
            | some x =>
              have hx := h.at ht
              simp only
              split
              · exact h.set _ (fun q => hx q)
              · exact h
          · split
            · unfold markM
              cases ht : atM L c.o with
              | none => exact h
              | some x =>
                have hx := h.at ht
                simp only
                split
                · exact h
                · exact h.set _ (fun q => hx q)
            · exact h
/-- No held key's text is too long for an index. -/
def Sk (L : List Om) : Prop := ∀ m ∈ L, ∀ k ∈ m.ks, k.S.size ≤ 9223372036854775807
theorem Sk.set {L : List Om} (h : Sk L) (i : Nat) {x : Om} (hx : ∀ k ∈ x.ks, k.S.size ≤ 9223372036854775807) : Sk (L.set i x) := by
  intro y hy
  rcases List.mem_or_eq_of_mem_set hy with c | c
  · exact h y c
  · rw [c]; exact hx
theorem Sk.snoc {L : List Om} (h : Sk L) {x : Om} (hx : x.ks = []) : Sk (L ++ [x]) := by
  intro y hy
  rcases List.mem_append.1 hy with c | c
  · exact h y c
  · rw [List.mem_singleton.1 c, hx]; intro v hv; cases hv
theorem Sk.at {L : List Om} (h : Sk L) {o : Int} {x : Om} (hx : atM L o = some x) : ∀ k ∈ x.ks, k.S.size ≤ 9223372036854775807 := by
  unfold atM at hx
  split at hx
  · exact h x (List.mem_of_getElem? hx)
  · cases hx
theorem Sk.tab {L : List Om} (h : Sk L) {o : Int} {x : Om} (hx : tabM L o = some x) : ∀ k ∈ x.ks, k.S.size ≤ 9223372036854775807 := h.at (Option.filter_eq_some_iff.1 hx).1
theorem keyV_size (k : V4) (h : k.S.size ≤ 9223372036854775807) : (keyV k).S.size ≤ 9223372036854775807 := by
  show (yS k.K k.N k.S).size ≤ _
  unfold yS nS
  split
  · split
    · exact h
    · exact Nat.zero_le _
  · exact Nat.zero_le _
theorem Sk.setM {L : List Om} (h : Sk L) (lim : Nat) (o : Int) (k v : V4) (hk : k.S.size ≤ 9223372036854775807) : Sk (setM lim L o k v).2 := by
  unfold Go.Proofs.YthmocdabakkfhaaGreatDoor.setM
  cases ht : tabM L o with
  | none => exact h
  | some x =>
    have hx := h.tab ht
    simp only
    split
    · exact h
    · split
      · split
        · exact h
        · split
          · refine h.set _ (fun y hy => ?_)
            rcases List.mem_append.1 hy with c | c
            · exact hx y c
            · rw [List.mem_singleton.1 c]; exact keyV_size k hk
          · exact h
      · split
        · exact h.set _ (fun y hy => hx y (List.mem_of_mem_eraseIdx hy))
        · exact h.set _ (fun y hy => hx y hy)
theorem Sk.does {L : List Om} (h : Sk L) (lim : Nat) (c : Ac) (hc : c.Ok) : Sk (doesM lim L c) := by
  unfold doesM
  split
  · unfold tableM
    split
    · exact h.snoc rfl
    · exact h
  · split
    · exact h.setM lim _ _ _ hc.ks
    · split
      · unfold metaM
        cases ht : tabM L c.o with
        | none => exact h
        | some x =>
          have hx := h.tab ht
          simp only
          split
          · exact h
          · exact h.set _ (fun y hy => hx y hy)
      · split
        · unfold makeM
          split
          · exact h
          · split
            · exact h.snoc rfl
            · exact h
        · split
          · unfold slotM
            cases ht : atM L c.o with
            | none => exact h
            | some x =>
              have hx := h.at ht
              simp only
              split
              · exact h.set _ (fun y hy => hx y hy)
              · exact h
          · split
            · unfold markM
              cases ht : atM L c.o with
              | none => exact h
              | some x =>
                have hx := h.at ht
                simp only
                split
                · exact h
                · exact h.set _ (fun y hy => hx y hy)
            · exact h
theorem new_bad (lim : Int) (w : World) (c : lim < 0 ∨ 1048576 < lim) :
    Calls Tryz.prog 10 #[.int .i64 lim] w fun e w' => e = .returned (.tuple #[.pointer none, .int .i64 1]) ∧ Below w.heap.size w w' := by
  by_cases c1 : lim < 0
  · go_enter Tryz.func10, Tryz.ntmps10
    go_wp2
    exact bodyPost_ret (v := .tuple #[.pointer none, .int .i64 1]) (by simp [results, Tryz.results10, go_sem]) rfl ⟨rfl, by repeat' (first | with_reducible exact Below.refl _ _ | with_reducible apply Below.drew)⟩
  · have c2 : lim > 1048576 := by omega
    clear c
    go_enter Tryz.func10, Tryz.ntmps10
    go_wp2
    exact bodyPost_ret (v := .tuple #[.pointer none, .int .i64 1]) (by simp [results, Tryz.results10, go_sem]) rfl ⟨rfl, by repeat' (first | with_reducible exact Below.refl _ _ | with_reducible apply Below.drew)⟩
theorem LH.om {w : World} {hb lim : Nat} {L : List Om} {Z : Nat → Prop} (h : LH w hb lim L Z) : L.length ≤ 1048576 ∧ ∀ m ∈ L, m.vs.length = m.ks.length ∧ m.ks.length ≤ 1048576 ∧ m.sl.length ≤ 1048576 := by
  obtain ⟨used, R, os, hv, rfl⟩ := h
  refine ⟨by have := sum_len os; have := hv.sum; have := hv.hu; have := hv.hl; rw [List.length_map]; omega, fun m hm => ?_⟩
  obtain ⟨x, hx, rfl⟩ := List.mem_map.1 hm
  obtain ⟨i, hi, hxi⟩ := List.getElem_of_mem hx
  have h2 := sum_ge os i x (by rw [← hxi]; exact List.getElem?_eq_getElem hi)
  have := hv.sum
  have := hv.hu
  have := hv.hl
  have hw : x.wt = 1 + x.es.length + x.sl.length := rfl
  refine ⟨by simp [Ob.om], by simp [Ob.om]; omega, by simp [Ob.om]; omega⟩

/-- The reference's object of a number. -/
theorem RH.at {w : World} {db lim : Nat} {L : List Om} {Q : Nat → Prop} (h : RH w db lim L Q) : ∃ a cap, w.cell? ⟨db, 0, none⟩ = some (.slice a L.length cap) ∧ db < w.heap.size ∧ ∀ (p : Nat) m, L[p]? = some m → ∃ g kb kc vb vc sb sc, a = some ⟨g, 0, none⟩ ∧ g < w.heap.size ∧
    (w.cell? ⟨g, p * 10, none⟩ = some (.int .i64 m.k) ∧ w.cell? ⟨g, p * 10 + 1, none⟩ = some (.slice kb m.ks.length kc) ∧ w.cell? ⟨g, p * 10 + 2, none⟩ = some (.slice vb m.vs.length vc) ∧ w.cell? ⟨g, p * 10 + 3, none⟩ = some (.int .i64 m.M.K) ∧ w.cell? ⟨g, p * 10 + 4, none⟩ = some (.int .u64 m.M.N) ∧ w.cell? ⟨g, p * 10 + 5, none⟩ = some (.string m.M.S) ∧ w.cell? ⟨g, p * 10 + 6, none⟩ = some (.int .i64 m.M.O) ∧ w.cell? ⟨g, p * 10 + 7, none⟩ = some (.int .i64 m.a) ∧ w.cell? ⟨g, p * 10 + 8, none⟩ = some (.int .i64 m.b) ∧ w.cell? ⟨g, p * 10 + 9, none⟩ = some (.slice sb m.sl.length sc)) ∧ Vp w kb m.ks ∧ Vp w vb m.vs ∧ Vp w sb m.sl := by
  obtain ⟨R, rs, hr, rfl⟩ := h
  obtain ⟨a, cap, hR, hf⟩ := hr.form
  refine ⟨a, cap, by rw [hr.c0, hR, List.length_map], hr.lt _ hr.qd, fun p m hm => ?_⟩
  rw [List.getElem?_map] at hm
  cases hx : rs[p]? with
  | none => rw [hx] at hm; cases hm
  | some r =>
    rw [hx] at hm
    simp only [Option.map_some, Option.some.injEq] at hm
    subst hm
    have hp : p < rs.length := by
      rcases Nat.lt_or_ge p rs.length with q | q
      · exact q
      · rw [List.getElem?_eq_none q] at hx; cases hx
    obtain ⟨g, ha, hg, hc⟩ := hf (by omega)
    obtain ⟨kb, kc, ek, hk⟩ := (hr.ob p r hx).k.form
    obtain ⟨vb, vc, ev, hv⟩ := (hr.ob p r hx).v.form
    obtain ⟨sb, sc, es, hs⟩ := (hr.ob p r hx).s.form
    have hcr := hc p r hx
    refine ⟨g, kb, kc, vb, vc, sb, sc, ha, hg, ⟨hcr 0 (by omega), ?_, ?_, hcr 3 (by omega), hcr 4 (by omega), hcr 5 (by omega), hcr 6 (by omega), hcr 7 (by omega), hcr 8 (by omega), ?_⟩, hk, hv, hs⟩
    · rw [hcr 1 (by omega), ← ek]; rfl
    · rw [hcr 2 (by omega), ← ev]; rfl
    · rw [hcr 9 (by omega), ← es]; rfl
/-- What goes tells where the limit can be. -/
def GoesP (w : World) (lim : Nat) (e : Ending) (w' : World) : Prop := ∃ hb db L Z Q, e = .returned (.tuple #[.pointer (some ⟨hb, 0, none⟩), .pointer (some ⟨db, 0, none⟩), .bool true]) ∧ Dv w' hb db lim w.heap.size L Z Q ∧ Nn L ∧ Mz L ∧ Sk L ∧ Below w.heap.size w w'

set_option maxHeartbeats 4000000 in
theorem goes_any (lim : Nat) (hlm : lim ≤ 1048576) (v : Value) (cs : List Ac) (w : World) (db : Db w) (h : Acs w v cs) :
    Calls Tryz.prog 5 #[.int .i64 (lim : Int), v] w (GoesP w lim) := by
  have two : 1 < w.heap.size := World.block_lt_of_cell? w ⟨1, 0, none⟩ (db 0 (by decide))
  obtain ⟨a, cap, rfl, hf⟩ := h.form
  have HN := hide_p (hnew_any lim w hlm db)
  have HF := hide_p h
  have HF2 := hide_p hf
  have hlen := h.len
  obtain ⟨n, hn⟩ : ∃ n, n = cs.length := ⟨_, rfl⟩
  have HNN := hide_p hn
  rw [← hn] at hlen ⊢
  have HDB := hide_p db
  clear h hf hn db
  have l0 : ¬ (lim : Int) < 0 := by omega
  have l1 : ¬ (lim : Int) > 1048576 := by omega
  go_enter Tryz.func5, Tryz.ntmps5
  go_wp2_with fail
  refine HN.out.mono ?_
  rintro e w1 ⟨rfl, hh, hb1⟩
  have HDV := hide_p (dv_new hlm hh hb1 two 31)
  have HB2 : Hid (Below w.heap.size w (w1.alloc (.cells #[.slice none 0 0, .int .i64 (lim : Int)] 31))) := hb1.alloc hb1.size _
  have HL0 := hide_p (hh.lt w.heap.size rfl)
  clear hh hb1 HN
  go_wp2_with fail
  go_loopg [10] 400 (fun kk t10 wr => ∃ i : Nat, t10 = .int .i64 (i : Int) ∧ i ≤ n ∧ i ≤ 400 ∧ Hid (kk = 400 - i ∧ ∃ L Z Q, Dv wr w.heap.size w1.heap.size lim w.heap.size L Z Q ∧ Below w.heap.size w wr ∧ Nn L ∧ Mz L ∧ Sk L))
  case atStart => exact ⟨0, rfl, Nat.zero_le _, by omega, ⟨rfl, [], _, _, HDV.out, HB2.out, fun _ q => by (cases q), fun _ q => by (cases q), fun _ q => by (cases q)⟩⟩
  case round =>
    obtain ⟨i, rfl, hi, hi2, HI⟩ := hrel
    clear HDV HB2
    by_cases c : i < n ∧ i < 400
    · obtain ⟨c1, c2⟩ := c
      have c1i : (i : Int) < (n : Int) := by omega
      have c2i : (i : Int) < 400 := by omega
      obtain ⟨gb, go, rfl, hab, hc⟩ := HF2.out (by rw [← HNN.out]; omega)
      obtain ⟨ac, hac⟩ : ∃ ac, cs[i]? = some ac := ⟨cs[i]'(by rw [← HNN.out]; exact c1), List.getElem?_eq_getElem _⟩
      have hcell := hc i ac hac
      obtain ⟨hkk, L, Z, Q, hdv, hlow, hnn, hmz, hsk⟩ := HI.out
      have HCR : Hid (∀ u, Below w.heap.size w u → ∀ t, t < 13 → u.cell? ⟨gb, go + i * 13 + t, none⟩ = ac.cells[t]?) := fun u hu t ht => (hu.cell (p := ⟨gb, go + i * 13 + t, none⟩) hab).trans (hcell t ht)
      have hok := HF.out.ok ac (List.mem_of_getElem? hac)
      have HDO := hide_p (does_any hdv ac hok)
      have HK := hide_p hkk
      have HLW := hide_p hlow
      have HINV := hide_p (And.intro (hnn.does lim ac) (And.intro (hmz.does lim ac) (hsk.does lim ac hok)))
      have HOK := hide_p hok
      simp only [Ac.val] at HDO
      have x0 := HCR.out wr hlow 0 (by omega)
      have x1 := HCR.out wr hlow 1 (by omega)
      have x2 := HCR.out wr hlow 2 (by omega)
      have x3 := HCR.out wr hlow 3 (by omega)
      have x4 := HCR.out wr hlow 4 (by omega)
      have x5 := HCR.out wr hlow 5 (by omega)
      have x6 := HCR.out wr hlow 6 (by omega)
      have x7 := HCR.out wr hlow 7 (by omega)
      have x8 := HCR.out wr hlow 8 (by omega)
      have x9 := HCR.out wr hlow 9 (by omega)
      have x10 := HCR.out wr hlow 10 (by omega)
      have x11 := HCR.out wr hlow 11 (by omega)
      have x12 := HCR.out wr hlow 12 (by omega)
      simp only [Ac.cells, List.getElem?_cons_zero, List.getElem?_cons_succ, Nat.add_zero] at x0 x1 x2 x3 x4 x5 x6 x7 x8 x9 x10 x11 x12
      clear hc hcell hdv hlow hkk HI hac hok hnn hmz hsk
      go_wp2_with fail
      refine HDO.out.mono ?_
      rintro e w2 ⟨rfl, Z2, Q2, hd2, hl2⟩
      have HAS := hide_p (asks_any hd2 HINV.out.1 ac HOK.out)
      simp only [Ac.val] at HAS
      have HL2 := hide_p (HLW.out.trans hl2)
      have HD2 := hide_p hd2
      clear HDO x0 x1 x2 x3 x4 x5 x6 x7 x8 x9 x10 x11 x12
      have x0 := HCR.out w2 HL2.out 0 (by omega)
      have x1 := HCR.out w2 HL2.out 1 (by omega)
      have x2 := HCR.out w2 HL2.out 2 (by omega)
      have x3 := HCR.out w2 HL2.out 3 (by omega)
      have x4 := HCR.out w2 HL2.out 4 (by omega)
      have x5 := HCR.out w2 HL2.out 5 (by omega)
      have x6 := HCR.out w2 HL2.out 6 (by omega)
      have x7 := HCR.out w2 HL2.out 7 (by omega)
      have x8 := HCR.out w2 HL2.out 8 (by omega)
      have x9 := HCR.out w2 HL2.out 9 (by omega)
      have x10 := HCR.out w2 HL2.out 10 (by omega)
      have x11 := HCR.out w2 HL2.out 11 (by omega)
      have x12 := HCR.out w2 HL2.out 12 (by omega)
      simp only [Ac.cells, List.getElem?_cons_zero, List.getElem?_cons_succ, Nat.add_zero] at x0 x1 x2 x3 x4 x5 x6 x7 x8 x9 x10 x11 x12
      clear hd2 hl2
      go_wp2_with fail
      refine HAS.out.mono ?_
      rintro e w3 ⟨rfl, hb3⟩
      have HE : Hid (∃ L Z Q, Dv w3 w.heap.size w1.heap.size lim w.heap.size L Z Q ∧ Below w.heap.size w w3 ∧ Nn L ∧ Mz L ∧ Sk L) := ⟨_, Z2, Q2, HD2.out.below hb3, HL2.out.trans (hb3.mono HL2.out.size), HINV.out.1, HINV.out.2⟩
      clear HAS HD2 HL2 hb3 HINV HLW HCR HOK x0 x1 x2 x3 x4 x5 x6 x7 x8 x9 x10 x11 x12
      go_wp2_with fail
      go_roundg (400 - (i + 1))
      case measure => have := HK.out; omega
      case rel => exact ⟨i + 1, by go_num, by omega, by omega, ⟨rfl, HE.out⟩⟩
    · obtain ⟨hkk, L, Z, Q, hdv, hlow, hnn, hmz, hsk⟩ := HI.out
      have HD := hide_p hdv
      have HLW := hide_p hlow
      have HIN := hide_p (And.intro hnn (And.intro hmz hsk))
      obtain ⟨M, hM⟩ : ∃ M, M = L.length := ⟨_, rfl⟩
      have HM := hide_p hM
      have hMl : M ≤ 1048576 := by rw [hM]; exact hdv.l.om.1
      obtain ⟨w5, hw5⟩ : ∃ x, x = wr := ⟨_, rfl⟩
      subst hw5
      have HC := hide_p c
      clear HI hkk hdv hlow hnn hmz hsk hM HF HF2 HNN
      by_cases c1 : (i : Int) < (n : Int)
      all_goals
        have c2 : (i : Int) < 400 ∨ ¬ (i : Int) < 400 := by omega
        first
          | (replace c2 : ¬ (i : Int) < 400 := by have := HC.out; omega)
          | skip
        clear HC c
        go_wp2_with fail
        go_loopg [11] (M + 2) (fun kk t11 wr => ∃ o : Nat, t11 = .int .i64 (o : Int) ∧ o ≤ M + 2 ∧ Hid (kk = M + 2 - o ∧ Dv wr w.heap.size w1.heap.size lim w.heap.size L Z Q ∧ Below w.heap.size w wr))
        case atStart => exact ⟨0, rfl, by omega, ⟨rfl, HD.out, HLW.out⟩⟩
        case round =>
          obtain ⟨o, rfl, ho, HI⟩ := hrel
          clear HD HLW
          obtain ⟨a2, cap2, hd0, hdl, -⟩ := HI.out.2.1.r.at
          rw [← HM.out] at hd0
          by_cases c3 : o ≤ M + 1
          · have c3i : (o : Int) ≤ (M : Int) + 1 := by omega
            by_cases d : 1 ≤ o ∧ o ≤ M
            · obtain ⟨p, hp⟩ : ∃ p : Nat, o = p + 1 := ⟨o - 1, by omega⟩
              subst hp
              obtain ⟨m, hm⟩ : ∃ m, L[p]? = some m := ⟨L[p]'(by have := HM.out; omega), List.getElem?_eq_getElem _⟩
              have hat : atM L ((p : Int) + 1) = some m := by
                unfold atM
                rw [if_pos (by have := HM.out; omega), show ((p : Int) + 1 - 1).toNat = p by omega]
                exact hm
              have HOB := hide_p ((lobject_any HI.out.2.1.l HIN.out.2.1 ((p : Int) + 1)).1 m hat)
              have HOM := hide_p (HI.out.2.1.l.om.2 m (List.mem_of_getElem? hm))
              have HMM := hide_p hm
              clear hat hm
              rw [show ((p + 1 : Nat) : Int) = (p : Int) + 1 by omega] at c3i ⊢
              go_wp2_with fail
              refine HOB.out.mono ?_
              rintro e w6 ⟨⟨ka, va, sa, kc, vc, sc, rfl, hv1, hv2, hv3⟩, hb6⟩
              obtain ⟨w7, hw7⟩ : ∃ x, x = w6.alloc (.cells #[.int .i64 m.k, .slice ka m.ks.length kc, .slice va m.vs.length vc, .int .i64 m.M.K, .int .u64 m.M.N, .string m.M.S, .int .i64 m.M.O, .int .i64 m.a, .int .i64 m.b, .slice sa m.sl.length sc] 39) := ⟨_, rfl⟩
              have hb7 : Below w6.heap.size w6 w7 := by rw [hw7]; exact (Below.refl _ _).alloc (Nat.le_refl _) _
              have hl7 : w6.heap.size < w7.heap.size := by rw [hw7]; simp
              have hbb := hb6.trans (hb7.mono hb6.size)
              have hdv7 := HI.out.2.1.below hbb
              have HV := hide_p (And.intro (hv1.below hb7) (And.intro (hv2.below hb7) (hv3.below hb7)))
              obtain ⟨a3, cap3, hd0', hdl', hrow⟩ := hdv7.r.at
              obtain ⟨g, kb, kc2, vb, vc2, sb, sc2, rfl, hg7, ⟨r0, r1, r2, r3, r4, r5, r6, r7, r8, r9⟩, y1, y2, y3⟩ := hrow p m HMM.out
              rw [← HM.out] at hd0'
              have HY := hide_p (And.intro y1 (And.intro y2 y3))
              have HIS : Hid (∀ q : BelowOf w7, Calls Tryz.prog 14 #[.pointer (some ⟨w1.heap.size, 0, none⟩), .int .i64 ((p : Int) + 1)] q.u fun e w' => e = .returned (.bool true) ∧ Below q.u.heap.size q.u w') := fun q => by
                obtain ⟨R, rs, hr, hrs⟩ := (hdv7.below q.h).r
                have h1 := (ris_any hr ((p : Int) + 1)).mono (fun e w' h => below_same h)
                rw [show decide (1 ≤ (p : Int) + 1 ∧ (p : Int) + 1 ≤ rs.length) = true from decide_eq_true (by have := HM.out; rw [← hrs, List.length_map] at this; omega)] at h1
                exact h1
              have HSM : Hid (∀ q : BelowOf w7, Calls Tryz.prog 15 #[.agg #[.int .i64 m.k, .slice ka m.ks.length kc, .slice va m.vs.length vc, .int .i64 m.M.K, .int .u64 m.M.N, .string m.M.S, .int .i64 m.M.O, .int .i64 m.a, .int .i64 m.b, .slice sa m.sl.length sc], .agg #[.int .i64 m.k, .slice kb m.ks.length kc2, .slice vb m.vs.length vc2, .int .i64 m.M.K, .int .u64 m.M.N, .string m.M.S, .int .i64 m.M.O, .int .i64 m.a, .int .i64 m.b, .slice sb m.sl.length sc2]] q.u fun e w' => e = .returned (.bool true) ∧ Below q.u.heap.size q.u w') := fun q => rsame_any m q.u ka va sa kb vb sb kc vc sc kc2 vc2 sc2 HOM.out.1 HOM.out.2.1 HOM.out.2.2 (HV.out.1.below q.h) (HV.out.2.1.below q.h) (HV.out.2.2.below q.h) (HY.out.1.below q.h) (HY.out.2.1.below q.h) (HY.out.2.2.below q.h)
              have HNX : Hid (∀ q : BelowOf w7, Dv q.u w.heap.size w1.heap.size lim w.heap.size L Z Q ∧ Below w.heap.size w q.u) := fun q => ⟨hdv7.below q.h, (HI.out.2.2.trans (hbb.mono HI.out.2.2.size)).trans (q.h.mono (Nat.le_trans HI.out.2.2.size hbb.size))⟩
              have A0 : ∀ q : BelowOf w7, q.u.cell? ⟨w6.heap.size, 0, none⟩ = some (.int .i64 m.k) := fun q => (q.h.cell hl7).trans (by rw [hw7]; exact World.cell?_alloc_at _ _ _ _ rfl)
              have A1 : ∀ q : BelowOf w7, q.u.cell? ⟨w6.heap.size, 1, none⟩ = some (.slice ka m.ks.length kc) := fun q => (q.h.cell hl7).trans (by rw [hw7]; exact World.cell?_alloc_at _ _ _ _ rfl)
              have A2 : ∀ q : BelowOf w7, q.u.cell? ⟨w6.heap.size, 2, none⟩ = some (.slice va m.vs.length vc) := fun q => (q.h.cell hl7).trans (by rw [hw7]; exact World.cell?_alloc_at _ _ _ _ rfl)
              have A3 : ∀ q : BelowOf w7, q.u.cell? ⟨w6.heap.size, 3, none⟩ = some (.int .i64 m.M.K) := fun q => (q.h.cell hl7).trans (by rw [hw7]; exact World.cell?_alloc_at _ _ _ _ rfl)
              have A4 : ∀ q : BelowOf w7, q.u.cell? ⟨w6.heap.size, 4, none⟩ = some (.int .u64 m.M.N) := fun q => (q.h.cell hl7).trans (by rw [hw7]; exact World.cell?_alloc_at _ _ _ _ rfl)
              have A5 : ∀ q : BelowOf w7, q.u.cell? ⟨w6.heap.size, 5, none⟩ = some (.string m.M.S) := fun q => (q.h.cell hl7).trans (by rw [hw7]; exact World.cell?_alloc_at _ _ _ _ rfl)
              have A6 : ∀ q : BelowOf w7, q.u.cell? ⟨w6.heap.size, 6, none⟩ = some (.int .i64 m.M.O) := fun q => (q.h.cell hl7).trans (by rw [hw7]; exact World.cell?_alloc_at _ _ _ _ rfl)
              have A7 : ∀ q : BelowOf w7, q.u.cell? ⟨w6.heap.size, 7, none⟩ = some (.int .i64 m.a) := fun q => (q.h.cell hl7).trans (by rw [hw7]; exact World.cell?_alloc_at _ _ _ _ rfl)
              have A8 : ∀ q : BelowOf w7, q.u.cell? ⟨w6.heap.size, 8, none⟩ = some (.int .i64 m.b) := fun q => (q.h.cell hl7).trans (by rw [hw7]; exact World.cell?_alloc_at _ _ _ _ rfl)
              have A9 : ∀ q : BelowOf w7, q.u.cell? ⟨w6.heap.size, 9, none⟩ = some (.slice sa m.sl.length sc) := fun q => (q.h.cell hl7).trans (by rw [hw7]; exact World.cell?_alloc_at _ _ _ _ rfl)
              have B0 : ∀ q : BelowOf w7, q.u.cell? ⟨g, p * 10, none⟩ = some (.int .i64 m.k) := fun q => (q.h.cell hg7).trans r0
              have B1 : ∀ q : BelowOf w7, q.u.cell? ⟨g, p * 10 + 1, none⟩ = some (.slice kb m.ks.length kc2) := fun q => (q.h.cell hg7).trans r1
              have B2 : ∀ q : BelowOf w7, q.u.cell? ⟨g, p * 10 + 2, none⟩ = some (.slice vb m.vs.length vc2) := fun q => (q.h.cell hg7).trans r2
              have B3 : ∀ q : BelowOf w7, q.u.cell? ⟨g, p * 10 + 3, none⟩ = some (.int .i64 m.M.K) := fun q => (q.h.cell hg7).trans r3
              have B4 : ∀ q : BelowOf w7, q.u.cell? ⟨g, p * 10 + 4, none⟩ = some (.int .u64 m.M.N) := fun q => (q.h.cell hg7).trans r4
              have B5 : ∀ q : BelowOf w7, q.u.cell? ⟨g, p * 10 + 5, none⟩ = some (.string m.M.S) := fun q => (q.h.cell hg7).trans r5
              have B6 : ∀ q : BelowOf w7, q.u.cell? ⟨g, p * 10 + 6, none⟩ = some (.int .i64 m.M.O) := fun q => (q.h.cell hg7).trans r6
              have B7 : ∀ q : BelowOf w7, q.u.cell? ⟨g, p * 10 + 7, none⟩ = some (.int .i64 m.a) := fun q => (q.h.cell hg7).trans r7
              have B8 : ∀ q : BelowOf w7, q.u.cell? ⟨g, p * 10 + 8, none⟩ = some (.int .i64 m.b) := fun q => (q.h.cell hg7).trans r8
              have B9 : ∀ q : BelowOf w7, q.u.cell? ⟨g, p * 10 + 9, none⟩ = some (.slice sb m.sl.length sc2) := fun q => (q.h.cell hg7).trans r9
              have D0 : ∀ q : BelowOf w7, q.u.cell? ⟨w1.heap.size, 0, none⟩ = some (.slice (some ⟨g, 0, none⟩) M cap3) := fun q => (q.h.cell hdl').trans hd0'
              have hpm : (p : Int) < (M : Int) := by omega
              have HKK := hide_p HI.out.1
              have e1 : (p : Int) + 1 - 1 = (p : Int) := by omega
              clear y1 y2 y3 hv1 hv2 hv3 HOB HOM HMM HI hd0 hdl hd0' hdl' r0 r1 r2 r3 r4 r5 r6 r7 r8 r9 HV HY hrow hdv7 hbb hb6 hb7 hg7 hl7
              go_upto_region 16 with fail
              rw [← hw7]
              clear hw7
              refine wp_region_below (by kernel_rfl) (by kernel_rfl) ?_
              repeat (go_big_quiet_step (rfl))
              go_big_quiet_step ((go_at_call 14; exact below_of (HIS.out _)))
              repeat (go_big_quiet_step (rfl))
              go_big_quiet_step ((go_at_call 15; exact below_of (HSM.out _)))
              repeat (go_big_quiet_step (rfl))
              refine wpQuiet_nil ?_
              intro wq hw'
              obtain ⟨⟨w9, hwq⟩, hw''⟩ := hw'
              subst hw''
              have HE : Hid (Dv wq w.heap.size w1.heap.size lim w.heap.size L Z Q ∧ Below w.heap.size w wq) := HNX.out ⟨_, hwq⟩
              clear hwq A0 A1 A2 A3 A4 A5 A6 A7 A8 A9 B0 B1 B2 B3 B4 B5 B6 B7 B8 B9 D0 HIS HSM HNX
              go_wp2_with fail
              go_roundg (M + 2 - (p + 1 + 1))
              case measure => have := HKK.out; omega
              case rel => exact ⟨p + 1 + 1, by go_num, by omega, ⟨rfl, HE.out⟩⟩
            · have hat : atM L (o : Int) = none := by
                unfold atM
                rw [if_neg (by have := HM.out; omega)]
              have HOB := hide_p ((lobject_any HI.out.2.1.l HIN.out.2.1 (o : Int)).2 hat)
              clear hat
              go_wp2_with fail
              refine HOB.out.mono ?_
              rintro e w6 ⟨rfl, hb6⟩
              obtain ⟨w7, hw7⟩ : ∃ x, x = w6.alloc (.cells #[.int .i64 0, .slice none 0 0, .slice none 0 0, .int .i64 0, .int .u64 0, .string ⟨#[]⟩, .int .i64 0, .int .i64 0, .int .i64 0, .slice none 0 0] 39) := ⟨_, rfl⟩
              have hb7 : Below w6.heap.size w6 w7 := by rw [hw7]; exact (Below.refl _ _).alloc (Nat.le_refl _) _
              have hbb := hb6.trans (hb7.mono hb6.size)
              have hdv7 := HI.out.2.1.below hbb
              have HIS : Hid (∀ q : BelowOf w7, Calls Tryz.prog 14 #[.pointer (some ⟨w1.heap.size, 0, none⟩), .int .i64 (o : Int)] q.u fun e w' => e = .returned (.bool false) ∧ Below q.u.heap.size q.u w') := fun q => by
                obtain ⟨R, rs, hr, hrs⟩ := (hdv7.below q.h).r
                have h1 := (ris_any hr (o : Int)).mono (fun e w' h => below_same h)
                rw [show decide (1 ≤ (o : Int) ∧ (o : Int) ≤ rs.length) = false from decide_eq_false (by have := HM.out; rw [← hrs, List.length_map] at this; omega)] at h1
                exact h1
              have HNX : Hid (∀ q : BelowOf w7, Dv q.u w.heap.size w1.heap.size lim w.heap.size L Z Q ∧ Below w.heap.size w q.u) := fun q => ⟨hdv7.below q.h, (HI.out.2.2.trans (hbb.mono HI.out.2.2.size)).trans (q.h.mono (Nat.le_trans HI.out.2.2.size hbb.size))⟩
              have HKK := hide_p HI.out.1
              clear HOB HI hd0 hdl hdv7 hbb hb6 hb7
              go_upto_region 16 with fail
              rw [← hw7]
              clear hw7
              refine wp_region_below (by kernel_rfl) (by kernel_rfl) ?_
              repeat (go_big_quiet_step (rfl))
              go_big_quiet_step ((go_at_call 14; exact below_of (HIS.out _)))
              repeat (go_big_quiet_step (rfl))
              refine wpQuiet_nil ?_
              intro wq hw'
              obtain ⟨⟨w9, hwq⟩, hw''⟩ := hw'
              subst hw''
              have HE : Hid (Dv wq w.heap.size w1.heap.size lim w.heap.size L Z Q ∧ Below w.heap.size w wq) := HNX.out ⟨_, hwq⟩
              clear hwq HIS HNX
              go_wp2_with fail
              go_roundg (M + 2 - (o + 1))
              case measure => have := HKK.out; omega
              case rel => exact ⟨o + 1, by go_num, by omega, ⟨rfl, HE.out⟩⟩
          · have c3i : ¬ (o : Int) ≤ (M : Int) + 1 := by omega
            have HE : Hid (GoesP w lim (.returned (.tuple #[.pointer (some ⟨w.heap.size, 0, none⟩), .pointer (some ⟨w1.heap.size, 0, none⟩), .bool true])) wr) := ⟨_, _, L, Z, Q, rfl, HI.out.2.1, HIN.out.1, HIN.out.2.1, HIN.out.2.2, HI.out.2.2⟩
            clear HI
            go_wp2
            exact bodyPost_ret (v := .tuple #[.pointer (some ⟨w.heap.size, 0, none⟩), .pointer (some ⟨w1.heap.size, 0, none⟩), .bool true]) (by simp [results, Tryz.results5, go_sem]) rfl HE.out

end Go.Proofs.YthmocdabakkfhaaGreatDoor
