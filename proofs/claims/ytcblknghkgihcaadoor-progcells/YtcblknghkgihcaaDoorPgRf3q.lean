/-
  Layer 13: the reference's read, walked.
-/
import Derived.Test.YtcblknghkgihcaaDoorGB
namespace Go.Proofs.YtcblknghkgihcaaDoor
set_option maxRecDepth 100000
open Go.RowKit Crc Pg

/-- What the reference's read tells. -/
def RdR (w : World) (r : Pr) (e : Ending) (w' : World) : Prop :=
  ∃ (pa rg : Int) (a1 : Option Addr) (n1 c1 : Nat) (a2 : Option Addr) (n2 c2 : Nat) (a3 : Option Addr) (n3 c3 : Nat) (a4 : Option Addr) (n4 c4 : Nat), e = .returned (.agg #[.int .i64 pa, .int .i64 rg, .slice a1 n1 c1, .slice a2 n2 c2, .slice a3 n3 c3, .slice a4 n4 c4]) ∧ Below w.heap.size w w' ∧ PRS (fun k => w.heap.size ≤ k) w' r ⟨pa, rg, .slice a1 n1 c1, .slice a2 n2 c2, .slice a3 n3 c3, .slice a4 n4 c4⟩

theorem at_cnt (t : Tr) (i : Nat) : (atT t i).cnt ≤ t.cnt := by
  obtain ⟨k, n, s, l⟩ := t
  rw [Tr.cnt_mk]
  unfold atT
  simp only
  split
  · rw [List.getD_eq_getElem?_getD]
    by_cases hi : i < l.length
    · rw [List.getElem?_eq_getElem hi]
      have := cnts_getl i hi
      show l[i].cnt ≤ _
      omega
    · rw [List.getElem?_eq_none (by omega)]
      show (Tr.mk 0 0 nob []).cnt ≤ _
      rw [Tr.cnt_mk, cnts_nil]; omega
  · show (Tr.mk 0 0 nob []).cnt ≤ _
    rw [Tr.cnt_mk, cnts_nil]; omega
/-- A part of a tree. -/
theorem at_in {t : Tr} {v : Value} {w : World} (h : CR w t v) (i : Nat) : ∃ u, Hid (CR w (atT t i) u) ∧ Hid (∀ w', Below w.heap.size w w' → Calls Tryd.prog 57 #[v, .int .i64 i] w' fun e w'' => e = .returned u ∧ Below w'.heap.size w' w'') ∧ ∃ k n s b m c, u = .agg #[.int .i64 k, .int .u64 (n : Nat), .string s, .slice b m c] := by
  obtain ⟨b, c, h1, h2⟩ := rat_any t v w h i
  exact ⟨_, h1, h2, _, _, _, _, _, _, rfl⟩
theorem sm_in {t : Tr} {v : Value} {w : World} (h : CR w t v) : Hid (∀ w', Below w.heap.size w w' → Calls Tryd.prog 56 #[v] w' fun e w'' => e = .returned (.int .i64 (smT t)) ∧ Below w'.heap.size w' w'') :=
  fun w' hb => rsmall_any t v w' (h.kept hb (Nat.le_refl _))
theorem many_in {t : Tr} {v : Value} {w : World} (h : CR w t v) : Hid (∀ w', Below w.heap.size w w' → Calls Tryd.prog 58 #[v] w' fun e w'' => e = .returned (.int .i64 (manyL t).length) ∧ Below w'.heap.size w' w'') :=
  fun w' hb => rmany_any t v w' (h.kept hb (Nat.le_refl _))

set_option maxHeartbeats 16000000 in
theorem read_of (m : Nat) (hm : m ≤ 100) (HR0 : ∀ m', m = m' + 1 → ∀ (t : Tr) (v : Value) (w : World), CR w t v → Stx t → t.cnt ≤ 1000000 → Calls Tryd.prog 36 #[v, .int .i64 (100 - (m' : Int))] w (RdR w (rdT m' t)))
    (t : Tr) (v : Value) (w : World) (h : CR w t v) (hst : Stx t) (hcnt : t.cnt ≤ 1000000) :
    Calls Tryd.prog 36 #[v, .int .i64 (100 - (m : Int))] w (RdR w (rdT m t)) := by
  obtain ⟨iu0, iu1, iu2, iu3, iu4⟩ := info_parts infoUp2
  obtain ⟨ii0, ii1, ii2, ii3, ii4⟩ := info_parts infoIns2
  obtain ⟨iv0, iv1, iv2, iv3, iv4⟩ := info_parts infoVl2
  obtain ⟨ip0, ip1, ip2, ip3, ip4⟩ := info_parts infoPr2
  have hlens : ∀ i, (manyL (atT t i)).length ≤ 1000000 := by
    intro i
    have h1 : ∀ p : Tr, (manyL p).length ≤ p.cnt := by
      intro p
      obtain ⟨k, n, s, l⟩ := p
      rw [Tr.cnt_mk]
      have := tlen_cnts l
      unfold manyL
      simp only
      split <;> simp <;> omega
    have h2 : (atT t i).cnt ≤ t.cnt := by
      obtain ⟨k, n, s, l⟩ := t
      rw [Tr.cnt_mk]
      unfold atT
      simp only
      split
      · rw [List.getD_eq_getElem?_getD]
        by_cases hi : i < l.length
        · rw [List.getElem?_eq_getElem hi]
          have := cnts_getl i hi
          show l[i].cnt ≤ _
          omega
        · rw [List.getElem?_eq_none (by omega)]
          show (Tr.mk 0 0 nob []).cnt ≤ _
          rw [Tr.cnt_mk, cnts_nil]; omega
      · show (Tr.mk 0 0 nob []).cnt ≤ _
        rw [Tr.cnt_mk, cnts_nil]; omega
    exact Nat.le_trans (h1 _) (Nat.le_trans h2 hcnt)
  have HLEN := hide_p hlens
  obtain ⟨u0, HC0, HA0, -⟩ := at_in h 0
  obtain ⟨u1, HC1, HA1, -⟩ := at_in h 1
  obtain ⟨u2, HC2, HA2, -⟩ := at_in h 2
  obtain ⟨u3, HC3, HA3, -⟩ := at_in h 3
  obtain ⟨u4, HC4, HA4, -⟩ := at_in h 4
  obtain ⟨u5, HC5, HA5, -⟩ := at_in h 5
  have HS0 := sm_in HC0.out
  have HS1 := sm_in HC1.out
  have HM2 := many_in HC2.out
  have HM3 := many_in HC3.out
  have HM4 := many_in HC4.out
  have HM5 := many_in HC5.out
  obtain ⟨a2, ha2⟩ : ∃ a2, a2 = atT t 2 := ⟨_, rfl⟩
  rw [← ha2] at HC2 HM2
  have hl2 : (manyL a2).length ≤ 1000000 := by rw [ha2]; exact hlens 2
  obtain ⟨N2, hN2⟩ : ∃ N2, N2 = (manyL a2).length := ⟨_, rfl⟩
  rw [← hN2] at HM2 hl2
  have HN2 := hide_p hN2
  have HAJ2 := hide_p ha2
  obtain ⟨a3, ha3⟩ : ∃ a3, a3 = atT t 3 := ⟨_, rfl⟩
  rw [← ha3] at HC3 HM3
  have hl3 : (manyL a3).length ≤ 1000000 := by rw [ha3]; exact hlens 3
  obtain ⟨N3, hN3⟩ : ∃ N3, N3 = (manyL a3).length := ⟨_, rfl⟩
  rw [← hN3] at HM3 hl3
  have HN3 := hide_p hN3
  have HAJ3 := hide_p ha3
  obtain ⟨a4, ha4⟩ : ∃ a4, a4 = atT t 4 := ⟨_, rfl⟩
  rw [← ha4] at HC4 HM4
  have hl4 : (manyL a4).length ≤ 1000000 := by rw [ha4]; exact hlens 4
  obtain ⟨N4, hN4⟩ : ∃ N4, N4 = (manyL a4).length := ⟨_, rfl⟩
  rw [← hN4] at HM4 hl4
  have HN4 := hide_p hN4
  have HAJ4 := hide_p ha4
  obtain ⟨a5, ha5⟩ : ∃ a5, a5 = atT t 5 := ⟨_, rfl⟩
  rw [← ha5] at HC5 HM5
  have hl5 : (manyL a5).length ≤ 1000000 := by rw [ha5]; exact hlens 5
  obtain ⟨N5, hN5⟩ : ∃ N5, N5 = (manyL a5).length := ⟨_, rfl⟩
  rw [← hN5] at HM5 hl5
  have HN5 := hide_p hN5
  have HAJ5 := hide_p ha5
  obtain ⟨D, hDD⟩ : ∃ D : Int, D = 100 - (m : Int) := ⟨_, rfl⟩
  rw [← hDD]
  have HDD := hide_p hDD
  have hm2a : D ≤ 100 := by omega
  have hm2b : 0 ≤ D := by omega
  have hwr : IntKind.i64.wrap (D + 1) = D + 1 := by
    simp [IntKind.wrap, IntKind.signed, IntKind.bits]
    omega
  have HKV : Hid (∀ z ∈ manyL a4, Stx z ∧ Ntx z) := by
    intro z hz
    rw [ha4] at hz
    refine ⟨(hst.at 4).many hz, ?_⟩
    have hnt := h.ntx.at 4
    unfold manyL at hz
    split at hz
    · exact hnt.kid hz
    · cases hz
  have HKX : Hid (∀ i, Stx (atT a5 i) ∧ (atT a5 i).cnt ≤ 1000000) := by
    intro i
    rw [ha5]
    exact ⟨(hst.at 5).at i, Nat.le_trans (at_cnt _ i) (Nat.le_trans (at_cnt _ 5) hcnt)⟩
  have HI64 : Hid (i64 (smT (atT t 0) : Int) ∧ i64 (smT (atT t 1) : Int)) := by
    have h0 := sm_le (atT t 0)
    have h1 := sm_le (atT t 1)
    exact ⟨⟨by omega, by omega⟩, ⟨by omega, by omega⟩⟩
  obtain ⟨pa, hpa⟩ : ∃ pa : Int, pa = smT (atT t 0) := ⟨_, rfl⟩
  obtain ⟨rg, hrg⟩ : ∃ rg : Int, rg = smT (atT t 1) := ⟨_, rfl⟩
  rw [← hpa] at HS0
  rw [← hrg] at HS1
  have HPA := hide_p (And.intro hpa hrg)
  rw [← hpa, ← hrg] at HI64
  obtain ⟨r, hr⟩ : ∃ r, r = rdT m t := ⟨_, rfl⟩
  rw [← hr]
  have HRD := hide_p hr
  have HR := hide_p HR0
  have HB0 := hide_p (Below.refl w.heap.size w)
  obtain ⟨a, cap, rfl⟩ := h.shape
  clear hDD h hst hcnt hlens hN2 hN3 hN4 hN5 hpa hrg hr HR0 ha2 ha3 ha4 ha5
  generalize t.k = k at *
  generalize t.n = n at *
  generalize t.s = s at *
  generalize t.l = l at *
  unfold cellV at HA0 HA1 HA2 HA3 HA4 HA5 ⊢
  obtain ⟨C, hC⟩ : ∃ C, C = (#[.int .i64 k, .int .u64 n, .string s, .slice a l.length cap] : Array Value) := ⟨_, rfl⟩
  obtain ⟨w1, hw1⟩ : ∃ w1, w1 = (w.alloc (.cells #[.int .i64 k, .int .u64 n, .string s, .slice a l.length cap] 33)).alloc (.cells #[.int .i64 0, .int .i64 0, .slice none 0 0, .slice none 0 0, .slice none 0 0, .slice none 0 0] 27) := ⟨_, rfl⟩
  have HB1 : Hid (Below w.heap.size w w1) := by show Below _ _ _; rw [hw1]; exact ((Below.refl _ _).alloc (Nat.le_refl _) _).alloc (by simp) _
  have HS1' : Hid (w1.heap.size = w.heap.size + 2) := by show _ = _; rw [hw1]; simp
  have HA1' : Hid (w1.heap[w.heap.size]? = some (.cells C 33 (0, 0)) ∧ w1.heap[w.heap.size + 1]? = some (.cells #[.int .i64 0, .int .i64 0, .slice none 0 0, .slice none 0 0, .slice none 0 0, .slice none 0 0] 27 (0, 0))) := by
    show _ ∧ _
    rw [hw1, hC]
    refine ⟨?_, heap_alloc_at _ _ _ (by simp)⟩
    rw [Below.heap_alloc _ _ _ (by simp)]
    exact heap_alloc_new _ _
  have HCB : Hid (∀ wq : World, wq.heap[w.heap.size]? = some (.cells C 33 (0, 0)) → wq.cell? ⟨w.heap.size, 0, none⟩ = some (.int .i64 k) ∧ wq.cell? ⟨w.heap.size, 1, none⟩ = some (.int .u64 n) ∧ wq.cell? ⟨w.heap.size, 2, none⟩ = some (.string s) ∧ wq.cell? ⟨w.heap.size, 3, none⟩ = some (.slice a l.length cap)) := by
    intro wq hq
    rw [hC] at hq
    exact block4 hq
  obtain ⟨x0, x1, x2, x3⟩ := HCB.out w1 HA1'.out.1
  have HCC := hide_p hC
  clear hC
  go_enter Tryd.func36, Tryd.ntmps36
  go_upto_region 1 with fail
  rw [← hw1]
  clear hw1
  go_cut [5] (fun t5 wc => ∃ bx, t5 = .pointer (some ⟨bx, 0, none⟩) ∧ Hid (RfS w C wc bx pa rg (.slice none 0 0) (.slice none 0 0) (.slice none 0 0) (.slice none 0 0) (.slice none 0 0) (.slice none 0 0) (.slice none 0 0) [] [] []))
  case first =>
    have HR0 : Hid (R0S w C w1 ∧ w1.heap[w.heap.size]? = some (.cells #[.int .i64 k, .int .u64 n, .string s, .slice a l.length cap] 33 (0, 0))) := ⟨⟨HB1.out, HA1'.out.1, HA1'.out.2⟩, by rw [← HCC.out]; exact HA1'.out.1⟩
    clear x0 x1 x2 x3
    refine wp_region_inv2 (by kernel_rfl) [14, 15, 16, 17, 18, 19, 20, 5] (fun L vs w' => ∃ v14 v15 v16 v17 v18 v19 v20 v5, vs = [v14, v15, v16, v17, v18, v19, v20, v5] ∧ (L 0 = true → v14 = (.agg #[.int .i64 k, .int .u64 n, .string s, .slice a l.length cap])) ∧ (L 1 = true → v15 = u0) ∧ (L 2 = true → v16 = (.int .i64 pa)) ∧ (L 3 = true → v17 = (.agg #[.int .i64 k, .int .u64 n, .string s, .slice a l.length cap])) ∧ (L 4 = true → v18 = u1) ∧ (L 5 = true → v19 = (.int .i64 rg)) ∧ (L 6 = true → v20 = (.agg #[.int .i64 pa, .int .i64 rg, .slice none 0 0, .slice none 0 0, .slice none 0 0, .slice none 0 0])) ∧ (L 1 = true → L 0 = true) ∧ (L 2 = true → L 1 = true) ∧ (L 4 = true → L 2 = true ∧ L 3 = true) ∧ (L 5 = true → L 4 = true) ∧ (L 6 = true → L 2 = true ∧ L 5 = true) ∧ (L 8 = true → L 5 = true ∧ L 6 = true ∧ L 7 = true) ∧ Hid ((L 8 = false → R0S w C w' ∧ w'.heap[w.heap.size]? = some (.cells #[.int .i64 k, .int .u64 n, .string s, .slice a l.length cap] 33 (0, 0))) ∧ (L 7 = true → L 8 = false → ∃ g, (v5 = .pointer (some ⟨g, 0, none⟩) ∧ w.heap.size + 2 ≤ g) ∧ w'.heap[g]? = some (.cells #[.int .i64 0, .int .i64 0, .slice none 0 0, .slice none 0 0, .slice none 0 0, .slice none 0 0] 27 (0, 0))) ∧ (L 8 = true → L 8 = false → True) ∧ (L 8 = true → ∃ g, v5 = .pointer (some ⟨g, 0, none⟩) ∧ RfS w C w' g pa rg (.slice none 0 0) (.slice none 0 0) (.slice none 0 0) (.slice none 0 0) (.slice none 0 0) (.slice none 0 0) (.slice none 0 0) [] [] []))) (by kernel_rfl) (by decide) (by simp) ?_ ⟨?_, ?_, ?_, ?_, ?_, ?_, ?_, ?_, ?_, trivial⟩ ?_
    · exact ⟨_, _, _, _, _, _, _, _, rfl, fun q => by (cases q), fun q => by (cases q), fun q => by (cases q), fun q => by (cases q), fun q => by (cases q), fun q => by (cases q), fun q => by (cases q), fun q => by (cases q), fun q => by (cases q), fun q => by (cases q), fun q => by (cases q), fun q => by (cases q), fun q => by (cases q), ⟨fun _ => ⟨HR0.out.1.below (Below.refl _ _).drew, HR0.out.2⟩, fun q => (by cases q), fun q => (by cases q), fun q => (by cases q)⟩⟩
    · rintro A L vs w' F G ⟨v14, v15, v16, v17, v18, v19, v20, v5, rfl, d0, d1, d2, d3, d4, d5, d6, m1, m2, m4, m5, m6, m8, HW⟩ hL hdep K' hK hK0
      have n8 : L 8 = false := not_yet hL (fun q => (m1 ((m2 ((m6 ((m8 q).2.1)).1)))))
      have h := (HW.out.1 n8).2
      obtain ⟨b0, b1, b2, b3⟩ := block4 h
      have gt : A.tmps[2]?.getD undef = .pointer (some ⟨w.heap.size, 0, none⟩) := evT ((G 2 (by decide)).trans rfl)
      clear F G
      go_simp
      refine hK 0 14 _ w' rfl ⟨_, _, _, _, _, _, _, _, rfl, (fun _ => rfl), d1, d2, d3, d4, d5, d6, (fun q => laterT (m1 q)), (fun q => laterT (m2 q)), (fun q => ⟨laterT (m4 q).1, laterT (m4 q).2⟩), (fun q => laterT (m5 q)), (fun q => ⟨laterT (m6 q).1, laterT (m6 q).2⟩), (fun q => ⟨laterT (m8 q).1, laterT (m8 q).2.1, laterT (m8 q).2.2⟩), HW⟩
    · rintro A L vs w' F G ⟨v14, v15, v16, v17, v18, v19, v20, v5, rfl, d0, d1, d2, d3, d4, d5, d6, m1, m2, m4, m5, m6, m8, HW⟩ hL hdep K' hK hK0
      have p0 : L 0 = true := hdep { on := 0, ground := Ground.data } (by simp) rfl
      have n8 : L 8 = false := not_yet hL (fun q => (m2 ((m6 ((m8 q).2.1)).1)))
      have h := (HW.out.1 n8).1
      have h2 := (HW.out.1 n8).2
      have q := d0 p0
      subst q
      have g14 := evT (F 0 14 _ rfl rfl)
      clear F G
      go_simp
      refine (HA0.out _ h.bel).mono ?_
      rintro e w2 ⟨rfl, hb⟩
      have HW2 : Hid ((L 8 = false → R0S w C w2 ∧ w2.heap[w.heap.size]? = some (.cells #[.int .i64 k, .int .u64 n, .string s, .slice a l.length cap] 33 (0, 0))) ∧ (L 7 = true → L 8 = false → ∃ g, (v5 = .pointer (some ⟨g, 0, none⟩) ∧ w.heap.size + 2 ≤ g) ∧ w2.heap[g]? = some (.cells #[.int .i64 0, .int .i64 0, .slice none 0 0, .slice none 0 0, .slice none 0 0, .slice none 0 0] 27 (0, 0))) ∧ (L 8 = true → L 8 = false → True) ∧ (L 8 = true → ∃ g, v5 = .pointer (some ⟨g, 0, none⟩) ∧ RfS w C w2 g pa rg (.slice none 0 0) (.slice none 0 0) (.slice none 0 0) (.slice none 0 0) (.slice none 0 0) (.slice none 0 0) (.slice none 0 0) [] [] [])) := ⟨fun _ => ⟨h.below hb, (hb.block _ (blk_lt h2)).trans h2⟩, fun q r => by obtain ⟨g, e, hg⟩ := HW.out.2.1 q r; exact ⟨g, e, (hb.block _ (blk_lt hg)).trans hg⟩, fun q => absurd q (by rw [n8]; decide), fun q => absurd (q) (by rw [n8]; decide)⟩
      refine hK 1 15 _ w2 rfl ⟨_, _, _, _, _, _, _, _, rfl, d0, (fun _ => rfl), d2, d3, d4, d5, d6, (fun _ => laterT p0), (fun q => laterT (m2 q)), (fun q => ⟨laterT (m4 q).1, laterT (m4 q).2⟩), (fun q => laterT (m5 q)), (fun q => ⟨laterT (m6 q).1, laterT (m6 q).2⟩), (fun q => ⟨laterT (m8 q).1, laterT (m8 q).2.1, laterT (m8 q).2.2⟩), HW2⟩
    · rintro A L vs w' F G ⟨v14, v15, v16, v17, v18, v19, v20, v5, rfl, d0, d1, d2, d3, d4, d5, d6, m1, m2, m4, m5, m6, m8, HW⟩ hL hdep K' hK hK0
      have p1 : L 1 = true := hdep { on := 1, ground := Ground.data } (by simp) rfl
      have n8 : L 8 = false := not_yet hL (fun q => (m6 ((m8 q).2.1)).1)
      have h := (HW.out.1 n8).1
      have h2 := (HW.out.1 n8).2
      have q := d1 p1
      subst q
      have g15 := evT (F 1 15 _ rfl rfl)
      clear F G
      go_simp
      refine (HS0.out _ h.bel).mono ?_
      rintro e w2 ⟨rfl, hb⟩
      have HW2 : Hid ((L 8 = false → R0S w C w2 ∧ w2.heap[w.heap.size]? = some (.cells #[.int .i64 k, .int .u64 n, .string s, .slice a l.length cap] 33 (0, 0))) ∧ (L 7 = true → L 8 = false → ∃ g, (v5 = .pointer (some ⟨g, 0, none⟩) ∧ w.heap.size + 2 ≤ g) ∧ w2.heap[g]? = some (.cells #[.int .i64 0, .int .i64 0, .slice none 0 0, .slice none 0 0, .slice none 0 0, .slice none 0 0] 27 (0, 0))) ∧ (L 8 = true → L 8 = false → True) ∧ (L 8 = true → ∃ g, v5 = .pointer (some ⟨g, 0, none⟩) ∧ RfS w C w2 g pa rg (.slice none 0 0) (.slice none 0 0) (.slice none 0 0) (.slice none 0 0) (.slice none 0 0) (.slice none 0 0) (.slice none 0 0) [] [] [])) := ⟨fun _ => ⟨h.below hb, (hb.block _ (blk_lt h2)).trans h2⟩, fun q r => by obtain ⟨g, e, hg⟩ := HW.out.2.1 q r; exact ⟨g, e, (hb.block _ (blk_lt hg)).trans hg⟩, fun q => absurd q (by rw [n8]; decide), fun q => absurd (q) (by rw [n8]; decide)⟩
      refine hK 2 16 _ w2 rfl ⟨_, _, _, _, _, _, _, _, rfl, d0, d1, (fun _ => rfl), d3, d4, d5, d6, (fun q => laterT (m1 q)), (fun _ => laterT p1), (fun q => ⟨laterT (m4 q).1, laterT (m4 q).2⟩), (fun q => laterT (m5 q)), (fun q => ⟨laterT (m6 q).1, laterT (m6 q).2⟩), (fun q => ⟨laterT (m8 q).1, laterT (m8 q).2.1, laterT (m8 q).2.2⟩), HW2⟩
    · rintro A L vs w' F G ⟨v14, v15, v16, v17, v18, v19, v20, v5, rfl, d0, d1, d2, d3, d4, d5, d6, m1, m2, m4, m5, m6, m8, HW⟩ hL hdep K' hK hK0
      have n8 : L 8 = false := not_yet hL (fun q => (m4 ((m5 ((m8 q).1)))).2)
      have h := (HW.out.1 n8).2
      obtain ⟨b0, b1, b2, b3⟩ := block4 h
      have gt : A.tmps[2]?.getD undef = .pointer (some ⟨w.heap.size, 0, none⟩) := evT ((G 2 (by decide)).trans rfl)
      clear F G
      go_simp
      refine hK 3 17 _ w' rfl ⟨_, _, _, _, _, _, _, _, rfl, d0, d1, d2, (fun _ => rfl), d4, d5, d6, (fun q => laterT (m1 q)), (fun q => laterT (m2 q)), (fun q => ⟨laterT (m4 q).1, laterT (m4 q).2⟩), (fun q => laterT (m5 q)), (fun q => ⟨laterT (m6 q).1, laterT (m6 q).2⟩), (fun q => ⟨laterT (m8 q).1, laterT (m8 q).2.1, laterT (m8 q).2.2⟩), HW⟩
    · rintro A L vs w' F G ⟨v14, v15, v16, v17, v18, v19, v20, v5, rfl, d0, d1, d2, d3, d4, d5, d6, m1, m2, m4, m5, m6, m8, HW⟩ hL hdep K' hK hK0
      have p3 : L 3 = true := hdep { on := 3, ground := Ground.data } (by simp) rfl
      have p2 : L 2 = true := hdep { on := 2, ground := Ground.chain } (by simp) rfl
      have n8 : L 8 = false := not_yet hL (fun q => (m5 ((m8 q).1)))
      have h := (HW.out.1 n8).1
      have h2 := (HW.out.1 n8).2
      have q := d3 p3
      subst q
      have g17 := evT (F 3 17 _ rfl rfl)
      clear F G
      go_simp
      refine (HA1.out _ h.bel).mono ?_
      rintro e w2 ⟨rfl, hb⟩
      have HW2 : Hid ((L 8 = false → R0S w C w2 ∧ w2.heap[w.heap.size]? = some (.cells #[.int .i64 k, .int .u64 n, .string s, .slice a l.length cap] 33 (0, 0))) ∧ (L 7 = true → L 8 = false → ∃ g, (v5 = .pointer (some ⟨g, 0, none⟩) ∧ w.heap.size + 2 ≤ g) ∧ w2.heap[g]? = some (.cells #[.int .i64 0, .int .i64 0, .slice none 0 0, .slice none 0 0, .slice none 0 0, .slice none 0 0] 27 (0, 0))) ∧ (L 8 = true → L 8 = false → True) ∧ (L 8 = true → ∃ g, v5 = .pointer (some ⟨g, 0, none⟩) ∧ RfS w C w2 g pa rg (.slice none 0 0) (.slice none 0 0) (.slice none 0 0) (.slice none 0 0) (.slice none 0 0) (.slice none 0 0) (.slice none 0 0) [] [] [])) := ⟨fun _ => ⟨h.below hb, (hb.block _ (blk_lt h2)).trans h2⟩, fun q r => by obtain ⟨g, e, hg⟩ := HW.out.2.1 q r; exact ⟨g, e, (hb.block _ (blk_lt hg)).trans hg⟩, fun q => absurd q (by rw [n8]; decide), fun q => absurd (q) (by rw [n8]; decide)⟩
      refine hK 4 18 _ w2 rfl ⟨_, _, _, _, _, _, _, _, rfl, d0, d1, d2, d3, (fun _ => rfl), d5, d6, (fun q => laterT (m1 q)), (fun q => laterT (m2 q)), (fun _ => ⟨laterT p2, laterT p3⟩), (fun q => laterT (m5 q)), (fun q => ⟨laterT (m6 q).1, laterT (m6 q).2⟩), (fun q => ⟨laterT (m8 q).1, laterT (m8 q).2.1, laterT (m8 q).2.2⟩), HW2⟩
    · rintro A L vs w' F G ⟨v14, v15, v16, v17, v18, v19, v20, v5, rfl, d0, d1, d2, d3, d4, d5, d6, m1, m2, m4, m5, m6, m8, HW⟩ hL hdep K' hK hK0
      have p4 : L 4 = true := hdep { on := 4, ground := Ground.data } (by simp) rfl
      have n8 : L 8 = false := not_yet hL (fun q => (m8 q).1)
      have h := (HW.out.1 n8).1
      have h2 := (HW.out.1 n8).2
      have q := d4 p4
      subst q
      have g18 := evT (F 4 18 _ rfl rfl)
      clear F G
      go_simp
      refine (HS1.out _ h.bel).mono ?_
      rintro e w2 ⟨rfl, hb⟩
      have HW2 : Hid ((L 8 = false → R0S w C w2 ∧ w2.heap[w.heap.size]? = some (.cells #[.int .i64 k, .int .u64 n, .string s, .slice a l.length cap] 33 (0, 0))) ∧ (L 7 = true → L 8 = false → ∃ g, (v5 = .pointer (some ⟨g, 0, none⟩) ∧ w.heap.size + 2 ≤ g) ∧ w2.heap[g]? = some (.cells #[.int .i64 0, .int .i64 0, .slice none 0 0, .slice none 0 0, .slice none 0 0, .slice none 0 0] 27 (0, 0))) ∧ (L 8 = true → L 8 = false → True) ∧ (L 8 = true → ∃ g, v5 = .pointer (some ⟨g, 0, none⟩) ∧ RfS w C w2 g pa rg (.slice none 0 0) (.slice none 0 0) (.slice none 0 0) (.slice none 0 0) (.slice none 0 0) (.slice none 0 0) (.slice none 0 0) [] [] [])) := ⟨fun _ => ⟨h.below hb, (hb.block _ (blk_lt h2)).trans h2⟩, fun q r => by obtain ⟨g, e, hg⟩ := HW.out.2.1 q r; exact ⟨g, e, (hb.block _ (blk_lt hg)).trans hg⟩, fun q => absurd q (by rw [n8]; decide), fun q => absurd (q) (by rw [n8]; decide)⟩
      refine hK 5 19 _ w2 rfl ⟨_, _, _, _, _, _, _, _, rfl, d0, d1, d2, d3, d4, (fun _ => rfl), d6, (fun q => laterT (m1 q)), (fun q => laterT (m2 q)), (fun q => ⟨laterT (m4 q).1, laterT (m4 q).2⟩), (fun _ => laterT p4), (fun q => ⟨laterT (m6 q).1, laterT (m6 q).2⟩), (fun q => ⟨laterT (m8 q).1, laterT (m8 q).2.1, laterT (m8 q).2.2⟩), HW2⟩
    · rintro A L vs w' F G ⟨v14, v15, v16, v17, v18, v19, v20, v5, rfl, d0, d1, d2, d3, d4, d5, d6, m1, m2, m4, m5, m6, m8, HW⟩ hL hdep K' hK hK0
      have p2 : L 2 = true := hdep { on := 2, ground := Ground.data } (by simp) rfl
      have p5 : L 5 = true := hdep { on := 5, ground := Ground.data } (by simp) rfl
      have q := d2 p2
      subst q
      have g16 := evT (F 2 16 _ rfl rfl)
      have q := d5 p5
      subst q
      have g19 := evT (F 5 19 _ rfl rfl)
      clear F G
      go_simp
      refine hK 6 20 _ w' rfl ⟨_, _, _, _, _, _, _, _, rfl, d0, d1, d2, d3, d4, d5, (fun _ => rfl), (fun q => laterT (m1 q)), (fun q => laterT (m2 q)), (fun q => ⟨laterT (m4 q).1, laterT (m4 q).2⟩), (fun q => laterT (m5 q)), (fun _ => ⟨laterT p2, laterT p5⟩), (fun q => ⟨laterT (m8 q).1, laterT (m8 q).2.1, laterT (m8 q).2.2⟩), HW⟩
    · rintro A L vs w' F G ⟨v14, v15, v16, v17, v18, v19, v20, v5, rfl, d0, d1, d2, d3, d4, d5, d6, m1, m2, m4, m5, m6, m8, HW⟩ hL hdep K' hK hK0
      have n8 : L 8 = false := not_yet hL (fun q => (m8 q).2.2)
      have h := (HW.out.1 n8).1
      have h2 := (HW.out.1 n8).2
      have hb : Below w'.heap.size w' (w'.alloc (.cells #[.int .i64 0, .int .i64 0, .slice none 0 0, .slice none 0 0, .slice none 0 0, .slice none 0 0] 27)) := (Below.refl _ _).alloc (Nat.le_refl _) _
      have HW2 : Hid ((L 8 = false → R0S w C (w'.alloc (.cells #[.int .i64 0, .int .i64 0, .slice none 0 0, .slice none 0 0, .slice none 0 0, .slice none 0 0] 27)) ∧ (w'.alloc (.cells #[.int .i64 0, .int .i64 0, .slice none 0 0, .slice none 0 0, .slice none 0 0, .slice none 0 0] 27)).heap[w.heap.size]? = some (.cells #[.int .i64 k, .int .u64 n, .string s, .slice a l.length cap] 33 (0, 0))) ∧ (true = true → L 8 = false → ∃ g, ((Value.pointer (some ⟨w'.heap.size, 0, none⟩)) = .pointer (some ⟨g, 0, none⟩) ∧ w.heap.size + 2 ≤ g) ∧ (w'.alloc (.cells #[.int .i64 0, .int .i64 0, .slice none 0 0, .slice none 0 0, .slice none 0 0, .slice none 0 0] 27)).heap[g]? = some (.cells #[.int .i64 0, .int .i64 0, .slice none 0 0, .slice none 0 0, .slice none 0 0, .slice none 0 0] 27 (0, 0))) ∧ (L 8 = true → L 8 = false → True) ∧ (L 8 = true → ∃ g, (Value.pointer (some ⟨w'.heap.size, 0, none⟩)) = .pointer (some ⟨g, 0, none⟩) ∧ RfS w C (w'.alloc (.cells #[.int .i64 0, .int .i64 0, .slice none 0 0, .slice none 0 0, .slice none 0 0, .slice none 0 0] 27)) g pa rg (.slice none 0 0) (.slice none 0 0) (.slice none 0 0) (.slice none 0 0) (.slice none 0 0) (.slice none 0 0) (.slice none 0 0) [] [] [])) := ⟨fun _ => ⟨h.below hb, (hb.block _ (blk_lt h2)).trans h2⟩, fun _ _ => ⟨w'.heap.size, ⟨rfl, h.sz⟩, heap_alloc_new _ _⟩, fun q => absurd q (by rw [n8]; decide), fun q => absurd q (by rw [n8]; decide)⟩
      clear F G
      go_simp
      refine hK 7 5 _ _ rfl ⟨_, _, _, _, _, _, _, _, rfl, d0, d1, d2, d3, d4, d5, d6, (fun q => laterT (m1 q)), (fun q => laterT (m2 q)), (fun q => ⟨laterT (m4 q).1, laterT (m4 q).2⟩), (fun q => laterT (m5 q)), (fun q => ⟨laterT (m6 q).1, laterT (m6 q).2⟩), (fun q => ⟨laterT (m8 q).1, laterT (m8 q).2.1, laterT (m8 q).2.2⟩), HW2⟩
    · rintro A L vs w' F G ⟨v14, v15, v16, v17, v18, v19, v20, v5, rfl, d0, d1, d2, d3, d4, d5, d6, m1, m2, m4, m5, m6, m8, HW⟩ hL hdep K' hK hK0
      have p7 : L 7 = true := hdep { on := 7, ground := Ground.data } (by simp) rfl
      have p6 : L 6 = true := hdep { on := 6, ground := Ground.data } (by simp) rfl
      have p5 : L 5 = true := hdep { on := 5, ground := Ground.chain } (by simp) rfl
      have h := (HW.out.1 hL).1
      obtain ⟨g9, ⟨e5, hge⟩, hg⟩ := HW.out.2.1 p7 hL
      subst e5
      obtain ⟨z0, z1, z2, z3, z4, z5⟩ := block6 hg
      have fz0 := Lib.frozen_of_heap hg 0
      have fz1 := Lib.frozen_of_heap hg 1
      have fz2 := Lib.frozen_of_heap hg 2
      have fz3 := Lib.frozen_of_heap hg 3
      have fz4 := Lib.frozen_of_heap hg 4
      have fz5 := Lib.frozen_of_heap hg 5
      have g5 := evT (F 7 5 _ rfl rfl)
      have q := d6 p6
      subst q
      have g20 := evT (F 6 20 _ rfl rfl)
      have HW2 : Hid ((true = false → R0S w C ((((((w'.setCell ⟨g9, 0, none⟩ (.int .i64 pa)).setCell ⟨g9, 1, none⟩ (.int .i64 rg)).setCell ⟨g9, 2, none⟩ (.slice none 0 0)).setCell ⟨g9, 3, none⟩ (.slice none 0 0)).setCell ⟨g9, 4, none⟩ (.slice none 0 0)).setCell ⟨g9, 5, none⟩ (.slice none 0 0)) ∧ ((((((w'.setCell ⟨g9, 0, none⟩ (.int .i64 pa)).setCell ⟨g9, 1, none⟩ (.int .i64 rg)).setCell ⟨g9, 2, none⟩ (.slice none 0 0)).setCell ⟨g9, 3, none⟩ (.slice none 0 0)).setCell ⟨g9, 4, none⟩ (.slice none 0 0)).setCell ⟨g9, 5, none⟩ (.slice none 0 0)).heap[w.heap.size]? = some (.cells #[.int .i64 k, .int .u64 n, .string s, .slice a l.length cap] 33 (0, 0))) ∧ (L 7 = true → true = false → ∃ g, ((Value.pointer (some ⟨g9, 0, none⟩)) = .pointer (some ⟨g, 0, none⟩) ∧ w.heap.size + 2 ≤ g) ∧ ((((((w'.setCell ⟨g9, 0, none⟩ (.int .i64 pa)).setCell ⟨g9, 1, none⟩ (.int .i64 rg)).setCell ⟨g9, 2, none⟩ (.slice none 0 0)).setCell ⟨g9, 3, none⟩ (.slice none 0 0)).setCell ⟨g9, 4, none⟩ (.slice none 0 0)).setCell ⟨g9, 5, none⟩ (.slice none 0 0)).heap[g]? = some (.cells #[.int .i64 0, .int .i64 0, .slice none 0 0, .slice none 0 0, .slice none 0 0, .slice none 0 0] 27 (0, 0))) ∧ (true = true → true = false → True) ∧ (true = true → ∃ g, (Value.pointer (some ⟨g9, 0, none⟩)) = .pointer (some ⟨g, 0, none⟩) ∧ RfS w C ((((((w'.setCell ⟨g9, 0, none⟩ (.int .i64 pa)).setCell ⟨g9, 1, none⟩ (.int .i64 rg)).setCell ⟨g9, 2, none⟩ (.slice none 0 0)).setCell ⟨g9, 3, none⟩ (.slice none 0 0)).setCell ⟨g9, 4, none⟩ (.slice none 0 0)).setCell ⟨g9, 5, none⟩ (.slice none 0 0)) g pa rg (.slice none 0 0) (.slice none 0 0) (.slice none 0 0) (.slice none 0 0) (.slice none 0 0) (.slice none 0 0) (.slice none 0 0) [] [] [])) := ⟨fun q => (by cases q), fun _ q => (by cases q), fun _ _ => trivial, fun _ => ⟨g9, rfl, h.made hg hge⟩⟩
      clear F G
      go_simp
      refine hK0 _ ⟨_, _, _, _, _, _, _, _, rfl, d0, d1, d2, d3, d4, d5, d6, (fun q => laterT (m1 q)), (fun q => laterT (m2 q)), (fun q => ⟨laterT (m4 q).1, laterT (m4 q).2⟩), (fun q => laterT (m5 q)), (fun q => ⟨laterT (m6 q).1, laterT (m6 q).2⟩), (fun _ => ⟨laterT p5, laterT p6, laterT p7⟩), HW2⟩
    · rintro L vs w' hall ⟨v14, v15, v16, v17, v18, v19, v20, v5, rfl, d0, d1, d2, d3, d4, d5, d6, m1, m2, m4, m5, m6, m8, HW⟩
      obtain ⟨bx, e5, h⟩ := HW.out.2.2.2 (hall 8 (by decide))
      subst e5
      have HRF := hide_p h
      clear d0 d1 d2 d3 d4 d5 d6 m1 m2 m4 m5 m6 m8 HW h
      simp only [puts]
      go_simp
      go_step
      go_meet
      exact ⟨bx, rfl, HRF⟩
  case rest =>
    obtain ⟨bx, rfl, HF0⟩ := hcut
    clear x0 x1 x2 x3 HA1' HS1' HB1
    go_wp2_with fail
    go_loopw [6] (fun t6 wr => ∃ (i : Nat) (ua : Option Addr) (uc : Nat) (lu : List _), i ≤ N2 ∧ t6 = .int .i64 i ∧ Hid (lu = ((manyL a2).take i).map rUp) ∧ Hid (RfS w C wr bx pa rg (.slice ua lu.length uc) (.slice none 0 0) (.slice none 0 0) (.slice none 0 0) (.slice ua lu.length uc) (.slice none 0 0) (.slice none 0 0) lu [] [])) (fun t6 _ => N2 - (intOf t6).toNat)
    case atStart => exact ⟨0, none, 0, [], Nat.zero_le _, rfl, rfl, HF0⟩
    case round =>
      obtain ⟨i, ua, uc, lu0, hi, rfl, HLL, HF⟩ := hrel
      obtain ⟨x0, x1, x2, x3⟩ := HCB.out wr HF.out.cb
      go_wp2_with fail
      refine (HA2.out wr HF.out.bel).mono ?_
      rintro e w4 ⟨rfl, hb4⟩
      have HF4 := hide_p (HF.out.below hb4)
      clear hb4 x0 x1 x2 x3
      go_wp2_with fail
      refine (HM2.out w4 HF4.out.bel).mono ?_
      rintro e w5 ⟨rfl, hb5⟩
      have HF5 := hide_p (HF4.out.below hb5)
      obtain ⟨x0, x1, x2, x3⟩ := HCB.out w5 HF5.out.cb
      clear hb5 HF4

      by_cases c : i < N2
      · have i1 : i < (manyL a2).length := by rw [← HN2.out]; exact c
        obtain ⟨ux, HCX, HAX, xk, xn, xs, xa, xm, xc, rfl⟩ := at_in HC2.out i
        obtain ⟨U0, HCU0, HX0, -⟩ := at_in HCX.out 0
        obtain ⟨U1, HCU1, HX1, -⟩ := at_in HCX.out 1
        have HSU0 := sm_in HCU0.out
        have HSU1 := sm_in HCU1.out
        obtain ⟨X, hX⟩ : ∃ X, X = rUp (atT a2 i) := ⟨_, rfl⟩
        obtain ⟨S0, hS0⟩ : ∃ S0, S0 = smT (atT (atT a2 i) 0) := ⟨_, rfl⟩
        obtain ⟨S1, hS1⟩ : ∃ S1, S1 = smT (atT (atT a2 i) 1) := ⟨_, rfl⟩
        have HXE : Hid ([Value.bool X.own, .int .i64 X.pl] = [.bool ((S0 : Int) == 1), .int .i64 S1]) := by
          show _ = _
          rw [hX, hS0, hS1]
          have : (decide (smT (atT (atT a2 i) 0) = 1)) = (((smT (atT (atT a2 i) 0) : Nat) : Int) == 1) := by
            rw [Bool.eq_iff_iff]
            simp only [beq_iff_eq, decide_eq_true_eq]
            omega
          simp only [rUp, this]
        rw [← hS0] at HSU0
        rw [← hS1] at HSU1
        obtain ⟨lu1, hlu1⟩ : ∃ lu1, lu1 = lu0 ++ [X] := ⟨_, rfl⟩
        have HL1 := hide_p hlu1
        have HLN : Hid (lu1 = ((manyL a2).take (i + 1)).map rUp) := by
          show _ = _
          rw [take_rd i1, ← hX, hlu1, HLL.out]
        have hn : lu0.length ≤ 1000000 := by rw [HLL.out, List.length_map, List.length_take]; omega
        clear hlu1 hX HCX hS0 HCU0 hS1 HCU1
        go_wp2_with fail
        refine (HA2.out w5 HF5.out.bel).mono ?_
        rintro e w6 ⟨rfl, hb6⟩
        have HF6 := hide_p (HF5.out.below hb6)
        clear hb6 x0 x1 x2 x3 HF5
        go_wp2_with fail
        refine (HAX.out w6 HF6.out.bel).mono ?_
        rintro e w7 ⟨rfl, hb7⟩
        have HF7 := hide_p (HF6.out.below hb7)
        clear hb7 HF6 HAX
        obtain ⟨w8, hw8⟩ : ∃ w8, w8 = w7.alloc (.cells #[.int .i64 xk, .int .u64 xn, .string xs, .slice xa xm xc] 33) := ⟨_, rfl⟩
        obtain ⟨tb, htb⟩ : ∃ tb, tb = w7.heap.size := ⟨_, rfl⟩
        have HF8 : Hid (RfS w C w8 bx pa rg (.slice ua lu0.length uc) (.slice none 0 0) (.slice none 0 0) (.slice none 0 0) (.slice ua lu0.length uc) (.slice none 0 0) (.slice none 0 0) lu0 [] [] ∧ w8.heap[tb]? = some (.cells #[.int .i64 xk, .int .u64 xn, .string xs, .slice xa xm xc] 33 (0, 0))) := by
          show _ ∧ _
          rw [hw8, htb]
          exact ⟨HF7.out.below ((Below.refl _ _).alloc (Nat.le_refl _) _), heap_alloc_new _ _⟩
        go_upto_region 6 with fail
        rw [← hw8, ← htb]
        have HTB := hide_p (And.intro hw8 htb)
        clear hw8 htb
        refine wp_region_inv2 (by kernel_rfl) [32, 33, 34, 35, 36, 37, 38, 39, 40, 41, 42, 43, 44] (fun L vs w' => ∃ v32 v33 v34 v35 v36 v37 v38 v39 v40 v41 v42 v43 v44, vs = [v32, v33, v34, v35, v36, v37, v38, v39, v40, v41, v42, v43, v44] ∧ (L 0 = true → v32 = (.pointer (some ⟨bx, 2, none⟩))) ∧ (L 1 = true → v33 = .slice ua lu0.length uc) ∧ (L 2 = true → v34 = (.agg #[.int .i64 xk, .int .u64 xn, .string xs, .slice xa xm xc])) ∧ (L 3 = true → v35 = U0) ∧ (L 4 = true → v36 = (.int .i64 S0)) ∧ (L 5 = true → v37 = (.bool ((S0 : Int) == 1))) ∧ (L 6 = true → v38 = (.agg #[.int .i64 xk, .int .u64 xn, .string xs, .slice xa xm xc])) ∧ (L 7 = true → v39 = U1) ∧ (L 8 = true → v40 = (.int .i64 S1)) ∧ (L 9 = true → v41 = (.agg #[.bool ((S0 : Int) == 1), .int .i64 S1])) ∧ (L 12 = true → v44 = (.pointer (some ⟨bx, 2, none⟩))) ∧ (L 1 = true → L 0 = true) ∧ (L 3 = true → L 2 = true) ∧ (L 4 = true → L 3 = true) ∧ (L 5 = true → L 4 = true) ∧ (L 7 = true → L 4 = true ∧ L 6 = true) ∧ (L 8 = true → L 7 = true) ∧ (L 9 = true → L 5 = true ∧ L 8 = true) ∧ (L 10 = true → L 9 = true) ∧ (L 11 = true → L 1 = true ∧ L 8 = true ∧ L 10 = true) ∧ (L 13 = true → L 11 = true ∧ L 12 = true) ∧ Hid ((L 11 = false → RfS w C w' bx pa rg (.slice ua lu0.length uc) (.slice none 0 0) (.slice none 0 0) (.slice none 0 0) (.slice ua lu0.length uc) (.slice none 0 0) (.slice none 0 0) lu0 [] [] ∧ w'.heap[tb]? = some (.cells #[.int .i64 xk, .int .u64 xn, .string xs, .slice xa xm xc] 33 (0, 0))) ∧ (L 10 = true → L 11 = false → ∃ g, v42 = .slice (some ⟨g, 0, none⟩) 1 1 ∧ w'.heap[g]? = some (.cells #[.bool ((S0 : Int) == 1), .int .i64 S1] 54 (0, 0))) ∧ (L 11 = true → L 13 = false → RfS w C w' bx pa rg (.slice ua lu0.length uc) (.slice none 0 0) (.slice none 0 0) (.slice none 0 0) v43 (.slice none 0 0) (.slice none 0 0) lu1 [] []) ∧ (L 13 = true → RfS w C w' bx pa rg v43 (.slice none 0 0) (.slice none 0 0) (.slice none 0 0) v43 (.slice none 0 0) (.slice none 0 0) lu1 [] []))) (by kernel_rfl) (by decide) (by simp) ?_ ⟨?_, ?_, ?_, ?_, ?_, ?_, ?_, ?_, ?_, ?_, ?_, ?_, ?_, ?_, trivial⟩ ?_
        · exact ⟨_, _, _, _, _, _, _, _, _, _, _, _, _, rfl, fun q => by (cases q), fun q => by (cases q), fun q => by (cases q), fun q => by (cases q), fun q => by (cases q), fun q => by (cases q), fun q => by (cases q), fun q => by (cases q), fun q => by (cases q), fun q => by (cases q), fun q => by (cases q), fun q => by (cases q), fun q => by (cases q), fun q => by (cases q), fun q => by (cases q), fun q => by (cases q), fun q => by (cases q), fun q => by (cases q), fun q => by (cases q), fun q => by (cases q), fun q => by (cases q), ⟨fun _ => ⟨HF8.out.1.below (Below.refl _ _).drew, HF8.out.2⟩, fun q => (by cases q), fun q => (by cases q), fun q => (by cases q)⟩⟩
        · rintro A L vs w' F G ⟨v32, v33, v34, v35, v36, v37, v38, v39, v40, v41, v42, v43, v44, rfl, d0, d1, d2, d3, d4, d5, d6, d7, d8, d9, d12, m1, m3, m4, m5, m7, m8, m9, m10, m11, m13, HW⟩ hL hdep K' hK hK0
          have g5 : A.tmps[5]?.getD undef = .pointer (some ⟨bx, 0, none⟩) := evT ((G 5 (by decide)).trans rfl)
          clear F G
          go_simp
          refine hK 0 32 _ w' rfl ⟨_, _, _, _, _, _, _, _, _, _, _, _, _, rfl, (fun _ => rfl), d1, d2, d3, d4, d5, d6, d7, d8, d9, d12, (fun q => laterT (m1 q)), (fun q => laterT (m3 q)), (fun q => laterT (m4 q)), (fun q => laterT (m5 q)), (fun q => ⟨laterT (m7 q).1, laterT (m7 q).2⟩), (fun q => laterT (m8 q)), (fun q => ⟨laterT (m9 q).1, laterT (m9 q).2⟩), (fun q => laterT (m10 q)), (fun q => ⟨laterT (m11 q).1, laterT (m11 q).2.1, laterT (m11 q).2.2⟩), (fun q => ⟨laterT (m13 q).1, laterT (m13 q).2⟩), HW⟩
        · rintro A L vs w' F G ⟨v32, v33, v34, v35, v36, v37, v38, v39, v40, v41, v42, v43, v44, rfl, d0, d1, d2, d3, d4, d5, d6, d7, d8, d9, d12, m1, m3, m4, m5, m7, m8, m9, m10, m11, m13, HW⟩ hL hdep K' hK hK0
          have p0 : L 0 = true := hdep { on := 0, ground := Ground.data } (by simp) rfl
          have n11 : L 11 = false := not_yet hL (fun q => (m11 q).1)
          have h := (HW.out.1 n11).1
          have b0 : w'.cell? ⟨bx, 2, none⟩ = some (.slice ua lu0.length uc) := by rw [Lib.cell_of_heap h.blk]; rfl
          have q := d0 p0
          subst q
          have g32 := evT (F 0 32 _ rfl rfl)
          clear F G
          go_simp
          refine hK 1 33 _ w' rfl ⟨_, _, _, _, _, _, _, _, _, _, _, _, _, rfl, d0, (fun _ => rfl), d2, d3, d4, d5, d6, d7, d8, d9, d12, (fun _ => laterT p0), (fun q => laterT (m3 q)), (fun q => laterT (m4 q)), (fun q => laterT (m5 q)), (fun q => ⟨laterT (m7 q).1, laterT (m7 q).2⟩), (fun q => laterT (m8 q)), (fun q => ⟨laterT (m9 q).1, laterT (m9 q).2⟩), (fun q => laterT (m10 q)), (fun q => ⟨laterT (m11 q).1, laterT (m11 q).2.1, laterT (m11 q).2.2⟩), (fun q => ⟨laterT (m13 q).1, laterT (m13 q).2⟩), HW⟩
        · rintro A L vs w' F G ⟨v32, v33, v34, v35, v36, v37, v38, v39, v40, v41, v42, v43, v44, rfl, d0, d1, d2, d3, d4, d5, d6, d7, d8, d9, d12, m1, m3, m4, m5, m7, m8, m9, m10, m11, m13, HW⟩ hL hdep K' hK hK0
          have n11 : L 11 = false := not_yet hL (fun q => (m3 ((m4 ((m7 ((m8 ((m11 q).2.1)))).1)))))
          have h := (HW.out.1 n11).2
          obtain ⟨b0, b1, b2, b3⟩ := block4 h
          have gt : A.tmps[7]?.getD undef = .pointer (some ⟨tb, 0, none⟩) := evT ((G 7 (by decide)).trans rfl)
          clear F G
          go_simp
          refine hK 2 34 _ w' rfl ⟨_, _, _, _, _, _, _, _, _, _, _, _, _, rfl, d0, d1, (fun _ => rfl), d3, d4, d5, d6, d7, d8, d9, d12, (fun q => laterT (m1 q)), (fun q => laterT (m3 q)), (fun q => laterT (m4 q)), (fun q => laterT (m5 q)), (fun q => ⟨laterT (m7 q).1, laterT (m7 q).2⟩), (fun q => laterT (m8 q)), (fun q => ⟨laterT (m9 q).1, laterT (m9 q).2⟩), (fun q => laterT (m10 q)), (fun q => ⟨laterT (m11 q).1, laterT (m11 q).2.1, laterT (m11 q).2.2⟩), (fun q => ⟨laterT (m13 q).1, laterT (m13 q).2⟩), HW⟩
        · rintro A L vs w' F G ⟨v32, v33, v34, v35, v36, v37, v38, v39, v40, v41, v42, v43, v44, rfl, d0, d1, d2, d3, d4, d5, d6, d7, d8, d9, d12, m1, m3, m4, m5, m7, m8, m9, m10, m11, m13, HW⟩ hL hdep K' hK hK0
          have p2 : L 2 = true := hdep { on := 2, ground := Ground.data } (by simp) rfl
          have n11 : L 11 = false := not_yet hL (fun q => (m4 ((m7 ((m8 ((m11 q).2.1)))).1)))
          have h := (HW.out.1 n11).1
          have h2 := (HW.out.1 n11).2
          have q := d2 p2
          subst q
          have g34 := evT (F 2 34 _ rfl rfl)
          clear F G
          go_simp
          refine (HX0.out _ h.bel).mono ?_
          rintro e w2 ⟨rfl, hb⟩
          have HW2 : Hid ((L 11 = false → RfS w C w2 bx pa rg (.slice ua lu0.length uc) (.slice none 0 0) (.slice none 0 0) (.slice none 0 0) (.slice ua lu0.length uc) (.slice none 0 0) (.slice none 0 0) lu0 [] [] ∧ w2.heap[tb]? = some (.cells #[.int .i64 xk, .int .u64 xn, .string xs, .slice xa xm xc] 33 (0, 0))) ∧ (L 10 = true → L 11 = false → ∃ g, v42 = .slice (some ⟨g, 0, none⟩) 1 1 ∧ w2.heap[g]? = some (.cells #[.bool ((S0 : Int) == 1), .int .i64 S1] 54 (0, 0))) ∧ (L 11 = true → L 13 = false → RfS w C w2 bx pa rg (.slice ua lu0.length uc) (.slice none 0 0) (.slice none 0 0) (.slice none 0 0) v43 (.slice none 0 0) (.slice none 0 0) lu1 [] []) ∧ (L 13 = true → RfS w C w2 bx pa rg v43 (.slice none 0 0) (.slice none 0 0) (.slice none 0 0) v43 (.slice none 0 0) (.slice none 0 0) lu1 [] [])) := ⟨fun _ => ⟨h.below hb, (hb.block _ (blk_lt h2)).trans h2⟩, fun q r => by obtain ⟨g, e, hg⟩ := HW.out.2.1 q r; exact ⟨g, e, (hb.block _ (blk_lt hg)).trans hg⟩, fun q => absurd q (by rw [n11]; decide), fun q => absurd ((m13 q).1) (by rw [n11]; decide)⟩
          refine hK 3 35 _ w2 rfl ⟨_, _, _, _, _, _, _, _, _, _, _, _, _, rfl, d0, d1, d2, (fun _ => rfl), d4, d5, d6, d7, d8, d9, d12, (fun q => laterT (m1 q)), (fun _ => laterT p2), (fun q => laterT (m4 q)), (fun q => laterT (m5 q)), (fun q => ⟨laterT (m7 q).1, laterT (m7 q).2⟩), (fun q => laterT (m8 q)), (fun q => ⟨laterT (m9 q).1, laterT (m9 q).2⟩), (fun q => laterT (m10 q)), (fun q => ⟨laterT (m11 q).1, laterT (m11 q).2.1, laterT (m11 q).2.2⟩), (fun q => ⟨laterT (m13 q).1, laterT (m13 q).2⟩), HW2⟩
        · rintro A L vs w' F G ⟨v32, v33, v34, v35, v36, v37, v38, v39, v40, v41, v42, v43, v44, rfl, d0, d1, d2, d3, d4, d5, d6, d7, d8, d9, d12, m1, m3, m4, m5, m7, m8, m9, m10, m11, m13, HW⟩ hL hdep K' hK hK0
          have p3 : L 3 = true := hdep { on := 3, ground := Ground.data } (by simp) rfl
          have n11 : L 11 = false := not_yet hL (fun q => (m7 ((m8 ((m11 q).2.1)))).1)
          have h := (HW.out.1 n11).1
          have h2 := (HW.out.1 n11).2
          have q := d3 p3
          subst q
          have g35 := evT (F 3 35 _ rfl rfl)
          clear F G
          go_simp
          refine (HSU0.out _ h.bel).mono ?_
          rintro e w2 ⟨rfl, hb⟩
          have HW2 : Hid ((L 11 = false → RfS w C w2 bx pa rg (.slice ua lu0.length uc) (.slice none 0 0) (.slice none 0 0) (.slice none 0 0) (.slice ua lu0.length uc) (.slice none 0 0) (.slice none 0 0) lu0 [] [] ∧ w2.heap[tb]? = some (.cells #[.int .i64 xk, .int .u64 xn, .string xs, .slice xa xm xc] 33 (0, 0))) ∧ (L 10 = true → L 11 = false → ∃ g, v42 = .slice (some ⟨g, 0, none⟩) 1 1 ∧ w2.heap[g]? = some (.cells #[.bool ((S0 : Int) == 1), .int .i64 S1] 54 (0, 0))) ∧ (L 11 = true → L 13 = false → RfS w C w2 bx pa rg (.slice ua lu0.length uc) (.slice none 0 0) (.slice none 0 0) (.slice none 0 0) v43 (.slice none 0 0) (.slice none 0 0) lu1 [] []) ∧ (L 13 = true → RfS w C w2 bx pa rg v43 (.slice none 0 0) (.slice none 0 0) (.slice none 0 0) v43 (.slice none 0 0) (.slice none 0 0) lu1 [] [])) := ⟨fun _ => ⟨h.below hb, (hb.block _ (blk_lt h2)).trans h2⟩, fun q r => by obtain ⟨g, e, hg⟩ := HW.out.2.1 q r; exact ⟨g, e, (hb.block _ (blk_lt hg)).trans hg⟩, fun q => absurd q (by rw [n11]; decide), fun q => absurd ((m13 q).1) (by rw [n11]; decide)⟩
          refine hK 4 36 _ w2 rfl ⟨_, _, _, _, _, _, _, _, _, _, _, _, _, rfl, d0, d1, d2, d3, (fun _ => rfl), d5, d6, d7, d8, d9, d12, (fun q => laterT (m1 q)), (fun q => laterT (m3 q)), (fun _ => laterT p3), (fun q => laterT (m5 q)), (fun q => ⟨laterT (m7 q).1, laterT (m7 q).2⟩), (fun q => laterT (m8 q)), (fun q => ⟨laterT (m9 q).1, laterT (m9 q).2⟩), (fun q => laterT (m10 q)), (fun q => ⟨laterT (m11 q).1, laterT (m11 q).2.1, laterT (m11 q).2.2⟩), (fun q => ⟨laterT (m13 q).1, laterT (m13 q).2⟩), HW2⟩
        · rintro A L vs w' F G ⟨v32, v33, v34, v35, v36, v37, v38, v39, v40, v41, v42, v43, v44, rfl, d0, d1, d2, d3, d4, d5, d6, d7, d8, d9, d12, m1, m3, m4, m5, m7, m8, m9, m10, m11, m13, HW⟩ hL hdep K' hK hK0
          have p4 : L 4 = true := hdep { on := 4, ground := Ground.data } (by simp) rfl
          have q := d4 p4
          subst q
          have g36 := evT (F 4 36 _ rfl rfl)
          clear F G
          go_simp
          refine hK 5 37 _ w' rfl ⟨_, _, _, _, _, _, _, _, _, _, _, _, _, rfl, d0, d1, d2, d3, d4, (fun _ => rfl), d6, d7, d8, d9, d12, (fun q => laterT (m1 q)), (fun q => laterT (m3 q)), (fun q => laterT (m4 q)), (fun _ => laterT p4), (fun q => ⟨laterT (m7 q).1, laterT (m7 q).2⟩), (fun q => laterT (m8 q)), (fun q => ⟨laterT (m9 q).1, laterT (m9 q).2⟩), (fun q => laterT (m10 q)), (fun q => ⟨laterT (m11 q).1, laterT (m11 q).2.1, laterT (m11 q).2.2⟩), (fun q => ⟨laterT (m13 q).1, laterT (m13 q).2⟩), HW⟩
        · rintro A L vs w' F G ⟨v32, v33, v34, v35, v36, v37, v38, v39, v40, v41, v42, v43, v44, rfl, d0, d1, d2, d3, d4, d5, d6, d7, d8, d9, d12, m1, m3, m4, m5, m7, m8, m9, m10, m11, m13, HW⟩ hL hdep K' hK hK0
          have n11 : L 11 = false := not_yet hL (fun q => (m7 ((m8 ((m11 q).2.1)))).2)
          have h := (HW.out.1 n11).2
          obtain ⟨b0, b1, b2, b3⟩ := block4 h
          have gt : A.tmps[7]?.getD undef = .pointer (some ⟨tb, 0, none⟩) := evT ((G 7 (by decide)).trans rfl)
          clear F G
          go_simp
          refine hK 6 38 _ w' rfl ⟨_, _, _, _, _, _, _, _, _, _, _, _, _, rfl, d0, d1, d2, d3, d4, d5, (fun _ => rfl), d7, d8, d9, d12, (fun q => laterT (m1 q)), (fun q => laterT (m3 q)), (fun q => laterT (m4 q)), (fun q => laterT (m5 q)), (fun q => ⟨laterT (m7 q).1, laterT (m7 q).2⟩), (fun q => laterT (m8 q)), (fun q => ⟨laterT (m9 q).1, laterT (m9 q).2⟩), (fun q => laterT (m10 q)), (fun q => ⟨laterT (m11 q).1, laterT (m11 q).2.1, laterT (m11 q).2.2⟩), (fun q => ⟨laterT (m13 q).1, laterT (m13 q).2⟩), HW⟩
        · rintro A L vs w' F G ⟨v32, v33, v34, v35, v36, v37, v38, v39, v40, v41, v42, v43, v44, rfl, d0, d1, d2, d3, d4, d5, d6, d7, d8, d9, d12, m1, m3, m4, m5, m7, m8, m9, m10, m11, m13, HW⟩ hL hdep K' hK hK0
          have p6 : L 6 = true := hdep { on := 6, ground := Ground.data } (by simp) rfl
          have p4 : L 4 = true := hdep { on := 4, ground := Ground.chain } (by simp) rfl
          have n11 : L 11 = false := not_yet hL (fun q => (m8 ((m11 q).2.1)))
          have h := (HW.out.1 n11).1
          have h2 := (HW.out.1 n11).2
          have q := d6 p6
          subst q
          have g38 := evT (F 6 38 _ rfl rfl)
          clear F G
          go_simp
          refine (HX1.out _ h.bel).mono ?_
          rintro e w2 ⟨rfl, hb⟩
          have HW2 : Hid ((L 11 = false → RfS w C w2 bx pa rg (.slice ua lu0.length uc) (.slice none 0 0) (.slice none 0 0) (.slice none 0 0) (.slice ua lu0.length uc) (.slice none 0 0) (.slice none 0 0) lu0 [] [] ∧ w2.heap[tb]? = some (.cells #[.int .i64 xk, .int .u64 xn, .string xs, .slice xa xm xc] 33 (0, 0))) ∧ (L 10 = true → L 11 = false → ∃ g, v42 = .slice (some ⟨g, 0, none⟩) 1 1 ∧ w2.heap[g]? = some (.cells #[.bool ((S0 : Int) == 1), .int .i64 S1] 54 (0, 0))) ∧ (L 11 = true → L 13 = false → RfS w C w2 bx pa rg (.slice ua lu0.length uc) (.slice none 0 0) (.slice none 0 0) (.slice none 0 0) v43 (.slice none 0 0) (.slice none 0 0) lu1 [] []) ∧ (L 13 = true → RfS w C w2 bx pa rg v43 (.slice none 0 0) (.slice none 0 0) (.slice none 0 0) v43 (.slice none 0 0) (.slice none 0 0) lu1 [] [])) := ⟨fun _ => ⟨h.below hb, (hb.block _ (blk_lt h2)).trans h2⟩, fun q r => by obtain ⟨g, e, hg⟩ := HW.out.2.1 q r; exact ⟨g, e, (hb.block _ (blk_lt hg)).trans hg⟩, fun q => absurd q (by rw [n11]; decide), fun q => absurd ((m13 q).1) (by rw [n11]; decide)⟩
          refine hK 7 39 _ w2 rfl ⟨_, _, _, _, _, _, _, _, _, _, _, _, _, rfl, d0, d1, d2, d3, d4, d5, d6, (fun _ => rfl), d8, d9, d12, (fun q => laterT (m1 q)), (fun q => laterT (m3 q)), (fun q => laterT (m4 q)), (fun q => laterT (m5 q)), (fun _ => ⟨laterT p4, laterT p6⟩), (fun q => laterT (m8 q)), (fun q => ⟨laterT (m9 q).1, laterT (m9 q).2⟩), (fun q => laterT (m10 q)), (fun q => ⟨laterT (m11 q).1, laterT (m11 q).2.1, laterT (m11 q).2.2⟩), (fun q => ⟨laterT (m13 q).1, laterT (m13 q).2⟩), HW2⟩
        · rintro A L vs w' F G ⟨v32, v33, v34, v35, v36, v37, v38, v39, v40, v41, v42, v43, v44, rfl, d0, d1, d2, d3, d4, d5, d6, d7, d8, d9, d12, m1, m3, m4, m5, m7, m8, m9, m10, m11, m13, HW⟩ hL hdep K' hK hK0
          have p7 : L 7 = true := hdep { on := 7, ground := Ground.data } (by simp) rfl
          have n11 : L 11 = false := not_yet hL (fun q => (m11 q).2.1)
          have h := (HW.out.1 n11).1
          have h2 := (HW.out.1 n11).2
          have q := d7 p7
          subst q
          have g39 := evT (F 7 39 _ rfl rfl)
          clear F G
          go_simp
          refine (HSU1.out _ h.bel).mono ?_
          rintro e w2 ⟨rfl, hb⟩
          have HW2 : Hid ((L 11 = false → RfS w C w2 bx pa rg (.slice ua lu0.length uc) (.slice none 0 0) (.slice none 0 0) (.slice none 0 0) (.slice ua lu0.length uc) (.slice none 0 0) (.slice none 0 0) lu0 [] [] ∧ w2.heap[tb]? = some (.cells #[.int .i64 xk, .int .u64 xn, .string xs, .slice xa xm xc] 33 (0, 0))) ∧ (L 10 = true → L 11 = false → ∃ g, v42 = .slice (some ⟨g, 0, none⟩) 1 1 ∧ w2.heap[g]? = some (.cells #[.bool ((S0 : Int) == 1), .int .i64 S1] 54 (0, 0))) ∧ (L 11 = true → L 13 = false → RfS w C w2 bx pa rg (.slice ua lu0.length uc) (.slice none 0 0) (.slice none 0 0) (.slice none 0 0) v43 (.slice none 0 0) (.slice none 0 0) lu1 [] []) ∧ (L 13 = true → RfS w C w2 bx pa rg v43 (.slice none 0 0) (.slice none 0 0) (.slice none 0 0) v43 (.slice none 0 0) (.slice none 0 0) lu1 [] [])) := ⟨fun _ => ⟨h.below hb, (hb.block _ (blk_lt h2)).trans h2⟩, fun q r => by obtain ⟨g, e, hg⟩ := HW.out.2.1 q r; exact ⟨g, e, (hb.block _ (blk_lt hg)).trans hg⟩, fun q => absurd q (by rw [n11]; decide), fun q => absurd ((m13 q).1) (by rw [n11]; decide)⟩
          refine hK 8 40 _ w2 rfl ⟨_, _, _, _, _, _, _, _, _, _, _, _, _, rfl, d0, d1, d2, d3, d4, d5, d6, d7, (fun _ => rfl), d9, d12, (fun q => laterT (m1 q)), (fun q => laterT (m3 q)), (fun q => laterT (m4 q)), (fun q => laterT (m5 q)), (fun q => ⟨laterT (m7 q).1, laterT (m7 q).2⟩), (fun _ => laterT p7), (fun q => ⟨laterT (m9 q).1, laterT (m9 q).2⟩), (fun q => laterT (m10 q)), (fun q => ⟨laterT (m11 q).1, laterT (m11 q).2.1, laterT (m11 q).2.2⟩), (fun q => ⟨laterT (m13 q).1, laterT (m13 q).2⟩), HW2⟩
        · rintro A L vs w' F G ⟨v32, v33, v34, v35, v36, v37, v38, v39, v40, v41, v42, v43, v44, rfl, d0, d1, d2, d3, d4, d5, d6, d7, d8, d9, d12, m1, m3, m4, m5, m7, m8, m9, m10, m11, m13, HW⟩ hL hdep K' hK hK0
          have p5 : L 5 = true := hdep { on := 5, ground := Ground.data } (by simp) rfl
          have p8 : L 8 = true := hdep { on := 8, ground := Ground.data } (by simp) rfl
          have q := d5 p5
          subst q
          have g37 := evT (F 5 37 _ rfl rfl)
          have q := d8 p8
          subst q
          have g40 := evT (F 8 40 _ rfl rfl)
          clear F G
          go_simp
          refine hK 9 41 _ w' rfl ⟨_, _, _, _, _, _, _, _, _, _, _, _, _, rfl, d0, d1, d2, d3, d4, d5, d6, d7, d8, (fun _ => rfl), d12, (fun q => laterT (m1 q)), (fun q => laterT (m3 q)), (fun q => laterT (m4 q)), (fun q => laterT (m5 q)), (fun q => ⟨laterT (m7 q).1, laterT (m7 q).2⟩), (fun q => laterT (m8 q)), (fun _ => ⟨laterT p5, laterT p8⟩), (fun q => laterT (m10 q)), (fun q => ⟨laterT (m11 q).1, laterT (m11 q).2.1, laterT (m11 q).2.2⟩), (fun q => ⟨laterT (m13 q).1, laterT (m13 q).2⟩), HW⟩
        · rintro A L vs w' F G ⟨v32, v33, v34, v35, v36, v37, v38, v39, v40, v41, v42, v43, v44, rfl, d0, d1, d2, d3, d4, d5, d6, d7, d8, d9, d12, m1, m3, m4, m5, m7, m8, m9, m10, m11, m13, HW⟩ hL hdep K' hK hK0
          have p9 : L 9 = true := hdep { on := 9, ground := Ground.data } (by simp) rfl
          have n11 : L 11 = false := not_yet hL (fun q => (m11 q).2.2)
          have h := (HW.out.1 n11).1
          have h2 := (HW.out.1 n11).2
          have q := d9 p9
          subst q
          have g41 := evT (F 9 41 _ rfl rfl)
          have hb : Below w'.heap.size w' (w'.alloc (.cells #[.bool ((S0 : Int) == 1), .int .i64 S1] 54)) := (Below.refl _ _).alloc (Nat.le_refl _) _
          have HW2 : Hid ((L 11 = false → RfS w C (w'.alloc (.cells #[.bool ((S0 : Int) == 1), .int .i64 S1] 54)) bx pa rg (.slice ua lu0.length uc) (.slice none 0 0) (.slice none 0 0) (.slice none 0 0) (.slice ua lu0.length uc) (.slice none 0 0) (.slice none 0 0) lu0 [] [] ∧ (w'.alloc (.cells #[.bool ((S0 : Int) == 1), .int .i64 S1] 54)).heap[tb]? = some (.cells #[.int .i64 xk, .int .u64 xn, .string xs, .slice xa xm xc] 33 (0, 0))) ∧ (true = true → L 11 = false → ∃ g, (Value.slice (some ⟨w'.heap.size, 0, none⟩) 1 1) = .slice (some ⟨g, 0, none⟩) 1 1 ∧ (w'.alloc (.cells #[.bool ((S0 : Int) == 1), .int .i64 S1] 54)).heap[g]? = some (.cells #[.bool ((S0 : Int) == 1), .int .i64 S1] 54 (0, 0))) ∧ (L 11 = true → L 13 = false → RfS w C (w'.alloc (.cells #[.bool ((S0 : Int) == 1), .int .i64 S1] 54)) bx pa rg (.slice ua lu0.length uc) (.slice none 0 0) (.slice none 0 0) (.slice none 0 0) v43 (.slice none 0 0) (.slice none 0 0) lu1 [] []) ∧ (L 13 = true → RfS w C (w'.alloc (.cells #[.bool ((S0 : Int) == 1), .int .i64 S1] 54)) bx pa rg v43 (.slice none 0 0) (.slice none 0 0) (.slice none 0 0) v43 (.slice none 0 0) (.slice none 0 0) lu1 [] [])) := ⟨fun _ => ⟨h.below hb, (hb.block _ (blk_lt h2)).trans h2⟩, fun _ _ => ⟨w'.heap.size, rfl, heap_alloc_new _ _⟩, fun q => absurd q (by rw [n11]; decide), fun q => absurd ((m13 q).1) (by rw [n11]; decide)⟩
          clear F G
          go_simp
          refine hK 10 42 _ _ rfl ⟨_, _, _, _, _, _, _, _, _, _, _, _, _, rfl, d0, d1, d2, d3, d4, d5, d6, d7, d8, d9, d12, (fun q => laterT (m1 q)), (fun q => laterT (m3 q)), (fun q => laterT (m4 q)), (fun q => laterT (m5 q)), (fun q => ⟨laterT (m7 q).1, laterT (m7 q).2⟩), (fun q => laterT (m8 q)), (fun q => ⟨laterT (m9 q).1, laterT (m9 q).2⟩), (fun _ => laterT p9), (fun q => ⟨laterT (m11 q).1, laterT (m11 q).2.1, laterT (m11 q).2.2⟩), (fun q => ⟨laterT (m13 q).1, laterT (m13 q).2⟩), HW2⟩
        · rintro A L vs w' F G ⟨v32, v33, v34, v35, v36, v37, v38, v39, v40, v41, v42, v43, v44, rfl, d0, d1, d2, d3, d4, d5, d6, d7, d8, d9, d12, m1, m3, m4, m5, m7, m8, m9, m10, m11, m13, HW⟩ hL hdep K' hK hK0
          have p1 : L 1 = true := hdep { on := 1, ground := Ground.data } (by simp) rfl
          have p10 : L 10 = true := hdep { on := 10, ground := Ground.data } (by simp) rfl
          have p8 : L 8 = true := hdep { on := 8, ground := Ground.chain } (by simp) rfl
          have n13 : L 13 = false := not_yet hL (fun q => (m13 q).1)
          have h := (HW.out.1 hL).1
          have h2 := (HW.out.1 hL).2
          obtain ⟨g9, e42, hg⟩ := HW.out.2.1 p10 hL
          subst e42
          have q := d1 p1
          subst q
          have hB := h.sz
          refine step_append_src w' rfl (.tmp 33) (.tmp 42) 22 rfl (w.heap.size + 2) 54 iu0 _ 2 16 Tryd.underlying22 iu1 iu2 iu3 iu4 rfl (by decide) (.slice ua lu0.length uc) lu0.length _ (F 1 33 _ rfl rfl) h.ru (.slice (some ⟨g9, 0, none⟩) 1 1) 1 _ (F 10 42 _ rfl rfl) (src_one hg rfl (by intro u hu; simp at hu; rcases hu with rfl | rfl <;> rfl)) (by unfold maxLen; omega) (by omega) (by omega) ?_
          intro a' c' w2 q1 q2 q3
          have h4 := h.appU (x := X) (by rw [HXE.out]; exact q1) q2
          rw [← HL1.out] at h4
          have HW2 : Hid ((true = false → RfS w C w2 bx pa rg (.slice ua lu0.length uc) (.slice none 0 0) (.slice none 0 0) (.slice none 0 0) (.slice ua lu0.length uc) (.slice none 0 0) (.slice none 0 0) lu0 [] [] ∧ w2.heap[tb]? = some (.cells #[.int .i64 xk, .int .u64 xn, .string xs, .slice xa xm xc] 33 (0, 0))) ∧ (L 10 = true → true = false → ∃ g, (Value.slice (some ⟨g9, 0, none⟩) 1 1) = .slice (some ⟨g, 0, none⟩) 1 1 ∧ w2.heap[g]? = some (.cells #[.bool ((S0 : Int) == 1), .int .i64 S1] 54 (0, 0))) ∧ (true = true → L 13 = false → RfS w C w2 bx pa rg (.slice ua lu0.length uc) (.slice none 0 0) (.slice none 0 0) (.slice none 0 0) (.slice a' (lu0.length + 1) c') (.slice none 0 0) (.slice none 0 0) lu1 [] []) ∧ (L 13 = true → RfS w C w2 bx pa rg (.slice a' (lu0.length + 1) c') (.slice none 0 0) (.slice none 0 0) (.slice none 0 0) (.slice a' (lu0.length + 1) c') (.slice none 0 0) (.slice none 0 0) lu1 [] [])) := ⟨fun q => (by cases q), fun _ q => (by cases q), fun _ _ => h4, fun q => absurd q (by rw [n13]; decide)⟩
          refine hK 11 43 _ w2 rfl ⟨_, _, _, _, _, _, _, _, _, _, _, _, _, rfl, d0, d1, d2, d3, d4, d5, d6, d7, d8, d9, d12, (fun q => laterT (m1 q)), (fun q => laterT (m3 q)), (fun q => laterT (m4 q)), (fun q => laterT (m5 q)), (fun q => ⟨laterT (m7 q).1, laterT (m7 q).2⟩), (fun q => laterT (m8 q)), (fun q => ⟨laterT (m9 q).1, laterT (m9 q).2⟩), (fun q => laterT (m10 q)), (fun _ => ⟨laterT p1, laterT p8, laterT p10⟩), (fun q => ⟨laterT (m13 q).1, laterT (m13 q).2⟩), HW2⟩
        · rintro A L vs w' F G ⟨v32, v33, v34, v35, v36, v37, v38, v39, v40, v41, v42, v43, v44, rfl, d0, d1, d2, d3, d4, d5, d6, d7, d8, d9, d12, m1, m3, m4, m5, m7, m8, m9, m10, m11, m13, HW⟩ hL hdep K' hK hK0
          have g5 : A.tmps[5]?.getD undef = .pointer (some ⟨bx, 0, none⟩) := evT ((G 5 (by decide)).trans rfl)
          clear F G
          go_simp
          refine hK 12 44 _ w' rfl ⟨_, _, _, _, _, _, _, _, _, _, _, _, _, rfl, d0, d1, d2, d3, d4, d5, d6, d7, d8, d9, (fun _ => rfl), (fun q => laterT (m1 q)), (fun q => laterT (m3 q)), (fun q => laterT (m4 q)), (fun q => laterT (m5 q)), (fun q => ⟨laterT (m7 q).1, laterT (m7 q).2⟩), (fun q => laterT (m8 q)), (fun q => ⟨laterT (m9 q).1, laterT (m9 q).2⟩), (fun q => laterT (m10 q)), (fun q => ⟨laterT (m11 q).1, laterT (m11 q).2.1, laterT (m11 q).2.2⟩), (fun q => ⟨laterT (m13 q).1, laterT (m13 q).2⟩), HW⟩
        · rintro A L vs w' F G ⟨v32, v33, v34, v35, v36, v37, v38, v39, v40, v41, v42, v43, v44, rfl, d0, d1, d2, d3, d4, d5, d6, d7, d8, d9, d12, m1, m3, m4, m5, m7, m8, m9, m10, m11, m13, HW⟩ hL hdep K' hK hK0
          have p12 : L 12 = true := hdep { on := 12, ground := Ground.data } (by simp) rfl
          have p11 : L 11 = true := hdep { on := 11, ground := Ground.data } (by simp) rfl
          have h := HW.out.2.2.1 p11 hL
          obtain ⟨ax, cx, ex⟩ := owns_form h.ru
          subst ex
          have cc : ∃ u, w'.cell? ⟨bx, 2, none⟩ = some u := ⟨_, by rw [Lib.cell_of_heap h.blk]; rfl⟩
          obtain ⟨uu, cc⟩ := cc
          have fz := Lib.frozen_of_heap h.blk 2
          have HW2 : Hid ((L 11 = false → RfS w C (w'.setCell ⟨bx, 2, none⟩ (Value.slice ax lu1.length cx)) bx pa rg (.slice ua lu0.length uc) (.slice none 0 0) (.slice none 0 0) (.slice none 0 0) (.slice ua lu0.length uc) (.slice none 0 0) (.slice none 0 0) lu0 [] [] ∧ (w'.setCell ⟨bx, 2, none⟩ (Value.slice ax lu1.length cx)).heap[tb]? = some (.cells #[.int .i64 xk, .int .u64 xn, .string xs, .slice xa xm xc] 33 (0, 0))) ∧ (L 10 = true → L 11 = false → ∃ g, v42 = .slice (some ⟨g, 0, none⟩) 1 1 ∧ (w'.setCell ⟨bx, 2, none⟩ (Value.slice ax lu1.length cx)).heap[g]? = some (.cells #[.bool ((S0 : Int) == 1), .int .i64 S1] 54 (0, 0))) ∧ (L 11 = true → true = false → RfS w C (w'.setCell ⟨bx, 2, none⟩ (Value.slice ax lu1.length cx)) bx pa rg (.slice ua lu0.length uc) (.slice none 0 0) (.slice none 0 0) (.slice none 0 0) (Value.slice ax lu1.length cx) (.slice none 0 0) (.slice none 0 0) lu1 [] []) ∧ (true = true → RfS w C (w'.setCell ⟨bx, 2, none⟩ (Value.slice ax lu1.length cx)) bx pa rg (Value.slice ax lu1.length cx) (.slice none 0 0) (.slice none 0 0) (.slice none 0 0) (Value.slice ax lu1.length cx) (.slice none 0 0) (.slice none 0 0) lu1 [] [])) := ⟨fun q => absurd q (by rw [p11]; decide), fun _ q => absurd q (by rw [p11]; decide), fun _ q => (by cases q), fun _ => h.stU _⟩
          have q := d12 p12
          subst q
          have g44 := evT (F 12 44 _ rfl rfl)
          have gv := evT (F 11 43 _ rfl rfl)
          clear F G
          go_simp
          refine hK0 _ ⟨_, _, _, _, _, _, _, _, _, _, _, _, _, rfl, d0, d1, d2, d3, d4, d5, d6, d7, d8, d9, d12, (fun q => laterT (m1 q)), (fun q => laterT (m3 q)), (fun q => laterT (m4 q)), (fun q => laterT (m5 q)), (fun q => ⟨laterT (m7 q).1, laterT (m7 q).2⟩), (fun q => laterT (m8 q)), (fun q => ⟨laterT (m9 q).1, laterT (m9 q).2⟩), (fun q => laterT (m10 q)), (fun q => ⟨laterT (m11 q).1, laterT (m11 q).2.1, laterT (m11 q).2.2⟩), (fun _ => ⟨laterT p11, laterT p12⟩), HW2⟩
        · rintro L vs w' hall ⟨v32, v33, v34, v35, v36, v37, v38, v39, v40, v41, v42, v43, v44, rfl, d0, d1, d2, d3, d4, d5, d6, d7, d8, d9, d12, m1, m3, m4, m5, m7, m8, m9, m10, m11, m13, HW⟩
          have h := HW.out.2.2.2 (hall 13 (by decide))
          obtain ⟨ax, cx, ex⟩ := owns_form h.ru
          subst ex
          have HRF := hide_p h
          clear d0 d1 d2 d3 d4 d5 d6 d7 d8 d9 d12 m1 m3 m4 m5 m7 m8 m9 m10 m11 m13 HW h
          simp only [puts]
          go_simp
          go_wp2
          go_roundw
          case rel => exact ⟨i + 1, ax, cx, lu1, by omega, by go_num, HLN, HRF⟩
          case measure => simp [intOf]; omega

      · have e : i = N2 := by omega
        have HFL2 : Hid (lu0 = (manyL a2).map rUp) := by
          show _ = _
          rw [HLL.out, List.take_of_length_le (by have := HN2.out; omega)]
        clear HLL HF HF0 x0 x1 x2 x3
        obtain ⟨HF0, -⟩ : Hid (RfS w C w5 bx pa rg (.slice ua lu0.length uc) (.slice none 0 0) (.slice none 0 0) (.slice none 0 0) (.slice ua lu0.length uc) (.slice none 0 0) (.slice none 0 0) lu0 [] []) ∧ True := ⟨HF5, trivial⟩
        clear HF5
        go_wp2_with fail
        go_loopw [8] (fun t8 wr => ∃ (i : Nat) (ia : Option Addr) (ic : Nat) (lc : List _), i ≤ N3 ∧ t8 = .int .i64 i ∧ Hid (lc = ((manyL a3).take i).map rIns) ∧ Hid (RfS w C wr bx pa rg (.slice ua lu0.length uc) (.slice ia lc.length ic) (.slice none 0 0) (.slice none 0 0) (.slice ua lu0.length uc) (.slice ia lc.length ic) (.slice none 0 0) lu0 lc [])) (fun t8 _ => N3 - (intOf t8).toNat)
        case atStart => exact ⟨0, none, 0, [], Nat.zero_le _, rfl, rfl, HF0⟩
        case round =>
          obtain ⟨i, ia, ic, lc0, hi, rfl, HLL, HF⟩ := hrel
          obtain ⟨x0, x1, x2, x3⟩ := HCB.out wr HF.out.cb
          go_wp2_with fail
          refine (HA3.out wr HF.out.bel).mono ?_
          rintro e w4 ⟨rfl, hb4⟩
          have HF4 := hide_p (HF.out.below hb4)
          clear hb4 x0 x1 x2 x3
          go_wp2_with fail
          refine (HM3.out w4 HF4.out.bel).mono ?_
          rintro e w5 ⟨rfl, hb5⟩
          have HF5 := hide_p (HF4.out.below hb5)
          obtain ⟨x0, x1, x2, x3⟩ := HCB.out w5 HF5.out.cb
          clear hb5 HF4

          by_cases c : i < N3
          · have i1 : i < (manyL a3).length := by rw [← HN3.out]; exact c
            obtain ⟨ux, HCX, HAX, xk, xn, xs, xa, xm, xc, rfl⟩ := at_in HC3.out i
            obtain ⟨U0, HCU0, HX0, -⟩ := at_in HCX.out 0
            have HSU0 := sm_in HCU0.out
            obtain ⟨U1, HCU1, HX1, -⟩ := at_in HCX.out 1
            have HSU1 := sm_in HCU1.out
            obtain ⟨U2, HCU2, HX2, -⟩ := at_in HCX.out 2
            have HSU2 := sm_in HCU2.out
            obtain ⟨U3, HCU3, HX3, -⟩ := at_in HCX.out 3
            have HSU3 := sm_in HCU3.out
            obtain ⟨X, hX⟩ : ∃ X, X = rIns (atT a3 i) := ⟨_, rfl⟩
            obtain ⟨S0, hS0⟩ : ∃ S0, S0 = smT (atT (atT a3 i) 0) := ⟨_, rfl⟩
            obtain ⟨S1, hS1⟩ : ∃ S1, S1 = smT (atT (atT a3 i) 1) := ⟨_, rfl⟩
            obtain ⟨S2, hS2⟩ : ∃ S2, S2 = smT (atT (atT a3 i) 2) := ⟨_, rfl⟩
            obtain ⟨S3, hS3⟩ : ∃ S3, S3 = smT (atT (atT a3 i) 3) := ⟨_, rfl⟩
            have HXE : Hid ([Value.int .i64 X.op, .int .i64 X.a, .int .i64 X.b, .int .i64 X.c] = [.int .i64 S0, .int .i64 S1, .int .i64 S2, .int .i64 S3]) := by
              show _ = _
              rw [hX, hS0, hS1, hS2, hS3]
              rfl
            rw [← hS0] at HSU0
            rw [← hS1] at HSU1
            rw [← hS2] at HSU2
            rw [← hS3] at HSU3
            obtain ⟨lc1, hlc1⟩ : ∃ lc1, lc1 = lc0 ++ [X] := ⟨_, rfl⟩
            have HL1 := hide_p hlc1
            have HLN : Hid (lc1 = ((manyL a3).take (i + 1)).map rIns) := by
              show _ = _
              rw [take_rd i1, ← hX, hlc1, HLL.out]
            have hn : lc0.length ≤ 1000000 := by rw [HLL.out, List.length_map, List.length_take]; omega
            clear hlc1 hX HCX hS0 HCU0 hS1 HCU1 hS2 HCU2 hS3 HCU3
            go_wp2_with fail
            refine (HA3.out w5 HF5.out.bel).mono ?_
            rintro e w6 ⟨rfl, hb6⟩
            have HF6 := hide_p (HF5.out.below hb6)
            clear hb6 x0 x1 x2 x3 HF5
            go_wp2_with fail
            refine (HAX.out w6 HF6.out.bel).mono ?_
            rintro e w7 ⟨rfl, hb7⟩
            have HF7 := hide_p (HF6.out.below hb7)
            clear hb7 HF6 HAX
            obtain ⟨w8, hw8⟩ : ∃ w8, w8 = w7.alloc (.cells #[.int .i64 xk, .int .u64 xn, .string xs, .slice xa xm xc] 33) := ⟨_, rfl⟩
            obtain ⟨tb, htb⟩ : ∃ tb, tb = w7.heap.size := ⟨_, rfl⟩
            have HF8 : Hid (RfS w C w8 bx pa rg (.slice ua lu0.length uc) (.slice ia lc0.length ic) (.slice none 0 0) (.slice none 0 0) (.slice ua lu0.length uc) (.slice ia lc0.length ic) (.slice none 0 0) lu0 lc0 [] ∧ w8.heap[tb]? = some (.cells #[.int .i64 xk, .int .u64 xn, .string xs, .slice xa xm xc] 33 (0, 0))) := by
              show _ ∧ _
              rw [hw8, htb]
              exact ⟨HF7.out.below ((Below.refl _ _).alloc (Nat.le_refl _) _), heap_alloc_new _ _⟩
            go_upto_region 11 with fail
            rw [← hw8, ← htb]
            have HTB := hide_p (And.intro hw8 htb)
            clear hw8 htb
            refine wp_region_inv2 (by kernel_rfl) [56, 57, 58, 59, 60, 61, 62, 63, 64, 65, 66, 67, 68, 69, 70, 71, 72, 73] (fun L vs w' => ∃ v56 v57 v58 v59 v60 v61 v62 v63 v64 v65 v66 v67 v68 v69 v70 v71 v72 v73, vs = [v56, v57, v58, v59, v60, v61, v62, v63, v64, v65, v66, v67, v68, v69, v70, v71, v72, v73] ∧ (L 0 = true → v56 = (.pointer (some ⟨bx, 3, none⟩))) ∧ (L 1 = true → v57 = .slice ia lc0.length ic) ∧ (L 2 = true → v58 = (.agg #[.int .i64 xk, .int .u64 xn, .string xs, .slice xa xm xc])) ∧ (L 3 = true → v59 = U0) ∧ (L 4 = true → v60 = (.int .i64 S0)) ∧ (L 5 = true → v61 = (.agg #[.int .i64 xk, .int .u64 xn, .string xs, .slice xa xm xc])) ∧ (L 6 = true → v62 = U1) ∧ (L 7 = true → v63 = (.int .i64 S1)) ∧ (L 8 = true → v64 = (.agg #[.int .i64 xk, .int .u64 xn, .string xs, .slice xa xm xc])) ∧ (L 9 = true → v65 = U2) ∧ (L 10 = true → v66 = (.int .i64 S2)) ∧ (L 11 = true → v67 = (.agg #[.int .i64 xk, .int .u64 xn, .string xs, .slice xa xm xc])) ∧ (L 12 = true → v68 = U3) ∧ (L 13 = true → v69 = (.int .i64 S3)) ∧ (L 14 = true → v70 = (.agg #[.int .i64 S0, .int .i64 S1, .int .i64 S2, .int .i64 S3])) ∧ (L 17 = true → v73 = (.pointer (some ⟨bx, 3, none⟩))) ∧ (L 1 = true → L 0 = true) ∧ (L 3 = true → L 2 = true) ∧ (L 4 = true → L 3 = true) ∧ (L 6 = true → L 4 = true ∧ L 5 = true) ∧ (L 7 = true → L 6 = true) ∧ (L 9 = true → L 7 = true ∧ L 8 = true) ∧ (L 10 = true → L 9 = true) ∧ (L 12 = true → L 10 = true ∧ L 11 = true) ∧ (L 13 = true → L 12 = true) ∧ (L 14 = true → L 4 = true ∧ L 7 = true ∧ L 10 = true ∧ L 13 = true) ∧ (L 15 = true → L 14 = true) ∧ (L 16 = true → L 1 = true ∧ L 13 = true ∧ L 15 = true) ∧ (L 18 = true → L 16 = true ∧ L 17 = true) ∧ Hid ((L 16 = false → RfS w C w' bx pa rg (.slice ua lu0.length uc) (.slice ia lc0.length ic) (.slice none 0 0) (.slice none 0 0) (.slice ua lu0.length uc) (.slice ia lc0.length ic) (.slice none 0 0) lu0 lc0 [] ∧ w'.heap[tb]? = some (.cells #[.int .i64 xk, .int .u64 xn, .string xs, .slice xa xm xc] 33 (0, 0))) ∧ (L 15 = true → L 16 = false → ∃ g, v71 = .slice (some ⟨g, 0, none⟩) 1 1 ∧ w'.heap[g]? = some (.cells #[.int .i64 S0, .int .i64 S1, .int .i64 S2, .int .i64 S3] 58 (0, 0))) ∧ (L 16 = true → L 18 = false → RfS w C w' bx pa rg (.slice ua lu0.length uc) (.slice ia lc0.length ic) (.slice none 0 0) (.slice none 0 0) (.slice ua lu0.length uc) v72 (.slice none 0 0) lu0 lc1 []) ∧ (L 18 = true → RfS w C w' bx pa rg (.slice ua lu0.length uc) v72 (.slice none 0 0) (.slice none 0 0) (.slice ua lu0.length uc) v72 (.slice none 0 0) lu0 lc1 []))) (by kernel_rfl) (by decide) (by simp) ?_ ⟨?_, ?_, ?_, ?_, ?_, ?_, ?_, ?_, ?_, ?_, ?_, ?_, ?_, ?_, ?_, ?_, ?_, ?_, ?_, trivial⟩ ?_
            · exact ⟨_, _, _, _, _, _, _, _, _, _, _, _, _, _, _, _, _, _, rfl, fun q => by (cases q), fun q => by (cases q), fun q => by (cases q), fun q => by (cases q), fun q => by (cases q), fun q => by (cases q), fun q => by (cases q), fun q => by (cases q), fun q => by (cases q), fun q => by (cases q), fun q => by (cases q), fun q => by (cases q), fun q => by (cases q), fun q => by (cases q), fun q => by (cases q), fun q => by (cases q), fun q => by (cases q), fun q => by (cases q), fun q => by (cases q), fun q => by (cases q), fun q => by (cases q), fun q => by (cases q), fun q => by (cases q), fun q => by (cases q), fun q => by (cases q), fun q => by (cases q), fun q => by (cases q), fun q => by (cases q), fun q => by (cases q), ⟨fun _ => ⟨HF8.out.1.below (Below.refl _ _).drew, HF8.out.2⟩, fun q => (by cases q), fun q => (by cases q), fun q => (by cases q)⟩⟩
            · rintro A L vs w' F G ⟨v56, v57, v58, v59, v60, v61, v62, v63, v64, v65, v66, v67, v68, v69, v70, v71, v72, v73, rfl, d0, d1, d2, d3, d4, d5, d6, d7, d8, d9, d10, d11, d12, d13, d14, d17, m1, m3, m4, m6, m7, m9, m10, m12, m13, m14, m15, m16, m18, HW⟩ hL hdep K' hK hK0
              have g5 : A.tmps[5]?.getD undef = .pointer (some ⟨bx, 0, none⟩) := evT ((G 5 (by decide)).trans rfl)
              clear F G
              go_simp
              refine hK 0 56 _ w' rfl ⟨_, _, _, _, _, _, _, _, _, _, _, _, _, _, _, _, _, _, rfl, (fun _ => rfl), d1, d2, d3, d4, d5, d6, d7, d8, d9, d10, d11, d12, d13, d14, d17, (fun q => laterT (m1 q)), (fun q => laterT (m3 q)), (fun q => laterT (m4 q)), (fun q => ⟨laterT (m6 q).1, laterT (m6 q).2⟩), (fun q => laterT (m7 q)), (fun q => ⟨laterT (m9 q).1, laterT (m9 q).2⟩), (fun q => laterT (m10 q)), (fun q => ⟨laterT (m12 q).1, laterT (m12 q).2⟩), (fun q => laterT (m13 q)), (fun q => ⟨laterT (m14 q).1, laterT (m14 q).2.1, laterT (m14 q).2.2.1, laterT (m14 q).2.2.2⟩), (fun q => laterT (m15 q)), (fun q => ⟨laterT (m16 q).1, laterT (m16 q).2.1, laterT (m16 q).2.2⟩), (fun q => ⟨laterT (m18 q).1, laterT (m18 q).2⟩), HW⟩
            · rintro A L vs w' F G ⟨v56, v57, v58, v59, v60, v61, v62, v63, v64, v65, v66, v67, v68, v69, v70, v71, v72, v73, rfl, d0, d1, d2, d3, d4, d5, d6, d7, d8, d9, d10, d11, d12, d13, d14, d17, m1, m3, m4, m6, m7, m9, m10, m12, m13, m14, m15, m16, m18, HW⟩ hL hdep K' hK hK0
              have p0 : L 0 = true := hdep { on := 0, ground := Ground.data } (by simp) rfl
              have n16 : L 16 = false := not_yet hL (fun q => (m16 q).1)
              have h := (HW.out.1 n16).1
              have b0 : w'.cell? ⟨bx, 3, none⟩ = some (.slice ia lc0.length ic) := by rw [Lib.cell_of_heap h.blk]; rfl
              have q := d0 p0
              subst q
              have g56 := evT (F 0 56 _ rfl rfl)
              clear F G
              go_simp
              refine hK 1 57 _ w' rfl ⟨_, _, _, _, _, _, _, _, _, _, _, _, _, _, _, _, _, _, rfl, d0, (fun _ => rfl), d2, d3, d4, d5, d6, d7, d8, d9, d10, d11, d12, d13, d14, d17, (fun _ => laterT p0), (fun q => laterT (m3 q)), (fun q => laterT (m4 q)), (fun q => ⟨laterT (m6 q).1, laterT (m6 q).2⟩), (fun q => laterT (m7 q)), (fun q => ⟨laterT (m9 q).1, laterT (m9 q).2⟩), (fun q => laterT (m10 q)), (fun q => ⟨laterT (m12 q).1, laterT (m12 q).2⟩), (fun q => laterT (m13 q)), (fun q => ⟨laterT (m14 q).1, laterT (m14 q).2.1, laterT (m14 q).2.2.1, laterT (m14 q).2.2.2⟩), (fun q => laterT (m15 q)), (fun q => ⟨laterT (m16 q).1, laterT (m16 q).2.1, laterT (m16 q).2.2⟩), (fun q => ⟨laterT (m18 q).1, laterT (m18 q).2⟩), HW⟩
            · rintro A L vs w' F G ⟨v56, v57, v58, v59, v60, v61, v62, v63, v64, v65, v66, v67, v68, v69, v70, v71, v72, v73, rfl, d0, d1, d2, d3, d4, d5, d6, d7, d8, d9, d10, d11, d12, d13, d14, d17, m1, m3, m4, m6, m7, m9, m10, m12, m13, m14, m15, m16, m18, HW⟩ hL hdep K' hK hK0
              have n16 : L 16 = false := not_yet hL (fun q => (m3 ((m4 ((m14 ((m15 ((m16 q).2.2)))).1)))))
              have h := (HW.out.1 n16).2
              obtain ⟨b0, b1, b2, b3⟩ := block4 h
              have gt : A.tmps[9]?.getD undef = .pointer (some ⟨tb, 0, none⟩) := evT ((G 9 (by decide)).trans rfl)
              clear F G
              go_simp
              refine hK 2 58 _ w' rfl ⟨_, _, _, _, _, _, _, _, _, _, _, _, _, _, _, _, _, _, rfl, d0, d1, (fun _ => rfl), d3, d4, d5, d6, d7, d8, d9, d10, d11, d12, d13, d14, d17, (fun q => laterT (m1 q)), (fun q => laterT (m3 q)), (fun q => laterT (m4 q)), (fun q => ⟨laterT (m6 q).1, laterT (m6 q).2⟩), (fun q => laterT (m7 q)), (fun q => ⟨laterT (m9 q).1, laterT (m9 q).2⟩), (fun q => laterT (m10 q)), (fun q => ⟨laterT (m12 q).1, laterT (m12 q).2⟩), (fun q => laterT (m13 q)), (fun q => ⟨laterT (m14 q).1, laterT (m14 q).2.1, laterT (m14 q).2.2.1, laterT (m14 q).2.2.2⟩), (fun q => laterT (m15 q)), (fun q => ⟨laterT (m16 q).1, laterT (m16 q).2.1, laterT (m16 q).2.2⟩), (fun q => ⟨laterT (m18 q).1, laterT (m18 q).2⟩), HW⟩
            · rintro A L vs w' F G ⟨v56, v57, v58, v59, v60, v61, v62, v63, v64, v65, v66, v67, v68, v69, v70, v71, v72, v73, rfl, d0, d1, d2, d3, d4, d5, d6, d7, d8, d9, d10, d11, d12, d13, d14, d17, m1, m3, m4, m6, m7, m9, m10, m12, m13, m14, m15, m16, m18, HW⟩ hL hdep K' hK hK0
              have p2 : L 2 = true := hdep { on := 2, ground := Ground.data } (by simp) rfl
              have n16 : L 16 = false := not_yet hL (fun q => (m4 ((m14 ((m15 ((m16 q).2.2)))).1)))
              have h := (HW.out.1 n16).1
              have h2 := (HW.out.1 n16).2
              have q := d2 p2
              subst q
              have g58 := evT (F 2 58 _ rfl rfl)
              clear F G
              go_simp
              refine (HX0.out _ h.bel).mono ?_
              rintro e w2 ⟨rfl, hb⟩
              have HW2 : Hid ((L 16 = false → RfS w C w2 bx pa rg (.slice ua lu0.length uc) (.slice ia lc0.length ic) (.slice none 0 0) (.slice none 0 0) (.slice ua lu0.length uc) (.slice ia lc0.length ic) (.slice none 0 0) lu0 lc0 [] ∧ w2.heap[tb]? = some (.cells #[.int .i64 xk, .int .u64 xn, .string xs, .slice xa xm xc] 33 (0, 0))) ∧ (L 15 = true → L 16 = false → ∃ g, v71 = .slice (some ⟨g, 0, none⟩) 1 1 ∧ w2.heap[g]? = some (.cells #[.int .i64 S0, .int .i64 S1, .int .i64 S2, .int .i64 S3] 58 (0, 0))) ∧ (L 16 = true → L 18 = false → RfS w C w2 bx pa rg (.slice ua lu0.length uc) (.slice ia lc0.length ic) (.slice none 0 0) (.slice none 0 0) (.slice ua lu0.length uc) v72 (.slice none 0 0) lu0 lc1 []) ∧ (L 18 = true → RfS w C w2 bx pa rg (.slice ua lu0.length uc) v72 (.slice none 0 0) (.slice none 0 0) (.slice ua lu0.length uc) v72 (.slice none 0 0) lu0 lc1 [])) := ⟨fun _ => ⟨h.below hb, (hb.block _ (blk_lt h2)).trans h2⟩, fun q r => by obtain ⟨g, e, hg⟩ := HW.out.2.1 q r; exact ⟨g, e, (hb.block _ (blk_lt hg)).trans hg⟩, fun q => absurd q (by rw [n16]; decide), fun q => absurd ((m18 q).1) (by rw [n16]; decide)⟩
              refine hK 3 59 _ w2 rfl ⟨_, _, _, _, _, _, _, _, _, _, _, _, _, _, _, _, _, _, rfl, d0, d1, d2, (fun _ => rfl), d4, d5, d6, d7, d8, d9, d10, d11, d12, d13, d14, d17, (fun q => laterT (m1 q)), (fun _ => laterT p2), (fun q => laterT (m4 q)), (fun q => ⟨laterT (m6 q).1, laterT (m6 q).2⟩), (fun q => laterT (m7 q)), (fun q => ⟨laterT (m9 q).1, laterT (m9 q).2⟩), (fun q => laterT (m10 q)), (fun q => ⟨laterT (m12 q).1, laterT (m12 q).2⟩), (fun q => laterT (m13 q)), (fun q => ⟨laterT (m14 q).1, laterT (m14 q).2.1, laterT (m14 q).2.2.1, laterT (m14 q).2.2.2⟩), (fun q => laterT (m15 q)), (fun q => ⟨laterT (m16 q).1, laterT (m16 q).2.1, laterT (m16 q).2.2⟩), (fun q => ⟨laterT (m18 q).1, laterT (m18 q).2⟩), HW2⟩
            · rintro A L vs w' F G ⟨v56, v57, v58, v59, v60, v61, v62, v63, v64, v65, v66, v67, v68, v69, v70, v71, v72, v73, rfl, d0, d1, d2, d3, d4, d5, d6, d7, d8, d9, d10, d11, d12, d13, d14, d17, m1, m3, m4, m6, m7, m9, m10, m12, m13, m14, m15, m16, m18, HW⟩ hL hdep K' hK hK0
              have p3 : L 3 = true := hdep { on := 3, ground := Ground.data } (by simp) rfl
              have n16 : L 16 = false := not_yet hL (fun q => (m14 ((m15 ((m16 q).2.2)))).1)
              have h := (HW.out.1 n16).1
              have h2 := (HW.out.1 n16).2
              have q := d3 p3
              subst q
              have g59 := evT (F 3 59 _ rfl rfl)
              clear F G
              go_simp
              refine (HSU0.out _ h.bel).mono ?_
              rintro e w2 ⟨rfl, hb⟩
              have HW2 : Hid ((L 16 = false → RfS w C w2 bx pa rg (.slice ua lu0.length uc) (.slice ia lc0.length ic) (.slice none 0 0) (.slice none 0 0) (.slice ua lu0.length uc) (.slice ia lc0.length ic) (.slice none 0 0) lu0 lc0 [] ∧ w2.heap[tb]? = some (.cells #[.int .i64 xk, .int .u64 xn, .string xs, .slice xa xm xc] 33 (0, 0))) ∧ (L 15 = true → L 16 = false → ∃ g, v71 = .slice (some ⟨g, 0, none⟩) 1 1 ∧ w2.heap[g]? = some (.cells #[.int .i64 S0, .int .i64 S1, .int .i64 S2, .int .i64 S3] 58 (0, 0))) ∧ (L 16 = true → L 18 = false → RfS w C w2 bx pa rg (.slice ua lu0.length uc) (.slice ia lc0.length ic) (.slice none 0 0) (.slice none 0 0) (.slice ua lu0.length uc) v72 (.slice none 0 0) lu0 lc1 []) ∧ (L 18 = true → RfS w C w2 bx pa rg (.slice ua lu0.length uc) v72 (.slice none 0 0) (.slice none 0 0) (.slice ua lu0.length uc) v72 (.slice none 0 0) lu0 lc1 [])) := ⟨fun _ => ⟨h.below hb, (hb.block _ (blk_lt h2)).trans h2⟩, fun q r => by obtain ⟨g, e, hg⟩ := HW.out.2.1 q r; exact ⟨g, e, (hb.block _ (blk_lt hg)).trans hg⟩, fun q => absurd q (by rw [n16]; decide), fun q => absurd ((m18 q).1) (by rw [n16]; decide)⟩
              refine hK 4 60 _ w2 rfl ⟨_, _, _, _, _, _, _, _, _, _, _, _, _, _, _, _, _, _, rfl, d0, d1, d2, d3, (fun _ => rfl), d5, d6, d7, d8, d9, d10, d11, d12, d13, d14, d17, (fun q => laterT (m1 q)), (fun q => laterT (m3 q)), (fun _ => laterT p3), (fun q => ⟨laterT (m6 q).1, laterT (m6 q).2⟩), (fun q => laterT (m7 q)), (fun q => ⟨laterT (m9 q).1, laterT (m9 q).2⟩), (fun q => laterT (m10 q)), (fun q => ⟨laterT (m12 q).1, laterT (m12 q).2⟩), (fun q => laterT (m13 q)), (fun q => ⟨laterT (m14 q).1, laterT (m14 q).2.1, laterT (m14 q).2.2.1, laterT (m14 q).2.2.2⟩), (fun q => laterT (m15 q)), (fun q => ⟨laterT (m16 q).1, laterT (m16 q).2.1, laterT (m16 q).2.2⟩), (fun q => ⟨laterT (m18 q).1, laterT (m18 q).2⟩), HW2⟩
            · rintro A L vs w' F G ⟨v56, v57, v58, v59, v60, v61, v62, v63, v64, v65, v66, v67, v68, v69, v70, v71, v72, v73, rfl, d0, d1, d2, d3, d4, d5, d6, d7, d8, d9, d10, d11, d12, d13, d14, d17, m1, m3, m4, m6, m7, m9, m10, m12, m13, m14, m15, m16, m18, HW⟩ hL hdep K' hK hK0
              have n16 : L 16 = false := not_yet hL (fun q => (m6 ((m7 ((m14 ((m15 ((m16 q).2.2)))).2.1)))).2)
              have h := (HW.out.1 n16).2
              obtain ⟨b0, b1, b2, b3⟩ := block4 h
              have gt : A.tmps[9]?.getD undef = .pointer (some ⟨tb, 0, none⟩) := evT ((G 9 (by decide)).trans rfl)
              clear F G
              go_simp
              refine hK 5 61 _ w' rfl ⟨_, _, _, _, _, _, _, _, _, _, _, _, _, _, _, _, _, _, rfl, d0, d1, d2, d3, d4, (fun _ => rfl), d6, d7, d8, d9, d10, d11, d12, d13, d14, d17, (fun q => laterT (m1 q)), (fun q => laterT (m3 q)), (fun q => laterT (m4 q)), (fun q => ⟨laterT (m6 q).1, laterT (m6 q).2⟩), (fun q => laterT (m7 q)), (fun q => ⟨laterT (m9 q).1, laterT (m9 q).2⟩), (fun q => laterT (m10 q)), (fun q => ⟨laterT (m12 q).1, laterT (m12 q).2⟩), (fun q => laterT (m13 q)), (fun q => ⟨laterT (m14 q).1, laterT (m14 q).2.1, laterT (m14 q).2.2.1, laterT (m14 q).2.2.2⟩), (fun q => laterT (m15 q)), (fun q => ⟨laterT (m16 q).1, laterT (m16 q).2.1, laterT (m16 q).2.2⟩), (fun q => ⟨laterT (m18 q).1, laterT (m18 q).2⟩), HW⟩
            · rintro A L vs w' F G ⟨v56, v57, v58, v59, v60, v61, v62, v63, v64, v65, v66, v67, v68, v69, v70, v71, v72, v73, rfl, d0, d1, d2, d3, d4, d5, d6, d7, d8, d9, d10, d11, d12, d13, d14, d17, m1, m3, m4, m6, m7, m9, m10, m12, m13, m14, m15, m16, m18, HW⟩ hL hdep K' hK hK0
              have p5 : L 5 = true := hdep { on := 5, ground := Ground.data } (by simp) rfl
              have p4 : L 4 = true := hdep { on := 4, ground := Ground.chain } (by simp) rfl
              have n16 : L 16 = false := not_yet hL (fun q => (m7 ((m14 ((m15 ((m16 q).2.2)))).2.1)))
              have h := (HW.out.1 n16).1
              have h2 := (HW.out.1 n16).2
              have q := d5 p5
              subst q
              have g61 := evT (F 5 61 _ rfl rfl)
              clear F G
              go_simp
              refine (HX1.out _ h.bel).mono ?_
              rintro e w2 ⟨rfl, hb⟩
              have HW2 : Hid ((L 16 = false → RfS w C w2 bx pa rg (.slice ua lu0.length uc) (.slice ia lc0.length ic) (.slice none 0 0) (.slice none 0 0) (.slice ua lu0.length uc) (.slice ia lc0.length ic) (.slice none 0 0) lu0 lc0 [] ∧ w2.heap[tb]? = some (.cells #[.int .i64 xk, .int .u64 xn, .string xs, .slice xa xm xc] 33 (0, 0))) ∧ (L 15 = true → L 16 = false → ∃ g, v71 = .slice (some ⟨g, 0, none⟩) 1 1 ∧ w2.heap[g]? = some (.cells #[.int .i64 S0, .int .i64 S1, .int .i64 S2, .int .i64 S3] 58 (0, 0))) ∧ (L 16 = true → L 18 = false → RfS w C w2 bx pa rg (.slice ua lu0.length uc) (.slice ia lc0.length ic) (.slice none 0 0) (.slice none 0 0) (.slice ua lu0.length uc) v72 (.slice none 0 0) lu0 lc1 []) ∧ (L 18 = true → RfS w C w2 bx pa rg (.slice ua lu0.length uc) v72 (.slice none 0 0) (.slice none 0 0) (.slice ua lu0.length uc) v72 (.slice none 0 0) lu0 lc1 [])) := ⟨fun _ => ⟨h.below hb, (hb.block _ (blk_lt h2)).trans h2⟩, fun q r => by obtain ⟨g, e, hg⟩ := HW.out.2.1 q r; exact ⟨g, e, (hb.block _ (blk_lt hg)).trans hg⟩, fun q => absurd q (by rw [n16]; decide), fun q => absurd ((m18 q).1) (by rw [n16]; decide)⟩
              refine hK 6 62 _ w2 rfl ⟨_, _, _, _, _, _, _, _, _, _, _, _, _, _, _, _, _, _, rfl, d0, d1, d2, d3, d4, d5, (fun _ => rfl), d7, d8, d9, d10, d11, d12, d13, d14, d17, (fun q => laterT (m1 q)), (fun q => laterT (m3 q)), (fun q => laterT (m4 q)), (fun _ => ⟨laterT p4, laterT p5⟩), (fun q => laterT (m7 q)), (fun q => ⟨laterT (m9 q).1, laterT (m9 q).2⟩), (fun q => laterT (m10 q)), (fun q => ⟨laterT (m12 q).1, laterT (m12 q).2⟩), (fun q => laterT (m13 q)), (fun q => ⟨laterT (m14 q).1, laterT (m14 q).2.1, laterT (m14 q).2.2.1, laterT (m14 q).2.2.2⟩), (fun q => laterT (m15 q)), (fun q => ⟨laterT (m16 q).1, laterT (m16 q).2.1, laterT (m16 q).2.2⟩), (fun q => ⟨laterT (m18 q).1, laterT (m18 q).2⟩), HW2⟩
            · rintro A L vs w' F G ⟨v56, v57, v58, v59, v60, v61, v62, v63, v64, v65, v66, v67, v68, v69, v70, v71, v72, v73, rfl, d0, d1, d2, d3, d4, d5, d6, d7, d8, d9, d10, d11, d12, d13, d14, d17, m1, m3, m4, m6, m7, m9, m10, m12, m13, m14, m15, m16, m18, HW⟩ hL hdep K' hK hK0
              have p6 : L 6 = true := hdep { on := 6, ground := Ground.data } (by simp) rfl
              have n16 : L 16 = false := not_yet hL (fun q => (m14 ((m15 ((m16 q).2.2)))).2.1)
              have h := (HW.out.1 n16).1
              have h2 := (HW.out.1 n16).2
              have q := d6 p6
              subst q
              have g62 := evT (F 6 62 _ rfl rfl)
              clear F G
              go_simp
              refine (HSU1.out _ h.bel).mono ?_
              rintro e w2 ⟨rfl, hb⟩
              have HW2 : Hid ((L 16 = false → RfS w C w2 bx pa rg (.slice ua lu0.length uc) (.slice ia lc0.length ic) (.slice none 0 0) (.slice none 0 0) (.slice ua lu0.length uc) (.slice ia lc0.length ic) (.slice none 0 0) lu0 lc0 [] ∧ w2.heap[tb]? = some (.cells #[.int .i64 xk, .int .u64 xn, .string xs, .slice xa xm xc] 33 (0, 0))) ∧ (L 15 = true → L 16 = false → ∃ g, v71 = .slice (some ⟨g, 0, none⟩) 1 1 ∧ w2.heap[g]? = some (.cells #[.int .i64 S0, .int .i64 S1, .int .i64 S2, .int .i64 S3] 58 (0, 0))) ∧ (L 16 = true → L 18 = false → RfS w C w2 bx pa rg (.slice ua lu0.length uc) (.slice ia lc0.length ic) (.slice none 0 0) (.slice none 0 0) (.slice ua lu0.length uc) v72 (.slice none 0 0) lu0 lc1 []) ∧ (L 18 = true → RfS w C w2 bx pa rg (.slice ua lu0.length uc) v72 (.slice none 0 0) (.slice none 0 0) (.slice ua lu0.length uc) v72 (.slice none 0 0) lu0 lc1 [])) := ⟨fun _ => ⟨h.below hb, (hb.block _ (blk_lt h2)).trans h2⟩, fun q r => by obtain ⟨g, e, hg⟩ := HW.out.2.1 q r; exact ⟨g, e, (hb.block _ (blk_lt hg)).trans hg⟩, fun q => absurd q (by rw [n16]; decide), fun q => absurd ((m18 q).1) (by rw [n16]; decide)⟩
              refine hK 7 63 _ w2 rfl ⟨_, _, _, _, _, _, _, _, _, _, _, _, _, _, _, _, _, _, rfl, d0, d1, d2, d3, d4, d5, d6, (fun _ => rfl), d8, d9, d10, d11, d12, d13, d14, d17, (fun q => laterT (m1 q)), (fun q => laterT (m3 q)), (fun q => laterT (m4 q)), (fun q => ⟨laterT (m6 q).1, laterT (m6 q).2⟩), (fun _ => laterT p6), (fun q => ⟨laterT (m9 q).1, laterT (m9 q).2⟩), (fun q => laterT (m10 q)), (fun q => ⟨laterT (m12 q).1, laterT (m12 q).2⟩), (fun q => laterT (m13 q)), (fun q => ⟨laterT (m14 q).1, laterT (m14 q).2.1, laterT (m14 q).2.2.1, laterT (m14 q).2.2.2⟩), (fun q => laterT (m15 q)), (fun q => ⟨laterT (m16 q).1, laterT (m16 q).2.1, laterT (m16 q).2.2⟩), (fun q => ⟨laterT (m18 q).1, laterT (m18 q).2⟩), HW2⟩
            · rintro A L vs w' F G ⟨v56, v57, v58, v59, v60, v61, v62, v63, v64, v65, v66, v67, v68, v69, v70, v71, v72, v73, rfl, d0, d1, d2, d3, d4, d5, d6, d7, d8, d9, d10, d11, d12, d13, d14, d17, m1, m3, m4, m6, m7, m9, m10, m12, m13, m14, m15, m16, m18, HW⟩ hL hdep K' hK hK0
              have n16 : L 16 = false := not_yet hL (fun q => (m9 ((m10 ((m12 ((m13 ((m16 q).2.1)))).1)))).2)
              have h := (HW.out.1 n16).2
              obtain ⟨b0, b1, b2, b3⟩ := block4 h
              have gt : A.tmps[9]?.getD undef = .pointer (some ⟨tb, 0, none⟩) := evT ((G 9 (by decide)).trans rfl)
              clear F G
              go_simp
              refine hK 8 64 _ w' rfl ⟨_, _, _, _, _, _, _, _, _, _, _, _, _, _, _, _, _, _, rfl, d0, d1, d2, d3, d4, d5, d6, d7, (fun _ => rfl), d9, d10, d11, d12, d13, d14, d17, (fun q => laterT (m1 q)), (fun q => laterT (m3 q)), (fun q => laterT (m4 q)), (fun q => ⟨laterT (m6 q).1, laterT (m6 q).2⟩), (fun q => laterT (m7 q)), (fun q => ⟨laterT (m9 q).1, laterT (m9 q).2⟩), (fun q => laterT (m10 q)), (fun q => ⟨laterT (m12 q).1, laterT (m12 q).2⟩), (fun q => laterT (m13 q)), (fun q => ⟨laterT (m14 q).1, laterT (m14 q).2.1, laterT (m14 q).2.2.1, laterT (m14 q).2.2.2⟩), (fun q => laterT (m15 q)), (fun q => ⟨laterT (m16 q).1, laterT (m16 q).2.1, laterT (m16 q).2.2⟩), (fun q => ⟨laterT (m18 q).1, laterT (m18 q).2⟩), HW⟩
            · rintro A L vs w' F G ⟨v56, v57, v58, v59, v60, v61, v62, v63, v64, v65, v66, v67, v68, v69, v70, v71, v72, v73, rfl, d0, d1, d2, d3, d4, d5, d6, d7, d8, d9, d10, d11, d12, d13, d14, d17, m1, m3, m4, m6, m7, m9, m10, m12, m13, m14, m15, m16, m18, HW⟩ hL hdep K' hK hK0
              have p8 : L 8 = true := hdep { on := 8, ground := Ground.data } (by simp) rfl
              have p7 : L 7 = true := hdep { on := 7, ground := Ground.chain } (by simp) rfl
              have n16 : L 16 = false := not_yet hL (fun q => (m10 ((m12 ((m13 ((m16 q).2.1)))).1)))
              have h := (HW.out.1 n16).1
              have h2 := (HW.out.1 n16).2
              have q := d8 p8
              subst q
              have g64 := evT (F 8 64 _ rfl rfl)
              clear F G
              go_simp
              refine (HX2.out _ h.bel).mono ?_
              rintro e w2 ⟨rfl, hb⟩
              have HW2 : Hid ((L 16 = false → RfS w C w2 bx pa rg (.slice ua lu0.length uc) (.slice ia lc0.length ic) (.slice none 0 0) (.slice none 0 0) (.slice ua lu0.length uc) (.slice ia lc0.length ic) (.slice none 0 0) lu0 lc0 [] ∧ w2.heap[tb]? = some (.cells #[.int .i64 xk, .int .u64 xn, .string xs, .slice xa xm xc] 33 (0, 0))) ∧ (L 15 = true → L 16 = false → ∃ g, v71 = .slice (some ⟨g, 0, none⟩) 1 1 ∧ w2.heap[g]? = some (.cells #[.int .i64 S0, .int .i64 S1, .int .i64 S2, .int .i64 S3] 58 (0, 0))) ∧ (L 16 = true → L 18 = false → RfS w C w2 bx pa rg (.slice ua lu0.length uc) (.slice ia lc0.length ic) (.slice none 0 0) (.slice none 0 0) (.slice ua lu0.length uc) v72 (.slice none 0 0) lu0 lc1 []) ∧ (L 18 = true → RfS w C w2 bx pa rg (.slice ua lu0.length uc) v72 (.slice none 0 0) (.slice none 0 0) (.slice ua lu0.length uc) v72 (.slice none 0 0) lu0 lc1 [])) := ⟨fun _ => ⟨h.below hb, (hb.block _ (blk_lt h2)).trans h2⟩, fun q r => by obtain ⟨g, e, hg⟩ := HW.out.2.1 q r; exact ⟨g, e, (hb.block _ (blk_lt hg)).trans hg⟩, fun q => absurd q (by rw [n16]; decide), fun q => absurd ((m18 q).1) (by rw [n16]; decide)⟩
              refine hK 9 65 _ w2 rfl ⟨_, _, _, _, _, _, _, _, _, _, _, _, _, _, _, _, _, _, rfl, d0, d1, d2, d3, d4, d5, d6, d7, d8, (fun _ => rfl), d10, d11, d12, d13, d14, d17, (fun q => laterT (m1 q)), (fun q => laterT (m3 q)), (fun q => laterT (m4 q)), (fun q => ⟨laterT (m6 q).1, laterT (m6 q).2⟩), (fun q => laterT (m7 q)), (fun _ => ⟨laterT p7, laterT p8⟩), (fun q => laterT (m10 q)), (fun q => ⟨laterT (m12 q).1, laterT (m12 q).2⟩), (fun q => laterT (m13 q)), (fun q => ⟨laterT (m14 q).1, laterT (m14 q).2.1, laterT (m14 q).2.2.1, laterT (m14 q).2.2.2⟩), (fun q => laterT (m15 q)), (fun q => ⟨laterT (m16 q).1, laterT (m16 q).2.1, laterT (m16 q).2.2⟩), (fun q => ⟨laterT (m18 q).1, laterT (m18 q).2⟩), HW2⟩
            · rintro A L vs w' F G ⟨v56, v57, v58, v59, v60, v61, v62, v63, v64, v65, v66, v67, v68, v69, v70, v71, v72, v73, rfl, d0, d1, d2, d3, d4, d5, d6, d7, d8, d9, d10, d11, d12, d13, d14, d17, m1, m3, m4, m6, m7, m9, m10, m12, m13, m14, m15, m16, m18, HW⟩ hL hdep K' hK hK0
              have p9 : L 9 = true := hdep { on := 9, ground := Ground.data } (by simp) rfl
              have n16 : L 16 = false := not_yet hL (fun q => (m12 ((m13 ((m16 q).2.1)))).1)
              have h := (HW.out.1 n16).1
              have h2 := (HW.out.1 n16).2
              have q := d9 p9
              subst q
              have g65 := evT (F 9 65 _ rfl rfl)
              clear F G
              go_simp
              refine (HSU2.out _ h.bel).mono ?_
              rintro e w2 ⟨rfl, hb⟩
              have HW2 : Hid ((L 16 = false → RfS w C w2 bx pa rg (.slice ua lu0.length uc) (.slice ia lc0.length ic) (.slice none 0 0) (.slice none 0 0) (.slice ua lu0.length uc) (.slice ia lc0.length ic) (.slice none 0 0) lu0 lc0 [] ∧ w2.heap[tb]? = some (.cells #[.int .i64 xk, .int .u64 xn, .string xs, .slice xa xm xc] 33 (0, 0))) ∧ (L 15 = true → L 16 = false → ∃ g, v71 = .slice (some ⟨g, 0, none⟩) 1 1 ∧ w2.heap[g]? = some (.cells #[.int .i64 S0, .int .i64 S1, .int .i64 S2, .int .i64 S3] 58 (0, 0))) ∧ (L 16 = true → L 18 = false → RfS w C w2 bx pa rg (.slice ua lu0.length uc) (.slice ia lc0.length ic) (.slice none 0 0) (.slice none 0 0) (.slice ua lu0.length uc) v72 (.slice none 0 0) lu0 lc1 []) ∧ (L 18 = true → RfS w C w2 bx pa rg (.slice ua lu0.length uc) v72 (.slice none 0 0) (.slice none 0 0) (.slice ua lu0.length uc) v72 (.slice none 0 0) lu0 lc1 [])) := ⟨fun _ => ⟨h.below hb, (hb.block _ (blk_lt h2)).trans h2⟩, fun q r => by obtain ⟨g, e, hg⟩ := HW.out.2.1 q r; exact ⟨g, e, (hb.block _ (blk_lt hg)).trans hg⟩, fun q => absurd q (by rw [n16]; decide), fun q => absurd ((m18 q).1) (by rw [n16]; decide)⟩
              refine hK 10 66 _ w2 rfl ⟨_, _, _, _, _, _, _, _, _, _, _, _, _, _, _, _, _, _, rfl, d0, d1, d2, d3, d4, d5, d6, d7, d8, d9, (fun _ => rfl), d11, d12, d13, d14, d17, (fun q => laterT (m1 q)), (fun q => laterT (m3 q)), (fun q => laterT (m4 q)), (fun q => ⟨laterT (m6 q).1, laterT (m6 q).2⟩), (fun q => laterT (m7 q)), (fun q => ⟨laterT (m9 q).1, laterT (m9 q).2⟩), (fun _ => laterT p9), (fun q => ⟨laterT (m12 q).1, laterT (m12 q).2⟩), (fun q => laterT (m13 q)), (fun q => ⟨laterT (m14 q).1, laterT (m14 q).2.1, laterT (m14 q).2.2.1, laterT (m14 q).2.2.2⟩), (fun q => laterT (m15 q)), (fun q => ⟨laterT (m16 q).1, laterT (m16 q).2.1, laterT (m16 q).2.2⟩), (fun q => ⟨laterT (m18 q).1, laterT (m18 q).2⟩), HW2⟩
            · rintro A L vs w' F G ⟨v56, v57, v58, v59, v60, v61, v62, v63, v64, v65, v66, v67, v68, v69, v70, v71, v72, v73, rfl, d0, d1, d2, d3, d4, d5, d6, d7, d8, d9, d10, d11, d12, d13, d14, d17, m1, m3, m4, m6, m7, m9, m10, m12, m13, m14, m15, m16, m18, HW⟩ hL hdep K' hK hK0
              have n16 : L 16 = false := not_yet hL (fun q => (m12 ((m13 ((m16 q).2.1)))).2)
              have h := (HW.out.1 n16).2
              obtain ⟨b0, b1, b2, b3⟩ := block4 h
              have gt : A.tmps[9]?.getD undef = .pointer (some ⟨tb, 0, none⟩) := evT ((G 9 (by decide)).trans rfl)
              clear F G
              go_simp
              refine hK 11 67 _ w' rfl ⟨_, _, _, _, _, _, _, _, _, _, _, _, _, _, _, _, _, _, rfl, d0, d1, d2, d3, d4, d5, d6, d7, d8, d9, d10, (fun _ => rfl), d12, d13, d14, d17, (fun q => laterT (m1 q)), (fun q => laterT (m3 q)), (fun q => laterT (m4 q)), (fun q => ⟨laterT (m6 q).1, laterT (m6 q).2⟩), (fun q => laterT (m7 q)), (fun q => ⟨laterT (m9 q).1, laterT (m9 q).2⟩), (fun q => laterT (m10 q)), (fun q => ⟨laterT (m12 q).1, laterT (m12 q).2⟩), (fun q => laterT (m13 q)), (fun q => ⟨laterT (m14 q).1, laterT (m14 q).2.1, laterT (m14 q).2.2.1, laterT (m14 q).2.2.2⟩), (fun q => laterT (m15 q)), (fun q => ⟨laterT (m16 q).1, laterT (m16 q).2.1, laterT (m16 q).2.2⟩), (fun q => ⟨laterT (m18 q).1, laterT (m18 q).2⟩), HW⟩
            · rintro A L vs w' F G ⟨v56, v57, v58, v59, v60, v61, v62, v63, v64, v65, v66, v67, v68, v69, v70, v71, v72, v73, rfl, d0, d1, d2, d3, d4, d5, d6, d7, d8, d9, d10, d11, d12, d13, d14, d17, m1, m3, m4, m6, m7, m9, m10, m12, m13, m14, m15, m16, m18, HW⟩ hL hdep K' hK hK0
              have p11 : L 11 = true := hdep { on := 11, ground := Ground.data } (by simp) rfl
              have p10 : L 10 = true := hdep { on := 10, ground := Ground.chain } (by simp) rfl
              have n16 : L 16 = false := not_yet hL (fun q => (m13 ((m16 q).2.1)))
              have h := (HW.out.1 n16).1
              have h2 := (HW.out.1 n16).2
              have q := d11 p11
              subst q
              have g67 := evT (F 11 67 _ rfl rfl)
              clear F G
              go_simp
              refine (HX3.out _ h.bel).mono ?_
              rintro e w2 ⟨rfl, hb⟩
              have HW2 : Hid ((L 16 = false → RfS w C w2 bx pa rg (.slice ua lu0.length uc) (.slice ia lc0.length ic) (.slice none 0 0) (.slice none 0 0) (.slice ua lu0.length uc) (.slice ia lc0.length ic) (.slice none 0 0) lu0 lc0 [] ∧ w2.heap[tb]? = some (.cells #[.int .i64 xk, .int .u64 xn, .string xs, .slice xa xm xc] 33 (0, 0))) ∧ (L 15 = true → L 16 = false → ∃ g, v71 = .slice (some ⟨g, 0, none⟩) 1 1 ∧ w2.heap[g]? = some (.cells #[.int .i64 S0, .int .i64 S1, .int .i64 S2, .int .i64 S3] 58 (0, 0))) ∧ (L 16 = true → L 18 = false → RfS w C w2 bx pa rg (.slice ua lu0.length uc) (.slice ia lc0.length ic) (.slice none 0 0) (.slice none 0 0) (.slice ua lu0.length uc) v72 (.slice none 0 0) lu0 lc1 []) ∧ (L 18 = true → RfS w C w2 bx pa rg (.slice ua lu0.length uc) v72 (.slice none 0 0) (.slice none 0 0) (.slice ua lu0.length uc) v72 (.slice none 0 0) lu0 lc1 [])) := ⟨fun _ => ⟨h.below hb, (hb.block _ (blk_lt h2)).trans h2⟩, fun q r => by obtain ⟨g, e, hg⟩ := HW.out.2.1 q r; exact ⟨g, e, (hb.block _ (blk_lt hg)).trans hg⟩, fun q => absurd q (by rw [n16]; decide), fun q => absurd ((m18 q).1) (by rw [n16]; decide)⟩
              refine hK 12 68 _ w2 rfl ⟨_, _, _, _, _, _, _, _, _, _, _, _, _, _, _, _, _, _, rfl, d0, d1, d2, d3, d4, d5, d6, d7, d8, d9, d10, d11, (fun _ => rfl), d13, d14, d17, (fun q => laterT (m1 q)), (fun q => laterT (m3 q)), (fun q => laterT (m4 q)), (fun q => ⟨laterT (m6 q).1, laterT (m6 q).2⟩), (fun q => laterT (m7 q)), (fun q => ⟨laterT (m9 q).1, laterT (m9 q).2⟩), (fun q => laterT (m10 q)), (fun _ => ⟨laterT p10, laterT p11⟩), (fun q => laterT (m13 q)), (fun q => ⟨laterT (m14 q).1, laterT (m14 q).2.1, laterT (m14 q).2.2.1, laterT (m14 q).2.2.2⟩), (fun q => laterT (m15 q)), (fun q => ⟨laterT (m16 q).1, laterT (m16 q).2.1, laterT (m16 q).2.2⟩), (fun q => ⟨laterT (m18 q).1, laterT (m18 q).2⟩), HW2⟩
            · rintro A L vs w' F G ⟨v56, v57, v58, v59, v60, v61, v62, v63, v64, v65, v66, v67, v68, v69, v70, v71, v72, v73, rfl, d0, d1, d2, d3, d4, d5, d6, d7, d8, d9, d10, d11, d12, d13, d14, d17, m1, m3, m4, m6, m7, m9, m10, m12, m13, m14, m15, m16, m18, HW⟩ hL hdep K' hK hK0
              have p12 : L 12 = true := hdep { on := 12, ground := Ground.data } (by simp) rfl
              have n16 : L 16 = false := not_yet hL (fun q => (m16 q).2.1)
              have h := (HW.out.1 n16).1
              have h2 := (HW.out.1 n16).2
              have q := d12 p12
              subst q
              have g68 := evT (F 12 68 _ rfl rfl)
              clear F G
              go_simp
              refine (HSU3.out _ h.bel).mono ?_
              rintro e w2 ⟨rfl, hb⟩
              have HW2 : Hid ((L 16 = false → RfS w C w2 bx pa rg (.slice ua lu0.length uc) (.slice ia lc0.length ic) (.slice none 0 0) (.slice none 0 0) (.slice ua lu0.length uc) (.slice ia lc0.length ic) (.slice none 0 0) lu0 lc0 [] ∧ w2.heap[tb]? = some (.cells #[.int .i64 xk, .int .u64 xn, .string xs, .slice xa xm xc] 33 (0, 0))) ∧ (L 15 = true → L 16 = false → ∃ g, v71 = .slice (some ⟨g, 0, none⟩) 1 1 ∧ w2.heap[g]? = some (.cells #[.int .i64 S0, .int .i64 S1, .int .i64 S2, .int .i64 S3] 58 (0, 0))) ∧ (L 16 = true → L 18 = false → RfS w C w2 bx pa rg (.slice ua lu0.length uc) (.slice ia lc0.length ic) (.slice none 0 0) (.slice none 0 0) (.slice ua lu0.length uc) v72 (.slice none 0 0) lu0 lc1 []) ∧ (L 18 = true → RfS w C w2 bx pa rg (.slice ua lu0.length uc) v72 (.slice none 0 0) (.slice none 0 0) (.slice ua lu0.length uc) v72 (.slice none 0 0) lu0 lc1 [])) := ⟨fun _ => ⟨h.below hb, (hb.block _ (blk_lt h2)).trans h2⟩, fun q r => by obtain ⟨g, e, hg⟩ := HW.out.2.1 q r; exact ⟨g, e, (hb.block _ (blk_lt hg)).trans hg⟩, fun q => absurd q (by rw [n16]; decide), fun q => absurd ((m18 q).1) (by rw [n16]; decide)⟩
              refine hK 13 69 _ w2 rfl ⟨_, _, _, _, _, _, _, _, _, _, _, _, _, _, _, _, _, _, rfl, d0, d1, d2, d3, d4, d5, d6, d7, d8, d9, d10, d11, d12, (fun _ => rfl), d14, d17, (fun q => laterT (m1 q)), (fun q => laterT (m3 q)), (fun q => laterT (m4 q)), (fun q => ⟨laterT (m6 q).1, laterT (m6 q).2⟩), (fun q => laterT (m7 q)), (fun q => ⟨laterT (m9 q).1, laterT (m9 q).2⟩), (fun q => laterT (m10 q)), (fun q => ⟨laterT (m12 q).1, laterT (m12 q).2⟩), (fun _ => laterT p12), (fun q => ⟨laterT (m14 q).1, laterT (m14 q).2.1, laterT (m14 q).2.2.1, laterT (m14 q).2.2.2⟩), (fun q => laterT (m15 q)), (fun q => ⟨laterT (m16 q).1, laterT (m16 q).2.1, laterT (m16 q).2.2⟩), (fun q => ⟨laterT (m18 q).1, laterT (m18 q).2⟩), HW2⟩
            · rintro A L vs w' F G ⟨v56, v57, v58, v59, v60, v61, v62, v63, v64, v65, v66, v67, v68, v69, v70, v71, v72, v73, rfl, d0, d1, d2, d3, d4, d5, d6, d7, d8, d9, d10, d11, d12, d13, d14, d17, m1, m3, m4, m6, m7, m9, m10, m12, m13, m14, m15, m16, m18, HW⟩ hL hdep K' hK hK0
              have p4 : L 4 = true := hdep { on := 4, ground := Ground.data } (by simp) rfl
              have p7 : L 7 = true := hdep { on := 7, ground := Ground.data } (by simp) rfl
              have p10 : L 10 = true := hdep { on := 10, ground := Ground.data } (by simp) rfl
              have p13 : L 13 = true := hdep { on := 13, ground := Ground.data } (by simp) rfl
              have q := d4 p4
              subst q
              have g60 := evT (F 4 60 _ rfl rfl)
              have q := d7 p7
              subst q
              have g63 := evT (F 7 63 _ rfl rfl)
              have q := d10 p10
              subst q
              have g66 := evT (F 10 66 _ rfl rfl)
              have q := d13 p13
              subst q
              have g69 := evT (F 13 69 _ rfl rfl)
              clear F G
              go_simp
              refine hK 14 70 _ w' rfl ⟨_, _, _, _, _, _, _, _, _, _, _, _, _, _, _, _, _, _, rfl, d0, d1, d2, d3, d4, d5, d6, d7, d8, d9, d10, d11, d12, d13, (fun _ => rfl), d17, (fun q => laterT (m1 q)), (fun q => laterT (m3 q)), (fun q => laterT (m4 q)), (fun q => ⟨laterT (m6 q).1, laterT (m6 q).2⟩), (fun q => laterT (m7 q)), (fun q => ⟨laterT (m9 q).1, laterT (m9 q).2⟩), (fun q => laterT (m10 q)), (fun q => ⟨laterT (m12 q).1, laterT (m12 q).2⟩), (fun q => laterT (m13 q)), (fun _ => ⟨laterT p4, laterT p7, laterT p10, laterT p13⟩), (fun q => laterT (m15 q)), (fun q => ⟨laterT (m16 q).1, laterT (m16 q).2.1, laterT (m16 q).2.2⟩), (fun q => ⟨laterT (m18 q).1, laterT (m18 q).2⟩), HW⟩
            · rintro A L vs w' F G ⟨v56, v57, v58, v59, v60, v61, v62, v63, v64, v65, v66, v67, v68, v69, v70, v71, v72, v73, rfl, d0, d1, d2, d3, d4, d5, d6, d7, d8, d9, d10, d11, d12, d13, d14, d17, m1, m3, m4, m6, m7, m9, m10, m12, m13, m14, m15, m16, m18, HW⟩ hL hdep K' hK hK0
              have p14 : L 14 = true := hdep { on := 14, ground := Ground.data } (by simp) rfl
              have n16 : L 16 = false := not_yet hL (fun q => (m16 q).2.2)
              have h := (HW.out.1 n16).1
              have h2 := (HW.out.1 n16).2
              have q := d14 p14
              subst q
              have g70 := evT (F 14 70 _ rfl rfl)
              have hb : Below w'.heap.size w' (w'.alloc (.cells #[.int .i64 S0, .int .i64 S1, .int .i64 S2, .int .i64 S3] 58)) := (Below.refl _ _).alloc (Nat.le_refl _) _
              have HW2 : Hid ((L 16 = false → RfS w C (w'.alloc (.cells #[.int .i64 S0, .int .i64 S1, .int .i64 S2, .int .i64 S3] 58)) bx pa rg (.slice ua lu0.length uc) (.slice ia lc0.length ic) (.slice none 0 0) (.slice none 0 0) (.slice ua lu0.length uc) (.slice ia lc0.length ic) (.slice none 0 0) lu0 lc0 [] ∧ (w'.alloc (.cells #[.int .i64 S0, .int .i64 S1, .int .i64 S2, .int .i64 S3] 58)).heap[tb]? = some (.cells #[.int .i64 xk, .int .u64 xn, .string xs, .slice xa xm xc] 33 (0, 0))) ∧ (true = true → L 16 = false → ∃ g, (Value.slice (some ⟨w'.heap.size, 0, none⟩) 1 1) = .slice (some ⟨g, 0, none⟩) 1 1 ∧ (w'.alloc (.cells #[.int .i64 S0, .int .i64 S1, .int .i64 S2, .int .i64 S3] 58)).heap[g]? = some (.cells #[.int .i64 S0, .int .i64 S1, .int .i64 S2, .int .i64 S3] 58 (0, 0))) ∧ (L 16 = true → L 18 = false → RfS w C (w'.alloc (.cells #[.int .i64 S0, .int .i64 S1, .int .i64 S2, .int .i64 S3] 58)) bx pa rg (.slice ua lu0.length uc) (.slice ia lc0.length ic) (.slice none 0 0) (.slice none 0 0) (.slice ua lu0.length uc) v72 (.slice none 0 0) lu0 lc1 []) ∧ (L 18 = true → RfS w C (w'.alloc (.cells #[.int .i64 S0, .int .i64 S1, .int .i64 S2, .int .i64 S3] 58)) bx pa rg (.slice ua lu0.length uc) v72 (.slice none 0 0) (.slice none 0 0) (.slice ua lu0.length uc) v72 (.slice none 0 0) lu0 lc1 [])) := ⟨fun _ => ⟨h.below hb, (hb.block _ (blk_lt h2)).trans h2⟩, fun _ _ => ⟨w'.heap.size, rfl, heap_alloc_new _ _⟩, fun q => absurd q (by rw [n16]; decide), fun q => absurd ((m18 q).1) (by rw [n16]; decide)⟩
              clear F G
              go_simp
              refine hK 15 71 _ _ rfl ⟨_, _, _, _, _, _, _, _, _, _, _, _, _, _, _, _, _, _, rfl, d0, d1, d2, d3, d4, d5, d6, d7, d8, d9, d10, d11, d12, d13, d14, d17, (fun q => laterT (m1 q)), (fun q => laterT (m3 q)), (fun q => laterT (m4 q)), (fun q => ⟨laterT (m6 q).1, laterT (m6 q).2⟩), (fun q => laterT (m7 q)), (fun q => ⟨laterT (m9 q).1, laterT (m9 q).2⟩), (fun q => laterT (m10 q)), (fun q => ⟨laterT (m12 q).1, laterT (m12 q).2⟩), (fun q => laterT (m13 q)), (fun q => ⟨laterT (m14 q).1, laterT (m14 q).2.1, laterT (m14 q).2.2.1, laterT (m14 q).2.2.2⟩), (fun _ => laterT p14), (fun q => ⟨laterT (m16 q).1, laterT (m16 q).2.1, laterT (m16 q).2.2⟩), (fun q => ⟨laterT (m18 q).1, laterT (m18 q).2⟩), HW2⟩
            · rintro A L vs w' F G ⟨v56, v57, v58, v59, v60, v61, v62, v63, v64, v65, v66, v67, v68, v69, v70, v71, v72, v73, rfl, d0, d1, d2, d3, d4, d5, d6, d7, d8, d9, d10, d11, d12, d13, d14, d17, m1, m3, m4, m6, m7, m9, m10, m12, m13, m14, m15, m16, m18, HW⟩ hL hdep K' hK hK0
              have p1 : L 1 = true := hdep { on := 1, ground := Ground.data } (by simp) rfl
              have p15 : L 15 = true := hdep { on := 15, ground := Ground.data } (by simp) rfl
              have p13 : L 13 = true := hdep { on := 13, ground := Ground.chain } (by simp) rfl
              have n18 : L 18 = false := not_yet hL (fun q => (m18 q).1)
              have h := (HW.out.1 hL).1
              have h2 := (HW.out.1 hL).2
              obtain ⟨g9, e42, hg⟩ := HW.out.2.1 p15 hL
              subst e42
              have q := d1 p1
              subst q
              have hB := h.sz
              refine step_append_src w' rfl (.tmp 57) (.tmp 71) 23 rfl (w.heap.size + 2) 58 ii0 _ 4 32 Tryd.underlying23 ii1 ii2 ii3 ii4 rfl (by decide) (.slice ia lc0.length ic) lc0.length _ (F 1 57 _ rfl rfl) h.rc (.slice (some ⟨g9, 0, none⟩) 1 1) 1 _ (F 15 71 _ rfl rfl) (src_one hg rfl (by intro u hu; simp at hu; rcases hu with rfl | rfl | rfl | rfl <;> rfl)) (by unfold maxLen; omega) (by omega) (by omega) ?_
              intro a' c' w2 q1 q2 q3
              have h4 := h.appI (x := X) (by rw [HXE.out]; exact q1) q2
              rw [← HL1.out] at h4
              have HW2 : Hid ((true = false → RfS w C w2 bx pa rg (.slice ua lu0.length uc) (.slice ia lc0.length ic) (.slice none 0 0) (.slice none 0 0) (.slice ua lu0.length uc) (.slice ia lc0.length ic) (.slice none 0 0) lu0 lc0 [] ∧ w2.heap[tb]? = some (.cells #[.int .i64 xk, .int .u64 xn, .string xs, .slice xa xm xc] 33 (0, 0))) ∧ (L 15 = true → true = false → ∃ g, (Value.slice (some ⟨g9, 0, none⟩) 1 1) = .slice (some ⟨g, 0, none⟩) 1 1 ∧ w2.heap[g]? = some (.cells #[.int .i64 S0, .int .i64 S1, .int .i64 S2, .int .i64 S3] 58 (0, 0))) ∧ (true = true → L 18 = false → RfS w C w2 bx pa rg (.slice ua lu0.length uc) (.slice ia lc0.length ic) (.slice none 0 0) (.slice none 0 0) (.slice ua lu0.length uc) (.slice a' (lc0.length + 1) c') (.slice none 0 0) lu0 lc1 []) ∧ (L 18 = true → RfS w C w2 bx pa rg (.slice ua lu0.length uc) (.slice a' (lc0.length + 1) c') (.slice none 0 0) (.slice none 0 0) (.slice ua lu0.length uc) (.slice a' (lc0.length + 1) c') (.slice none 0 0) lu0 lc1 [])) := ⟨fun q => (by cases q), fun _ q => (by cases q), fun _ _ => h4, fun q => absurd q (by rw [n18]; decide)⟩
              refine hK 16 72 _ w2 rfl ⟨_, _, _, _, _, _, _, _, _, _, _, _, _, _, _, _, _, _, rfl, d0, d1, d2, d3, d4, d5, d6, d7, d8, d9, d10, d11, d12, d13, d14, d17, (fun q => laterT (m1 q)), (fun q => laterT (m3 q)), (fun q => laterT (m4 q)), (fun q => ⟨laterT (m6 q).1, laterT (m6 q).2⟩), (fun q => laterT (m7 q)), (fun q => ⟨laterT (m9 q).1, laterT (m9 q).2⟩), (fun q => laterT (m10 q)), (fun q => ⟨laterT (m12 q).1, laterT (m12 q).2⟩), (fun q => laterT (m13 q)), (fun q => ⟨laterT (m14 q).1, laterT (m14 q).2.1, laterT (m14 q).2.2.1, laterT (m14 q).2.2.2⟩), (fun q => laterT (m15 q)), (fun _ => ⟨laterT p1, laterT p13, laterT p15⟩), (fun q => ⟨laterT (m18 q).1, laterT (m18 q).2⟩), HW2⟩
            · rintro A L vs w' F G ⟨v56, v57, v58, v59, v60, v61, v62, v63, v64, v65, v66, v67, v68, v69, v70, v71, v72, v73, rfl, d0, d1, d2, d3, d4, d5, d6, d7, d8, d9, d10, d11, d12, d13, d14, d17, m1, m3, m4, m6, m7, m9, m10, m12, m13, m14, m15, m16, m18, HW⟩ hL hdep K' hK hK0
              have g5 : A.tmps[5]?.getD undef = .pointer (some ⟨bx, 0, none⟩) := evT ((G 5 (by decide)).trans rfl)
              clear F G
              go_simp
              refine hK 17 73 _ w' rfl ⟨_, _, _, _, _, _, _, _, _, _, _, _, _, _, _, _, _, _, rfl, d0, d1, d2, d3, d4, d5, d6, d7, d8, d9, d10, d11, d12, d13, d14, (fun _ => rfl), (fun q => laterT (m1 q)), (fun q => laterT (m3 q)), (fun q => laterT (m4 q)), (fun q => ⟨laterT (m6 q).1, laterT (m6 q).2⟩), (fun q => laterT (m7 q)), (fun q => ⟨laterT (m9 q).1, laterT (m9 q).2⟩), (fun q => laterT (m10 q)), (fun q => ⟨laterT (m12 q).1, laterT (m12 q).2⟩), (fun q => laterT (m13 q)), (fun q => ⟨laterT (m14 q).1, laterT (m14 q).2.1, laterT (m14 q).2.2.1, laterT (m14 q).2.2.2⟩), (fun q => laterT (m15 q)), (fun q => ⟨laterT (m16 q).1, laterT (m16 q).2.1, laterT (m16 q).2.2⟩), (fun q => ⟨laterT (m18 q).1, laterT (m18 q).2⟩), HW⟩
            · rintro A L vs w' F G ⟨v56, v57, v58, v59, v60, v61, v62, v63, v64, v65, v66, v67, v68, v69, v70, v71, v72, v73, rfl, d0, d1, d2, d3, d4, d5, d6, d7, d8, d9, d10, d11, d12, d13, d14, d17, m1, m3, m4, m6, m7, m9, m10, m12, m13, m14, m15, m16, m18, HW⟩ hL hdep K' hK hK0
              have p17 : L 17 = true := hdep { on := 17, ground := Ground.data } (by simp) rfl
              have p16 : L 16 = true := hdep { on := 16, ground := Ground.data } (by simp) rfl
              have h := HW.out.2.2.1 p16 hL
              obtain ⟨ax, cx, ex⟩ := owns_form h.rc
              subst ex
              have cc : ∃ u, w'.cell? ⟨bx, 3, none⟩ = some u := ⟨_, by rw [Lib.cell_of_heap h.blk]; rfl⟩
              obtain ⟨uu, cc⟩ := cc
              have fz := Lib.frozen_of_heap h.blk 3
              have HW2 : Hid ((L 16 = false → RfS w C (w'.setCell ⟨bx, 3, none⟩ (Value.slice ax lc1.length cx)) bx pa rg (.slice ua lu0.length uc) (.slice ia lc0.length ic) (.slice none 0 0) (.slice none 0 0) (.slice ua lu0.length uc) (.slice ia lc0.length ic) (.slice none 0 0) lu0 lc0 [] ∧ (w'.setCell ⟨bx, 3, none⟩ (Value.slice ax lc1.length cx)).heap[tb]? = some (.cells #[.int .i64 xk, .int .u64 xn, .string xs, .slice xa xm xc] 33 (0, 0))) ∧ (L 15 = true → L 16 = false → ∃ g, v71 = .slice (some ⟨g, 0, none⟩) 1 1 ∧ (w'.setCell ⟨bx, 3, none⟩ (Value.slice ax lc1.length cx)).heap[g]? = some (.cells #[.int .i64 S0, .int .i64 S1, .int .i64 S2, .int .i64 S3] 58 (0, 0))) ∧ (L 16 = true → true = false → RfS w C (w'.setCell ⟨bx, 3, none⟩ (Value.slice ax lc1.length cx)) bx pa rg (.slice ua lu0.length uc) (.slice ia lc0.length ic) (.slice none 0 0) (.slice none 0 0) (.slice ua lu0.length uc) (Value.slice ax lc1.length cx) (.slice none 0 0) lu0 lc1 []) ∧ (true = true → RfS w C (w'.setCell ⟨bx, 3, none⟩ (Value.slice ax lc1.length cx)) bx pa rg (.slice ua lu0.length uc) (Value.slice ax lc1.length cx) (.slice none 0 0) (.slice none 0 0) (.slice ua lu0.length uc) (Value.slice ax lc1.length cx) (.slice none 0 0) lu0 lc1 [])) := ⟨fun q => absurd q (by rw [p16]; decide), fun _ q => absurd q (by rw [p16]; decide), fun _ q => (by cases q), fun _ => h.stI _⟩
              have q := d17 p17
              subst q
              have g73 := evT (F 17 73 _ rfl rfl)
              have gv := evT (F 16 72 _ rfl rfl)
              clear F G
              go_simp
              refine hK0 _ ⟨_, _, _, _, _, _, _, _, _, _, _, _, _, _, _, _, _, _, rfl, d0, d1, d2, d3, d4, d5, d6, d7, d8, d9, d10, d11, d12, d13, d14, d17, (fun q => laterT (m1 q)), (fun q => laterT (m3 q)), (fun q => laterT (m4 q)), (fun q => ⟨laterT (m6 q).1, laterT (m6 q).2⟩), (fun q => laterT (m7 q)), (fun q => ⟨laterT (m9 q).1, laterT (m9 q).2⟩), (fun q => laterT (m10 q)), (fun q => ⟨laterT (m12 q).1, laterT (m12 q).2⟩), (fun q => laterT (m13 q)), (fun q => ⟨laterT (m14 q).1, laterT (m14 q).2.1, laterT (m14 q).2.2.1, laterT (m14 q).2.2.2⟩), (fun q => laterT (m15 q)), (fun q => ⟨laterT (m16 q).1, laterT (m16 q).2.1, laterT (m16 q).2.2⟩), (fun _ => ⟨laterT p16, laterT p17⟩), HW2⟩
            · rintro L vs w' hall ⟨v56, v57, v58, v59, v60, v61, v62, v63, v64, v65, v66, v67, v68, v69, v70, v71, v72, v73, rfl, d0, d1, d2, d3, d4, d5, d6, d7, d8, d9, d10, d11, d12, d13, d14, d17, m1, m3, m4, m6, m7, m9, m10, m12, m13, m14, m15, m16, m18, HW⟩
              have h := HW.out.2.2.2 (hall 18 (by decide))
              obtain ⟨ax, cx, ex⟩ := owns_form h.rc
              subst ex
              have HRF := hide_p h
              clear d0 d1 d2 d3 d4 d5 d6 d7 d8 d9 d10 d11 d12 d13 d14 d17 m1 m3 m4 m6 m7 m9 m10 m12 m13 m14 m15 m16 m18 HW h
              simp only [puts]
              go_simp
              go_wp2
              go_roundw
              case rel => exact ⟨i + 1, ax, cx, lc1, by omega, by go_num, HLN, HRF⟩
              case measure => simp [intOf]; omega

          · have e : i = N3 := by omega
            have HFL3 : Hid (lc0 = (manyL a3).map rIns) := by
              show _ = _
              rw [HLL.out, List.take_of_length_le (by have := HN3.out; omega)]
            clear HLL HF HF0 x0 x1 x2 x3
            obtain ⟨HF0, -⟩ : Hid (RfS w C w5 bx pa rg (.slice ua lu0.length uc) (.slice ia lc0.length ic) (.slice none 0 0) (.slice none 0 0) (.slice ua lu0.length uc) (.slice ia lc0.length ic) (.slice none 0 0) lu0 lc0 []) ∧ True := ⟨HF5, trivial⟩
            clear HF5
            go_wp2_with fail
            go_loopw [10] (fun t10 wr => ∃ (i : Nat) (ka : Option Addr) (kc : Nat) (lk : List _), i ≤ N4 ∧ t10 = .int .i64 i ∧ Hid (lk = ((manyL a4).take i).map rVl) ∧ Hid (RfS w C wr bx pa rg (.slice ua lu0.length uc) (.slice ia lc0.length ic) (.slice ka lk.length kc) (.slice none 0 0) (.slice ua lu0.length uc) (.slice ia lc0.length ic) (.slice ka lk.length kc) lu0 lc0 lk)) (fun t10 _ => N4 - (intOf t10).toNat)
            case atStart => exact ⟨0, none, 0, [], Nat.zero_le _, rfl, rfl, HF0⟩
            case round =>
              obtain ⟨i, ka, kc, lk0, hi, rfl, HLL, HF⟩ := hrel
              obtain ⟨x0, x1, x2, x3⟩ := HCB.out wr HF.out.cb
              go_wp2_with fail
              refine (HA4.out wr HF.out.bel).mono ?_
              rintro e w4 ⟨rfl, hb4⟩
              have HF4 := hide_p (HF.out.below hb4)
              clear hb4 x0 x1 x2 x3
              go_wp2_with fail
              refine (HM4.out w4 HF4.out.bel).mono ?_
              rintro e w5 ⟨rfl, hb5⟩
              have HF5 := hide_p (HF4.out.below hb5)
              obtain ⟨x0, x1, x2, x3⟩ := HCB.out w5 HF5.out.cb
              clear hb5 HF4

              by_cases c : i < N4
              · have i1 : i < (manyL a4).length := by rw [← HN4.out]; exact c
                obtain ⟨ux, HCX, HAX, xk, xn, xs, xa, xm, xc, rfl⟩ := at_in HC4.out i
                obtain ⟨U0, HCU0, HX0, -⟩ := at_in HCX.out 0
                obtain ⟨U1, HCU1, HX1, yk, yn, ys, ya, ym, yc, rfl⟩ := at_in HCX.out 1
                have HSU0 := sm_in HCU0.out
                obtain ⟨X, hX⟩ : ∃ X, X = rVl (atT a4 i) := ⟨_, rfl⟩
                obtain ⟨K0, hK0⟩ : ∃ K0, K0 = smT (atT (atT a4 i) 0) := ⟨_, rfl⟩
                obtain ⟨-, e1n, e1s, -⟩ := CR.top (show CR w (atT (atT a4 i) 1) (cellV yk yn ys (.slice ya ym yc)) from HCU1.out)
                have HXE : Hid ([Value.int .i64 X.k, .int .u64 X.n, .string X.s, .int .i64 X.o] = [.int .i64 K0, .int .u64 ((if K0 = 3 then yn else 0 : Nat) : Int), .string (if K0 = 4 then ys else ⟨#[]⟩), .int .i64 0]) := by
                  show _ = _
                  rw [hX, e1n, e1s, hK0]
                  unfold rVl
                  simp only
                  by_cases q3 : smT (atT (atT a4 i) 0) = 3
                  · simp [q3, nob]
                  · by_cases q4 : smT (atT (atT a4 i) 0) = 4 <;> simp [q3, q4, nob]
                rw [← hK0] at HSU0
                obtain ⟨lk1, hlk1⟩ : ∃ lk1, lk1 = lk0 ++ [X] := ⟨_, rfl⟩
                have HL1 := hide_p hlk1
                have HLN : Hid (lk1 = ((manyL a4).take (i + 1)).map rVl) := by
                  show _ = _
                  rw [take_rd i1, ← hX, hlk1, HLL.out]
                have hn : lk0.length ≤ 1000000 := by rw [HLL.out, List.length_map, List.length_take]; omega
                clear hlk1 hX HCX hK0 HCU0 HCU1 e1n e1s
                go_wp2_with fail
                refine (HA4.out w5 HF5.out.bel).mono ?_
                rintro e w6 ⟨rfl, hb6⟩
                have HF6 := hide_p (HF5.out.below hb6)
                clear hb6 x0 x1 x2 x3 HF5
                go_wp2_with fail
                refine (HAX.out w6 HF6.out.bel).mono ?_
                rintro e w7 ⟨rfl, hb7⟩
                have HF7 := hide_p (HF6.out.below hb7)
                clear hb7 HF6 HAX
                obtain ⟨w8, hw8⟩ : ∃ w8, w8 = w7.alloc (.cells #[.int .i64 xk, .int .u64 xn, .string xs, .slice xa xm xc] 33) := ⟨_, rfl⟩
                obtain ⟨tb, htb⟩ : ∃ tb, tb = w7.heap.size := ⟨_, rfl⟩
                have HF8 : Hid (RfS w C w8 bx pa rg (.slice ua lu0.length uc) (.slice ia lc0.length ic) (.slice ka lk0.length kc) (.slice none 0 0) (.slice ua lu0.length uc) (.slice ia lc0.length ic) (.slice ka lk0.length kc) lu0 lc0 lk0 ∧ w8.heap[tb]? = some (.cells #[.int .i64 xk, .int .u64 xn, .string xs, .slice xa xm xc] 33 (0, 0))) := by
                  show _ ∧ _
                  rw [hw8, htb]
                  exact ⟨HF7.out.below ((Below.refl _ _).alloc (Nat.le_refl _) _), heap_alloc_new _ _⟩
                go_upto_region 16 with fail
                rw [← hw8, ← htb]
                have HTB := hide_p (And.intro hw8 htb)
                clear hw8 htb
                obtain ⟨b0, b1, b2, b3⟩ := block4 HF8.out.2
                go_wp2_with fail
                refine (HX0.out w8 HF8.out.1.bel).mono ?_
                rintro e w9 ⟨rfl, hb9⟩
                have HF9 := hide_p (And.intro (HF8.out.1.below hb9) ((hb9.block _ (blk_lt HF8.out.2)).trans HF8.out.2))
                clear hb9 b0 b1 b2 b3
                go_wp2_with fail
                refine (HSU0.out w9 HF9.out.1.bel).mono ?_
                rintro e w10 ⟨rfl, hb10⟩
                have HF10 := hide_p (And.intro (HF9.out.1.below hb10) ((hb10.block _ (blk_lt HF9.out.2)).trans HF9.out.2))
                clear hb10
                obtain ⟨w11, hw11⟩ : ∃ w11, w11 = w10.alloc (.cells #[.int .i64 K0, .int .u64 0, .string ⟨#[]⟩, .int .i64 0] 63) := ⟨_, rfl⟩
                obtain ⟨vb, hvb⟩ : ∃ vb, vb = w10.heap.size := ⟨_, rfl⟩
                have HB11 : Hid (Below w10.heap.size w10 w11 ∧ w11.heap[vb]? = some (.cells #[.int .i64 K0, .int .u64 0, .string ⟨#[]⟩, .int .i64 0] 63 (0, 0)) ∧ w10.heap.size ≤ vb) := by
                  show _ ∧ _
                  rw [hw11, hvb]
                  exact ⟨(Below.refl _ _).alloc (Nat.le_refl _) _, heap_alloc_new _ _, Nat.le_refl _⟩
                go_upto_region 17 with fail
                rw [← hw11, ← hvb]
                have HTB2 := hide_p (And.intro hw11 hvb)
                clear hw11 hvb
                obtain ⟨v0, v1, v2, v3⟩ := block4 HB11.out.2.1
                obtain ⟨b0, b1, b2, b3⟩ := block4 ((HB11.out.1.block _ (blk_lt HF10.out.2)).trans HF10.out.2)
                by_cases k3 : K0 = 3
                · have k3i : (K0 : Int) = 3 := by omega
                  have HXE3 : Hid ([Value.int .i64 X.k, .int .u64 X.n, .string X.s, .int .i64 X.o] = [.int .i64 3, .int .u64 yn, .string ⟨#[]⟩, .int .i64 0]) := by
                    show _ = _
                    rw [HXE.out, k3i, if_pos k3, if_neg (by omega)]
                  have HBV := HB11.out.2.1
                  rw [k3i] at v0 HBV
                  have HBV := hide_p HBV
                  have hfd : ∀ w, Sem.run Tryd.prog (Instr.field 33 (.agg #[.int .i64 yk, .int .u64 yn, .string ys, .slice ya ym yc]) 1) w = .ok (.int .u64 yn) w := fun w => by kernel_rfl
                  go_wp2_with fail
                  refine (HX1.out w11 (HF10.out.1.below HB11.out.1).bel).mono ?_
                  rintro e w12 ⟨rfl, hb12⟩
                  have HB12 := hide_p hb12
                  have hv12 := (hb12.block _ (blk_lt HBV.out)).trans HBV.out
                  have HV12 := hide_p hv12
                  obtain ⟨v0', v1', v2', v3'⟩ := block4 hv12
                  have fz := Lib.frozen_of_heap hv12 1
                  clear hb12 hv12 v0 v1 v2 v3 b0 b1 b2 b3
                  obtain ⟨w13, hw13⟩ : ∃ w13, w13 = w12.setCell ⟨vb, 1, none⟩ (.int .u64 yn) := ⟨_, rfl⟩
                  have hv13 : w13.heap[vb]? = some (.cells #[.int .i64 3, .int .u64 yn, .string ⟨#[]⟩, .int .i64 0] 63 (0, 0)) := by rw [hw13]; exact heap_setCell_same _ _ 1 _ _ _ HV12.out
                  have hb13 : Below w10.heap.size w10 w13 := by rw [hw13]; exact (HB11.out.1.trans (HB12.out.mono HB11.out.1.size)).setCell (p := ⟨vb, 1, none⟩) HB11.out.2.2 _
                  go_upto_region 19 with fail
                  rw [← hw13]
                  clear hw13 v0' v1' v2' v3' fz
                  have HFv := hide_p (HF10.out.1.below hb13)
                  have c4 : w13.cell? ⟨bx, 4, none⟩ = some (.slice ka lk0.length kc) := by rw [Lib.cell_of_heap HFv.out.blk]; rfl
                  obtain ⟨v0, v1, v2, v3⟩ := block4 hv13
                  have HFa := hide_p (HFv.out.below ((Below.refl _ w13).alloc (Nat.le_refl _) (.cells #[.int .i64 3, .int .u64 yn, .string ⟨#[]⟩, .int .i64 0] 63)))
                  have hown := HFa.out.rk
                  have hszv := HFv.out.sz
                  go_wp2_with (at_builtin; refine wpList_append_src _ rfl _ _ 24 rfl (w.heap.size + 2) 63 iv0 _ 4 40 Tryd.underlying24 iv1 iv2 iv3 iv4 rfl (by decide) _ lk0.length _ rfl hown _ 1 _ rfl (src_one (heap_alloc_new w13 _) rfl (by intro u hu; simp at hu; rcases hu with rfl | rfl | rfl | rfl <;> rfl)) (by unfold maxLen; omega) (by omega) (by simp; omega) ?_)
                  intro a' c' w14 q1 q2 q3
                  have h4 := HFa.out.appV (x := X) (by rw [HXE3.out]; exact q1) q2
                  rw [← HL1.out] at h4
                  have e4 := h4.blk
                  obtain ⟨z0, z1, z2, z3, z4, z5⟩ := block6 e4
                  have fz := Lib.frozen_of_heap e4 4
                  have HST : Hid (∀ W, W = w14.setCell ⟨bx, 4, none⟩ (.slice a' (lk0.length + 1) c') → RfS w C W bx pa rg (.slice ua lu0.length uc) (.slice ia lc0.length ic) (.slice a' lk1.length c') (.slice none 0 0) (.slice ua lu0.length uc) (.slice ia lc0.length ic) (.slice a' lk1.length c') lu0 lc0 lk1) := by
                    intro W hW
                    have h5 := h4.stV (.slice a' (lk0.length + 1) c')
                    have hlen : lk1.length = lk0.length + 1 := by rw [HL1.out]; simp
                    rw [hW, hlen]
                    exact h5
                  clear hown q1 q2 q3 h4 e4 c4 v0 v1 v2 v3 HFa
                  go_wp2
                  have y1 := HST.out _ rfl
                  go_roundw
                  case rel => exact ⟨i + 1, a', c', lk1, by omega, by go_num, HLN, y1⟩
                  case measure => simp [intOf]; omega

                · have k3i : ¬ (K0 : Int) = 3 := by omega
                  have k3b : ((K0 : Int) == 3) = false := by simpa using k3i
                  by_cases k4 : K0 = 4
                  · have k4i : (K0 : Int) = 4 := by omega
                    have HXE4 : Hid ([Value.int .i64 X.k, .int .u64 X.n, .string X.s, .int .i64 X.o] = [.int .i64 4, .int .u64 0, .string ys, .int .i64 0]) := by
                      show _ = _
                      rw [HXE.out, k4i, if_neg k3, if_pos k4]
                      rfl
                    have HBV := HB11.out.2.1
                    rw [k4i] at v0 HBV
                    have HBV := hide_p HBV
                    have hfd : ∀ w, Sem.run Tryd.prog (Instr.field 33 (.agg #[.int .i64 yk, .int .u64 yn, .string ys, .slice ya ym yc]) 2) w = .ok (.string ys) w := fun w => by kernel_rfl
                    clear k3i k3b
                    go_wp2_with fail
                    refine (HX1.out w11 (HF10.out.1.below HB11.out.1).bel).mono ?_
                    rintro e w12 ⟨rfl, hb12⟩
                    have HB12 := hide_p hb12
                    have hv12 := (hb12.block _ (blk_lt HBV.out)).trans HBV.out
                    have HV12 := hide_p hv12
                    obtain ⟨v0', v1', v2', v3'⟩ := block4 hv12
                    have fz := Lib.frozen_of_heap hv12 2
                    clear hb12 hv12 v0 v1 v2 v3 b0 b1 b2 b3
                    obtain ⟨w13, hw13⟩ : ∃ w13, w13 = w12.setCell ⟨vb, 2, none⟩ (.string ys) := ⟨_, rfl⟩
                    have hv13 : w13.heap[vb]? = some (.cells #[.int .i64 4, .int .u64 0, .string ys, .int .i64 0] 63 (0, 0)) := by rw [hw13]; exact heap_setCell_same _ _ 2 _ _ _ HV12.out
                    have hb13 : Below w10.heap.size w10 w13 := by rw [hw13]; exact (HB11.out.1.trans (HB12.out.mono HB11.out.1.size)).setCell (p := ⟨vb, 2, none⟩) HB11.out.2.2 _
                    go_upto_region 21 with fail
                    rw [← hw13]
                    clear hw13 v0' v1' v2' v3' fz
                    have HFv := hide_p (HF10.out.1.below hb13)
                    have c4 : w13.cell? ⟨bx, 4, none⟩ = some (.slice ka lk0.length kc) := by rw [Lib.cell_of_heap HFv.out.blk]; rfl
                    obtain ⟨v0, v1, v2, v3⟩ := block4 hv13
                    have HFa := hide_p (HFv.out.below ((Below.refl _ w13).alloc (Nat.le_refl _) (.cells #[.int .i64 4, .int .u64 0, .string ys, .int .i64 0] 63)))
                    have hown := HFa.out.rk
                    have hszv := HFv.out.sz
                    go_wp2_with (at_builtin; refine wpList_append_src _ rfl _ _ 24 rfl (w.heap.size + 2) 63 iv0 _ 4 40 Tryd.underlying24 iv1 iv2 iv3 iv4 rfl (by decide) _ lk0.length _ rfl hown _ 1 _ rfl (src_one (heap_alloc_new w13 _) rfl (by intro u hu; simp at hu; rcases hu with rfl | rfl | rfl | rfl <;> rfl)) (by unfold maxLen; omega) (by omega) (by simp; omega) ?_)
                    intro a' c' w14 q1 q2 q3
                    have h4 := HFa.out.appV (x := X) (by rw [HXE4.out]; exact q1) q2
                    rw [← HL1.out] at h4
                    have e4 := h4.blk
                    obtain ⟨z0, z1, z2, z3, z4, z5⟩ := block6 e4
                    have fz := Lib.frozen_of_heap e4 4
                    have HST : Hid (∀ W, W = w14.setCell ⟨bx, 4, none⟩ (.slice a' (lk0.length + 1) c') → RfS w C W bx pa rg (.slice ua lu0.length uc) (.slice ia lc0.length ic) (.slice a' lk1.length c') (.slice none 0 0) (.slice ua lu0.length uc) (.slice ia lc0.length ic) (.slice a' lk1.length c') lu0 lc0 lk1) := by
                      intro W hW
                      have h5 := h4.stV (.slice a' (lk0.length + 1) c')
                      have hlen : lk1.length = lk0.length + 1 := by rw [HL1.out]; simp
                      rw [hW, hlen]
                      exact h5
                    clear hown q1 q2 q3 h4 e4 c4 v0 v1 v2 v3 HFa
                    go_wp2
                    have y1 := HST.out _ rfl
                    go_roundw
                    case rel => exact ⟨i + 1, a', c', lk1, by omega, by go_num, HLN, y1⟩
                    case measure => simp [intOf]; omega

                  · have k4i : ¬ (K0 : Int) = 4 := by omega
                    have k4b : ((K0 : Int) == 4) = false := by simpa using k4i
                    have HXE5 : Hid ([Value.int .i64 X.k, .int .u64 X.n, .string X.s, .int .i64 X.o] = [.int .i64 K0, .int .u64 0, .string ⟨#[]⟩, .int .i64 0]) := by
                      show _ = _
                      rw [HXE.out, if_neg k3, if_neg k4]
                      rfl
                    have hv13 := HB11.out.2.1
                    have hb13 := HB11.out.1
                    clear b0 b1 b2 b3
                    go_upto_region 21 with fail
                    clear v0 v1 v2 v3
                    have HFv := hide_p (HF10.out.1.below hb13)
                    have c4 : w11.cell? ⟨bx, 4, none⟩ = some (.slice ka lk0.length kc) := by rw [Lib.cell_of_heap HFv.out.blk]; rfl
                    obtain ⟨v0, v1, v2, v3⟩ := block4 hv13
                    have HFa := hide_p (HFv.out.below ((Below.refl _ w11).alloc (Nat.le_refl _) (.cells #[.int .i64 K0, .int .u64 0, .string ⟨#[]⟩, .int .i64 0] 63)))
                    have hown := HFa.out.rk
                    have hszv := HFv.out.sz
                    go_wp2_with (at_builtin; refine wpList_append_src _ rfl _ _ 24 rfl (w.heap.size + 2) 63 iv0 _ 4 40 Tryd.underlying24 iv1 iv2 iv3 iv4 rfl (by decide) _ lk0.length _ rfl hown _ 1 _ rfl (src_one (heap_alloc_new w11 _) rfl (by intro u hu; simp at hu; rcases hu with rfl | rfl | rfl | rfl <;> rfl)) (by unfold maxLen; omega) (by omega) (by simp; omega) ?_)
                    intro a' c' w14 q1 q2 q3
                    have h4 := HFa.out.appV (x := X) (by rw [HXE5.out]; exact q1) q2
                    rw [← HL1.out] at h4
                    have e4 := h4.blk
                    obtain ⟨z0, z1, z2, z3, z4, z5⟩ := block6 e4
                    have fz := Lib.frozen_of_heap e4 4
                    have HST : Hid (∀ W, W = w14.setCell ⟨bx, 4, none⟩ (.slice a' (lk0.length + 1) c') → RfS w C W bx pa rg (.slice ua lu0.length uc) (.slice ia lc0.length ic) (.slice a' lk1.length c') (.slice none 0 0) (.slice ua lu0.length uc) (.slice ia lc0.length ic) (.slice a' lk1.length c') lu0 lc0 lk1) := by
                      intro W hW
                      have h5 := h4.stV (.slice a' (lk0.length + 1) c')
                      have hlen : lk1.length = lk0.length + 1 := by rw [HL1.out]; simp
                      rw [hW, hlen]
                      exact h5
                    clear hown q1 q2 q3 h4 e4 c4 v0 v1 v2 v3 HFa
                    go_wp2
                    have y1 := HST.out _ rfl
                    go_roundw
                    case rel => exact ⟨i + 1, a', c', lk1, by omega, by go_num, HLN, y1⟩
                    case measure => simp [intOf]; omega


              · have e : i = N4 := by omega
                have HFL4 : Hid (lk0 = (manyL a4).map rVl) := by
                  show _ = _
                  rw [HLL.out, List.take_of_length_le (by have := HN4.out; omega)]
                clear HLL HF HF0 x0 x1 x2 x3
                obtain ⟨HF0, -⟩ : Hid (RfS w C w5 bx pa rg (.slice ua lu0.length uc) (.slice ia lc0.length ic) (.slice ka lk0.length kc) (.slice none 0 0) (.slice ua lu0.length uc) (.slice ia lc0.length ic) (.slice ka lk0.length kc) lu0 lc0 lk0) ∧ True := ⟨HF5, trivial⟩
                clear HF5
                have HVK : Hid (∀ z ∈ manyL a4, Stx z ∧ Ntx z) := HKV
                by_cases hm0 : m = 0
                · have hD : ¬ (D < 100) := by have := HDD.out; omega
                  obtain ⟨lp0, hlp0⟩ : ∃ lp0 : List Pr, lp0 = [] := ⟨_, rfl⟩
                  have hrr : Hid (r = .mk pa rg lu0 lc0 lk0 lp0) := by
                    show _ = _
                    rw [HRD.out, hm0, HPA.out.1, HPA.out.2, HFL2.out, HFL3.out, HFL4.out, hlp0, HAJ2.out, HAJ3.out, HAJ4.out, rdT]
                  have hlpn : Hid (lp0.length ≤ 1000000) := by show _ ≤ _; rw [hlp0]; simp
                  obtain ⟨qa, hqa⟩ : ∃ qa : Option Addr, qa = none := ⟨_, rfl⟩
                  obtain ⟨qc, hqc⟩ : ∃ qc : Nat, qc = 0 := ⟨_, rfl⟩
                  have HF1 : Hid (RfP w C w5 bx pa rg (.slice ua lu0.length uc) (.slice ia lc0.length ic) (.slice ka lk0.length kc) (.slice qa lp0.length qc) (.slice ua lu0.length uc) (.slice ia lc0.length ic) (.slice ka lk0.length kc) (.slice qa lp0.length qc) lu0 lc0 lk0 lp0 (fun _ => ⟨0, 0, .slice none 0 0, .slice none 0 0, .slice none 0 0, .slice none 0 0⟩)) := by
                    have h1 : (Value.slice qa lp0.length qc) = .slice none 0 0 := by rw [hqa, hqc, hlp0]; rfl
                    show RfP _ _ _ _ _ _ _ _ _ _ _ _ _ _ _ _ _ _ _
                    rw [h1, hlp0]
                    exact ⟨HF0.out, PW.nil _ ⟨rfl, Or.inl ⟨rfl, rfl⟩⟩⟩
                  clear HF0 hqa hqc hlp0
                  go_wp2_with fail
                  go_loopw [13] (fun t13 wr => t13 = .int .i64 0 ∧ Hid (RfP w C wr bx pa rg (.slice ua lu0.length uc) (.slice ia lc0.length ic) (.slice ka lk0.length kc) (.slice qa lp0.length qc) (.slice ua lu0.length uc) (.slice ia lc0.length ic) (.slice ka lk0.length kc) (.slice qa lp0.length qc) lu0 lc0 lk0 lp0 (fun _ => ⟨0, 0, .slice none 0 0, .slice none 0 0, .slice none 0 0, .slice none 0 0⟩))) (fun _ _ => 0)
                  case atStart => exact ⟨rfl, HF1⟩
                  case round =>
                    obtain ⟨rfl, HF0⟩ := hrel
                    clear HF1
                    obtain ⟨z0, z1, z2, z3, z4, z5⟩ := block6 HF0.out.blk
                    obtain ⟨y0', y1', y2', y3', y4', y5'⟩ := block6 HF0.out.rf.rs
                    have hfz := Lib.frozen_of_heap HF0.out.rf.rs
                    have f0 := hfz 0
                    have f1 := hfz 1
                    have f2 := hfz 2
                    have f3 := hfz 3
                    have f4 := hfz 4
                    have f5 := hfz 5
                    have HE : Hid (∀ W, W = ((((((wr.setCell ⟨w.heap.size + 1, 0, none⟩ (.int .i64 pa)).setCell ⟨w.heap.size + 1, 1, none⟩ (.int .i64 rg)).setCell ⟨w.heap.size + 1, 2, none⟩ (.slice ua lu0.length uc)).setCell ⟨w.heap.size + 1, 3, none⟩ (.slice ia lc0.length ic)).setCell ⟨w.heap.size + 1, 4, none⟩ (.slice ka lk0.length kc)).setCell ⟨w.heap.size + 1, 5, none⟩ (.slice qa lp0.length qc)) → W.heap[w.heap.size + 1]? = some (.cells #[.int .i64 pa, .int .i64 rg, .slice ua lu0.length uc, .slice ia lc0.length ic, .slice ka lk0.length kc, .slice qa lp0.length qc] 27 (0, 0)) ∧ Below w.heap.size w W ∧ PRS (fun k => w.heap.size ≤ k) W r ⟨pa, rg, .slice ua lu0.length uc, .slice ia lc0.length ic, .slice ka lk0.length kc, .slice qa lp0.length qc⟩) := by
                      intro W hW
                      have h := HF0.out
                      have hh := h.rf.hbx
                      have hoth : ∀ k, k ≠ w.heap.size + 1 → W.heap[k]? = wr.heap[k]? := fun k hk => by rw [hW]; exact set6_other hk _ _ _ _ _ _
                      refine ⟨by rw [hW]; exact set6_block h.rf.rs _ _ _ _ _ _, by rw [hW]; exact set_low (set_low (set_low (set_low (set_low (set_low h.bel (by omega)) (by omega)) (by omega)) (by omega)) (by omega)) (by omega), ?_⟩
                      have hlu : lu0.length ≤ 1000000 := by rw [HFL2.out, List.length_map]; have := HN2.out; omega
                      have hlc : lc0.length ≤ 1000000 := by rw [HFL3.out, List.length_map]; have := HN3.out; omega
                      have hlk : lk0.length ≤ 1000000 := by rw [HFL4.out, List.length_map]; have := HN4.out; omega
                      have hlp : lp0.length ≤ 1000000 := hlpn.out
                      have s1 : SL wr (.slice ua lu0.length uc) lu0.length 2 (uppF lu0) := SL.of_owns h.rf.ru (by unfold far; omega) (fun i j hi _ => uppC_F j hi)
                      have s2 : SL wr (.slice ia lc0.length ic) lc0.length 4 (insF lc0) := SL.of_owns h.rf.rc (by unfold far; omega) (fun i j hi _ => insC_F j hi)
                      have s3 : SL wr (.slice ka lk0.length kc) lk0.length 4 (vlF lk0) := SL.of_owns h.rf.rk (by unfold far; omega) (fun i j hi _ => vlC_F j hi)
                      have s4 := h.pw.sl (by unfold far; omega)
                      have b1 := InB.own h.rf.ru
                      have b2 := InB.own h.rf.rc
                      have b3 := InB.own h.rf.rk
                      have b4 := InB.own h.pw.own
                      rw [hrr.out, PRS_mk]
                      refine ⟨rfl, rfl, HI64.out.1, HI64.out.2, ⟨⟨s1.move (by decide) b1 (fun k h1 _ => hoth k (by omega)), ?_⟩, b1.widen (fun k hk => by omega)⟩, ⟨⟨s2.move (by decide) b2 (fun k h1 _ => hoth k (by omega)), ?_⟩, b2.widen (fun k hk => by omega)⟩, ⟨⟨s3.move (by decide) b3 (fun k h1 _ => hoth k (by omega)), ?_⟩, b3.widen (fun k hk => by omega)⟩, _, ⟨s4.move (by decide) b4 (fun k h1 _ => hoth k (by omega)), b4.widen (fun k hk => by omega)⟩, fun i hi => PRS.widen (fun k hk => by omega) _ _ (PRS.same (w' := W) (fun k hk => hoth k (by omega)) _ _ (h.pw.kid i hi))⟩
                      · intro x hx
                        rw [HFL2.out] at hx
                        obtain ⟨z, -, rfl⟩ := List.mem_map.1 hx
                        exact rUp_ok z
                      · intro x hx
                        rw [HFL3.out] at hx
                        obtain ⟨z, -, rfl⟩ := List.mem_map.1 hx
                        exact rIns_ok z
                      · intro x hx
                        rw [HFL4.out] at hx
                        obtain ⟨z, hz, rfl⟩ := List.mem_map.1 hx
                        exact rVl_ok z (HVK.out z hz).1 (HVK.out z hz).2
                    clear hfz
                    go_wp2
                    obtain ⟨y1, y2, y3⟩ := HE.out _ rfl
                    exact bodyPost_ret (results_cell_row rfl _ _ (w.heap.size + 1) _ _ _ _ rfl y1 Tryd.underlying27 rfl szPr) rfl ⟨_, _, _, _, _, _, _, _, _, _, _, _, _, _, rfl, y2, y3⟩

                · obtain ⟨m', hm'⟩ : ∃ m', m = m' + 1 := ⟨m - 1, by omega⟩
                  have hD : D < 100 := by have := HDD.out; omega
                  have HRM : Hid (∀ (t : Tr) (v : Value) (w : World), CR w t v → Stx t → t.cnt ≤ 1000000 → Calls Tryd.prog 36 #[v, .int .i64 (D + 1)] w (RdR w (rdT m' t))) := by
                    have e : D + 1 = 100 - (m' : Int) := by have := HDD.out; omega
                    rw [e]
                    exact HR.out m' hm'
                  have HF1 : Hid (RfP w C w5 bx pa rg (.slice ua lu0.length uc) (.slice ia lc0.length ic) (.slice ka lk0.length kc) (.slice none 0 0) (.slice ua lu0.length uc) (.slice ia lc0.length ic) (.slice ka lk0.length kc) (.slice none 0 0) lu0 lc0 lk0 [] (fun _ => ⟨0, 0, .slice none 0 0, .slice none 0 0, .slice none 0 0, .slice none 0 0⟩)) := ⟨HF0.out, PW.nil _ ⟨rfl, Or.inl ⟨rfl, rfl⟩⟩⟩
                  clear HF0
                  go_wp2_with fail
                  go_loopw [13] (fun t13 wr => ∃ (i : Nat) (qa : Option Addr) (qc : Nat) (lp : List Pr) (y : Nat → Six), i ≤ N5 ∧ t13 = .int .i64 i ∧ Hid (lp = ((manyL a5).take i).map (rdT m')) ∧ Hid (RfP w C wr bx pa rg (.slice ua lu0.length uc) (.slice ia lc0.length ic) (.slice ka lk0.length kc) (.slice qa lp.length qc) (.slice ua lu0.length uc) (.slice ia lc0.length ic) (.slice ka lk0.length kc) (.slice qa lp.length qc) lu0 lc0 lk0 lp y)) (fun t13 _ => N5 - (intOf t13).toNat)
                  case atStart => exact ⟨0, none, 0, [], _, Nat.zero_le _, rfl, rfl, HF1⟩
                  case round =>
                    obtain ⟨i, qa, qc, lp0, y0, hi, rfl, HLL, HF⟩ := hrel
                    clear HF1
                    obtain ⟨x0, x1, x2, x3⟩ := HCB.out wr HF.out.cb
                    go_wp2_with fail
                    refine (HA5.out wr HF.out.bel).mono ?_
                    rintro e w4 ⟨rfl, hb4⟩
                    have HF4 := hide_p (HF.out.below hb4)
                    clear hb4 x0 x1 x2 x3
                    go_wp2_with fail
                    refine (HM5.out w4 HF4.out.bel).mono ?_
                    rintro e w5 ⟨rfl, hb5⟩
                    have HF5 := hide_p (HF4.out.below hb5)
                    obtain ⟨x0, x1, x2, x3⟩ := HCB.out w5 HF5.out.cb
                    clear hb5 HF4

                    by_cases c : i < N5
                    · have i1 : i < (manyL a5).length := by rw [← HN5.out]; exact c
                      obtain ⟨ux, HCX, HAX, xk, xn, xs, xa, xm, xc, rfl⟩ := at_in HC5.out i
                      obtain ⟨r0, hr0⟩ : ∃ r0, r0 = rdT m' (atT a5 i) := ⟨_, rfl⟩
                      obtain ⟨lp1, hlp1⟩ : ∃ lp1, lp1 = lp0 ++ [r0] := ⟨_, rfl⟩
                      have HL1 := hide_p hlp1
                      have HLN : Hid (lp1 = ((manyL a5).take (i + 1)).map (rdT m')) := by
                        show _ = _
                        rw [take_rd i1, ← hr0, hlp1, HLL.out]
                      have hn : lp0.length ≤ 1000000 := by rw [HLL.out, List.length_map, List.length_take]; omega
                      have HRX : Hid (∀ w', Below w.heap.size w w' → Calls Tryd.prog 36 #[(.agg #[.int .i64 xk, .int .u64 xn, .string xs, .slice xa xm xc]), .int .i64 (D + 1)] w' (RdR w' r0)) := by
                        intro w' hb
                        have hx := HRM.out (atT a5 i) _ w' (HCX.out.kept hb (Nat.le_refl _)) (HKX.out i).1 (HKX.out i).2
                        rw [← hr0] at hx
                        exact hx
                      have HC8 : Hid (w5.heap[w.heap.size]? = some (.cells #[.int .i64 k, .int .u64 n, .string s, .slice a l.length cap] 33 (0, 0))) := by show _ = _; rw [← HCC.out]; exact HF5.out.cb
                      clear hlp1 hr0 HCX x0 x1 x2 x3
                      go_wp2_with fail
                      refine wp_region_inv2 (by kernel_rfl) [120, 121, 122, 123, 124, 125, 126, 127, 128, 129, 130, 131] (fun L vs w' => ∃ v120 v121 v122 v123 v124 v125 v126 v127 v128 v129 v130 v131, vs = [v120, v121, v122, v123, v124, v125, v126, v127, v128, v129, v130, v131] ∧ (L 0 = true → v120 = (.pointer (some ⟨bx, 5, none⟩))) ∧ (L 1 = true → v121 = .slice qa lp0.length qc) ∧ (L 2 = true → v122 = (.agg #[.int .i64 k, .int .u64 n, .string s, .slice a l.length cap])) ∧ (L 3 = true → v123 = u5) ∧ (L 4 = true → v124 = (.int .i64 (i : Nat))) ∧ (L 5 = true → v125 = (.agg #[.int .i64 xk, .int .u64 xn, .string xs, .slice xa xm xc])) ∧ (L 6 = true → v126 = (.int .i64 D)) ∧ (L 7 = true → v127 = (.int .i64 (D + 1))) ∧ (L 11 = true → v131 = (.pointer (some ⟨bx, 5, none⟩))) ∧ (L 1 = true → L 0 = true) ∧ (L 3 = true → L 2 = true) ∧ (L 5 = true → L 3 = true ∧ L 4 = true) ∧ (L 7 = true → L 6 = true) ∧ (L 8 = true → L 5 = true ∧ L 7 = true) ∧ (L 9 = true → L 8 = true) ∧ (L 10 = true → L 1 = true ∧ L 8 = true ∧ L 9 = true) ∧ (L 12 = true → L 10 = true ∧ L 11 = true) ∧ Hid ((L 10 = false → RfP w C w' bx pa rg (.slice ua lu0.length uc) (.slice ia lc0.length ic) (.slice ka lk0.length kc) (.slice qa lp0.length qc) (.slice ua lu0.length uc) (.slice ia lc0.length ic) (.slice ka lk0.length kc) (.slice qa lp0.length qc) lu0 lc0 lk0 lp0 y0 ∧ w'.heap[w.heap.size]? = some (.cells #[.int .i64 k, .int .u64 n, .string s, .slice a l.length cap] 33 (0, 0))) ∧ (L 9 = true → L 10 = false → RdG (fun b => bx + 1 ≤ b ∧ some b ≠ (Value.slice qa lp0.length qc).ownBlock) w' r0 v129) ∧ (L 10 = true → L 12 = false → ∃ y1, RfP w C w' bx pa rg (.slice ua lu0.length uc) (.slice ia lc0.length ic) (.slice ka lk0.length kc) (.slice qa lp0.length qc) (.slice ua lu0.length uc) (.slice ia lc0.length ic) (.slice ka lk0.length kc) v130 lu0 lc0 lk0 lp1 y1) ∧ (L 12 = true → ∃ y1, RfP w C w' bx pa rg (.slice ua lu0.length uc) (.slice ia lc0.length ic) (.slice ka lk0.length kc) v130 (.slice ua lu0.length uc) (.slice ia lc0.length ic) (.slice ka lk0.length kc) v130 lu0 lc0 lk0 lp1 y1) ∧ (L 8 = true → L 9 = false → RdV (fun b => bx + 1 ≤ b ∧ some b ≠ (Value.slice qa lp0.length qc).ownBlock) w' r0 v128))) (by kernel_rfl) (by decide) (by simp) ?_ ⟨?_, ?_, ?_, ?_, ?_, ?_, ?_, ?_, ?_, ?_, ?_, ?_, ?_, trivial⟩ ?_
                      · exact ⟨_, _, _, _, _, _, _, _, _, _, _, _, rfl, fun q => by (cases q), fun q => by (cases q), fun q => by (cases q), fun q => by (cases q), fun q => by (cases q), fun q => by (cases q), fun q => by (cases q), fun q => by (cases q), fun q => by (cases q), fun q => by (cases q), fun q => by (cases q), fun q => by (cases q), fun q => by (cases q), fun q => by (cases q), fun q => by (cases q), fun q => by (cases q), fun q => by (cases q), ⟨fun _ => ⟨HF5.out.below (Below.refl _ _).drew, HC8.out⟩, fun q => (by cases q), fun q => (by cases q), fun q => (by cases q), fun q => (by cases q)⟩⟩
                      · rintro A L vs w' F G ⟨v120, v121, v122, v123, v124, v125, v126, v127, v128, v129, v130, v131, rfl, d0, d1, d2, d3, d4, d5, d6, d7, d11, m1, m3, m5, m7, m8, m9, m10, m12, HW⟩ hL hdep K' hK hK0
                        have g5 : A.tmps[5]?.getD undef = .pointer (some ⟨bx, 0, none⟩) := evT ((G 5 (by decide)).trans rfl)
                        clear F G
                        go_simp
                        refine hK 0 120 _ w' rfl ⟨_, _, _, _, _, _, _, _, _, _, _, _, rfl, (fun _ => rfl), d1, d2, d3, d4, d5, d6, d7, d11, (fun q => laterT (m1 q)), (fun q => laterT (m3 q)), (fun q => ⟨laterT (m5 q).1, laterT (m5 q).2⟩), (fun q => laterT (m7 q)), (fun q => ⟨laterT (m8 q).1, laterT (m8 q).2⟩), (fun q => laterT (m9 q)), (fun q => ⟨laterT (m10 q).1, laterT (m10 q).2.1, laterT (m10 q).2.2⟩), (fun q => ⟨laterT (m12 q).1, laterT (m12 q).2⟩), HW⟩
                      · rintro A L vs w' F G ⟨v120, v121, v122, v123, v124, v125, v126, v127, v128, v129, v130, v131, rfl, d0, d1, d2, d3, d4, d5, d6, d7, d11, m1, m3, m5, m7, m8, m9, m10, m12, HW⟩ hL hdep K' hK hK0
                        have p0 : L 0 = true := hdep { on := 0, ground := Ground.data } (by simp) rfl
                        have n10 : L 10 = false := not_yet hL (fun q => (m10 q).1)
                        have h := (HW.out.1 n10).1
                        have b0 : w'.cell? ⟨bx, 5, none⟩ = some (.slice qa lp0.length qc) := by rw [Lib.cell_of_heap h.blk]; rfl
                        have q := d0 p0
                        subst q
                        have g120 := evT (F 0 120 _ rfl rfl)
                        clear F G
                        go_simp
                        refine hK 1 121 _ w' rfl ⟨_, _, _, _, _, _, _, _, _, _, _, _, rfl, d0, (fun _ => rfl), d2, d3, d4, d5, d6, d7, d11, (fun _ => laterT p0), (fun q => laterT (m3 q)), (fun q => ⟨laterT (m5 q).1, laterT (m5 q).2⟩), (fun q => laterT (m7 q)), (fun q => ⟨laterT (m8 q).1, laterT (m8 q).2⟩), (fun q => laterT (m9 q)), (fun q => ⟨laterT (m10 q).1, laterT (m10 q).2.1, laterT (m10 q).2.2⟩), (fun q => ⟨laterT (m12 q).1, laterT (m12 q).2⟩), HW⟩
                      · rintro A L vs w' F G ⟨v120, v121, v122, v123, v124, v125, v126, v127, v128, v129, v130, v131, rfl, d0, d1, d2, d3, d4, d5, d6, d7, d11, m1, m3, m5, m7, m8, m9, m10, m12, HW⟩ hL hdep K' hK hK0
                        have n10 : L 10 = false := not_yet hL (fun q => (m3 ((m5 ((m8 ((m10 q).2.1)).1)).1)))
                        have h := (HW.out.1 n10).2
                        obtain ⟨b0, b1, b2, b3⟩ := block4 h
                        have gt : A.tmps[2]?.getD undef = .pointer (some ⟨w.heap.size, 0, none⟩) := evT ((G 2 (by decide)).trans rfl)
                        clear F G
                        go_simp
                        refine hK 2 122 _ w' rfl ⟨_, _, _, _, _, _, _, _, _, _, _, _, rfl, d0, d1, (fun _ => rfl), d3, d4, d5, d6, d7, d11, (fun q => laterT (m1 q)), (fun q => laterT (m3 q)), (fun q => ⟨laterT (m5 q).1, laterT (m5 q).2⟩), (fun q => laterT (m7 q)), (fun q => ⟨laterT (m8 q).1, laterT (m8 q).2⟩), (fun q => laterT (m9 q)), (fun q => ⟨laterT (m10 q).1, laterT (m10 q).2.1, laterT (m10 q).2.2⟩), (fun q => ⟨laterT (m12 q).1, laterT (m12 q).2⟩), HW⟩
                      · rintro A L vs w' F G ⟨v120, v121, v122, v123, v124, v125, v126, v127, v128, v129, v130, v131, rfl, d0, d1, d2, d3, d4, d5, d6, d7, d11, m1, m3, m5, m7, m8, m9, m10, m12, HW⟩ hL hdep K' hK hK0
                        have p2 : L 2 = true := hdep { on := 2, ground := Ground.data } (by simp) rfl
                        have n10 : L 10 = false := not_yet hL (fun q => (m5 ((m8 ((m10 q).2.1)).1)).1)
                        have h := (HW.out.1 n10).1
                        have h2 := (HW.out.1 n10).2
                        have q := d2 p2
                        subst q
                        have g122 := evT (F 2 122 _ rfl rfl)
                        clear F G
                        go_simp
                        refine (HA5.out _ h.bel).mono ?_
                        rintro e w2 ⟨rfl, hb⟩
                        have HW2 : Hid ((L 10 = false → RfP w C w2 bx pa rg (.slice ua lu0.length uc) (.slice ia lc0.length ic) (.slice ka lk0.length kc) (.slice qa lp0.length qc) (.slice ua lu0.length uc) (.slice ia lc0.length ic) (.slice ka lk0.length kc) (.slice qa lp0.length qc) lu0 lc0 lk0 lp0 y0 ∧ w2.heap[w.heap.size]? = some (.cells #[.int .i64 k, .int .u64 n, .string s, .slice a l.length cap] 33 (0, 0))) ∧ (L 9 = true → L 10 = false → RdG (fun b => bx + 1 ≤ b ∧ some b ≠ (Value.slice qa lp0.length qc).ownBlock) w2 r0 v129) ∧ (L 10 = true → L 12 = false → ∃ y1, RfP w C w2 bx pa rg (.slice ua lu0.length uc) (.slice ia lc0.length ic) (.slice ka lk0.length kc) (.slice qa lp0.length qc) (.slice ua lu0.length uc) (.slice ia lc0.length ic) (.slice ka lk0.length kc) v130 lu0 lc0 lk0 lp1 y1) ∧ (L 12 = true → ∃ y1, RfP w C w2 bx pa rg (.slice ua lu0.length uc) (.slice ia lc0.length ic) (.slice ka lk0.length kc) v130 (.slice ua lu0.length uc) (.slice ia lc0.length ic) (.slice ka lk0.length kc) v130 lu0 lc0 lk0 lp1 y1) ∧ (L 8 = true → L 9 = false → RdV (fun b => bx + 1 ≤ b ∧ some b ≠ (Value.slice qa lp0.length qc).ownBlock) w2 r0 v128)) := ⟨fun _ => ⟨h.below hb, (hb.block _ (blk_lt h2)).trans h2⟩, fun q => absurd ((m5 ((m8 ((m9 q))).1)).1) (by rw [hL]; decide), fun q => absurd q (by rw [n10]; decide), fun q => absurd ((m12 q).1) (by rw [n10]; decide), fun q => absurd ((m5 ((m8 q).1)).1) (by rw [hL]; decide)⟩
                        refine hK 3 123 _ w2 rfl ⟨_, _, _, _, _, _, _, _, _, _, _, _, rfl, d0, d1, d2, (fun _ => rfl), d4, d5, d6, d7, d11, (fun q => laterT (m1 q)), (fun _ => laterT p2), (fun q => ⟨laterT (m5 q).1, laterT (m5 q).2⟩), (fun q => laterT (m7 q)), (fun q => ⟨laterT (m8 q).1, laterT (m8 q).2⟩), (fun q => laterT (m9 q)), (fun q => ⟨laterT (m10 q).1, laterT (m10 q).2.1, laterT (m10 q).2.2⟩), (fun q => ⟨laterT (m12 q).1, laterT (m12 q).2⟩), HW2⟩
                      · rintro A L vs w' F G ⟨v120, v121, v122, v123, v124, v125, v126, v127, v128, v129, v130, v131, rfl, d0, d1, d2, d3, d4, d5, d6, d7, d11, m1, m3, m5, m7, m8, m9, m10, m12, HW⟩ hL hdep K' hK hK0
                        have gm : A.tmps[13]?.getD undef = .int .i64 (i : Nat) := evT ((G 13 (by decide)).trans rfl)
                        clear F G
                        go_simp
                        refine hK 4 124 _ w' rfl ⟨_, _, _, _, _, _, _, _, _, _, _, _, rfl, d0, d1, d2, d3, (fun _ => rfl), d5, d6, d7, d11, (fun q => laterT (m1 q)), (fun q => laterT (m3 q)), (fun q => ⟨laterT (m5 q).1, laterT (m5 q).2⟩), (fun q => laterT (m7 q)), (fun q => ⟨laterT (m8 q).1, laterT (m8 q).2⟩), (fun q => laterT (m9 q)), (fun q => ⟨laterT (m10 q).1, laterT (m10 q).2.1, laterT (m10 q).2.2⟩), (fun q => ⟨laterT (m12 q).1, laterT (m12 q).2⟩), HW⟩
                      · rintro A L vs w' F G ⟨v120, v121, v122, v123, v124, v125, v126, v127, v128, v129, v130, v131, rfl, d0, d1, d2, d3, d4, d5, d6, d7, d11, m1, m3, m5, m7, m8, m9, m10, m12, HW⟩ hL hdep K' hK hK0
                        have p3 : L 3 = true := hdep { on := 3, ground := Ground.data } (by simp) rfl
                        have p4 : L 4 = true := hdep { on := 4, ground := Ground.data } (by simp) rfl
                        have n10 : L 10 = false := not_yet hL (fun q => (m8 ((m10 q).2.1)).1)
                        have h := (HW.out.1 n10).1
                        have h2 := (HW.out.1 n10).2
                        have q := d3 p3
                        subst q
                        have g123 := evT (F 3 123 _ rfl rfl)
                        have q := d4 p4
                        subst q
                        have g124 := evT (F 4 124 _ rfl rfl)
                        clear F G
                        go_simp
                        refine (HAX.out _ h.bel).mono ?_
                        rintro e w2 ⟨rfl, hb⟩
                        have HW2 : Hid ((L 10 = false → RfP w C w2 bx pa rg (.slice ua lu0.length uc) (.slice ia lc0.length ic) (.slice ka lk0.length kc) (.slice qa lp0.length qc) (.slice ua lu0.length uc) (.slice ia lc0.length ic) (.slice ka lk0.length kc) (.slice qa lp0.length qc) lu0 lc0 lk0 lp0 y0 ∧ w2.heap[w.heap.size]? = some (.cells #[.int .i64 k, .int .u64 n, .string s, .slice a l.length cap] 33 (0, 0))) ∧ (L 9 = true → L 10 = false → RdG (fun b => bx + 1 ≤ b ∧ some b ≠ (Value.slice qa lp0.length qc).ownBlock) w2 r0 v129) ∧ (L 10 = true → L 12 = false → ∃ y1, RfP w C w2 bx pa rg (.slice ua lu0.length uc) (.slice ia lc0.length ic) (.slice ka lk0.length kc) (.slice qa lp0.length qc) (.slice ua lu0.length uc) (.slice ia lc0.length ic) (.slice ka lk0.length kc) v130 lu0 lc0 lk0 lp1 y1) ∧ (L 12 = true → ∃ y1, RfP w C w2 bx pa rg (.slice ua lu0.length uc) (.slice ia lc0.length ic) (.slice ka lk0.length kc) v130 (.slice ua lu0.length uc) (.slice ia lc0.length ic) (.slice ka lk0.length kc) v130 lu0 lc0 lk0 lp1 y1) ∧ (L 8 = true → L 9 = false → RdV (fun b => bx + 1 ≤ b ∧ some b ≠ (Value.slice qa lp0.length qc).ownBlock) w2 r0 v128)) := ⟨fun _ => ⟨h.below hb, (hb.block _ (blk_lt h2)).trans h2⟩, fun q => absurd ((m8 ((m9 q))).1) (by rw [hL]; decide), fun q => absurd q (by rw [n10]; decide), fun q => absurd ((m12 q).1) (by rw [n10]; decide), fun q => absurd ((m8 q).1) (by rw [hL]; decide)⟩
                        refine hK 5 125 _ w2 rfl ⟨_, _, _, _, _, _, _, _, _, _, _, _, rfl, d0, d1, d2, d3, d4, (fun _ => rfl), d6, d7, d11, (fun q => laterT (m1 q)), (fun q => laterT (m3 q)), (fun _ => ⟨laterT p3, laterT p4⟩), (fun q => laterT (m7 q)), (fun q => ⟨laterT (m8 q).1, laterT (m8 q).2⟩), (fun q => laterT (m9 q)), (fun q => ⟨laterT (m10 q).1, laterT (m10 q).2.1, laterT (m10 q).2.2⟩), (fun q => ⟨laterT (m12 q).1, laterT (m12 q).2⟩), HW2⟩
                      · rintro A L vs w' F G ⟨v120, v121, v122, v123, v124, v125, v126, v127, v128, v129, v130, v131, rfl, d0, d1, d2, d3, d4, d5, d6, d7, d11, m1, m3, m5, m7, m8, m9, m10, m12, HW⟩ hL hdep K' hK hK0
                        have gm : A.tmps[1]?.getD undef = .int .i64 D := evT ((G 1 (by decide)).trans rfl)
                        clear F G
                        go_simp
                        refine hK 6 126 _ w' rfl ⟨_, _, _, _, _, _, _, _, _, _, _, _, rfl, d0, d1, d2, d3, d4, d5, (fun _ => rfl), d7, d11, (fun q => laterT (m1 q)), (fun q => laterT (m3 q)), (fun q => ⟨laterT (m5 q).1, laterT (m5 q).2⟩), (fun q => laterT (m7 q)), (fun q => ⟨laterT (m8 q).1, laterT (m8 q).2⟩), (fun q => laterT (m9 q)), (fun q => ⟨laterT (m10 q).1, laterT (m10 q).2.1, laterT (m10 q).2.2⟩), (fun q => ⟨laterT (m12 q).1, laterT (m12 q).2⟩), HW⟩
                      · rintro A L vs w' F G ⟨v120, v121, v122, v123, v124, v125, v126, v127, v128, v129, v130, v131, rfl, d0, d1, d2, d3, d4, d5, d6, d7, d11, m1, m3, m5, m7, m8, m9, m10, m12, HW⟩ hL hdep K' hK hK0
                        have p6 : L 6 = true := hdep { on := 6, ground := Ground.data } (by simp) rfl
                        have q := d6 p6
                        subst q
                        have g126 := evT (F 6 126 _ rfl rfl)
                        clear F G
                        go_simp
                        refine hK 7 127 _ w' rfl ⟨_, _, _, _, _, _, _, _, _, _, _, _, rfl, d0, d1, d2, d3, d4, d5, d6, (fun _ => rfl), d11, (fun q => laterT (m1 q)), (fun q => laterT (m3 q)), (fun q => ⟨laterT (m5 q).1, laterT (m5 q).2⟩), (fun _ => laterT p6), (fun q => ⟨laterT (m8 q).1, laterT (m8 q).2⟩), (fun q => laterT (m9 q)), (fun q => ⟨laterT (m10 q).1, laterT (m10 q).2.1, laterT (m10 q).2.2⟩), (fun q => ⟨laterT (m12 q).1, laterT (m12 q).2⟩), HW⟩
                      · rintro A L vs w' F G ⟨v120, v121, v122, v123, v124, v125, v126, v127, v128, v129, v130, v131, rfl, d0, d1, d2, d3, d4, d5, d6, d7, d11, m1, m3, m5, m7, m8, m9, m10, m12, HW⟩ hL hdep K' hK hK0
                        have p5 : L 5 = true := hdep { on := 5, ground := Ground.data } (by simp) rfl
                        have p7 : L 7 = true := hdep { on := 7, ground := Ground.data } (by simp) rfl
                        have n10 : L 10 = false := not_yet hL (fun q => (m10 q).2.1)
                        have h := (HW.out.1 n10).1
                        have h2 := (HW.out.1 n10).2
                        have q := d5 p5
                        subst q
                        have g125 := evT (F 5 125 _ rfl rfl)
                        have q := d7 p7
                        subst q
                        have g127 := evT (F 7 127 _ rfl rfl)
                        clear F G
                        go_simp
                        refine (HRX.out _ h.bel).mono ?_
                        rintro e w2 ⟨pa', rg', b1, n1, c1, b2, n2, c2, b3, n3, c3, b4, n4, c4, rfl, hb, hprs⟩
                        have hszz := h.sz
                        have HW2 : Hid ((L 10 = false → RfP w C w2 bx pa rg (.slice ua lu0.length uc) (.slice ia lc0.length ic) (.slice ka lk0.length kc) (.slice qa lp0.length qc) (.slice ua lu0.length uc) (.slice ia lc0.length ic) (.slice ka lk0.length kc) (.slice qa lp0.length qc) lu0 lc0 lk0 lp0 y0 ∧ w2.heap[w.heap.size]? = some (.cells #[.int .i64 k, .int .u64 n, .string s, .slice a l.length cap] 33 (0, 0))) ∧ (L 9 = true → L 10 = false → RdG (fun b => bx + 1 ≤ b ∧ some b ≠ (Value.slice qa lp0.length qc).ownBlock) w2 r0 v129) ∧ (L 10 = true → L 12 = false → ∃ y1, RfP w C w2 bx pa rg (.slice ua lu0.length uc) (.slice ia lc0.length ic) (.slice ka lk0.length kc) (.slice qa lp0.length qc) (.slice ua lu0.length uc) (.slice ia lc0.length ic) (.slice ka lk0.length kc) v130 lu0 lc0 lk0 lp1 y1) ∧ (L 12 = true → ∃ y1, RfP w C w2 bx pa rg (.slice ua lu0.length uc) (.slice ia lc0.length ic) (.slice ka lk0.length kc) v130 (.slice ua lu0.length uc) (.slice ia lc0.length ic) (.slice ka lk0.length kc) v130 lu0 lc0 lk0 lp1 y1) ∧ (true = true → L 9 = false → RdV (fun b => bx + 1 ≤ b ∧ some b ≠ (Value.slice qa lp0.length qc).ownBlock) w2 r0 (Value.agg #[.int .i64 pa', .int .i64 rg', .slice b1 n1 c1, .slice b2 n2 c2, .slice b3 n3 c3, .slice b4 n4 c4]))) := ⟨fun _ => ⟨h.below hb, (hb.block _ (blk_lt h2)).trans h2⟩, fun q => absurd ((m9 q)) (by rw [hL]; decide), fun q => absurd q (by rw [n10]; decide), fun q => absurd ((m12 q).1) (by rw [n10]; decide), fun _ _ => ⟨_, _, _, _, _, _, _, _, _, _, _, _, _, _, rfl, PRS.widen (fun b hb2 => ⟨by omega, fun e => by have := (h.pw.own.lt b e.symm).2; omega⟩) _ _ hprs⟩⟩
                        refine hK 8 128 _ w2 rfl ⟨_, _, _, _, _, _, _, _, _, _, _, _, rfl, d0, d1, d2, d3, d4, d5, d6, d7, d11, (fun q => laterT (m1 q)), (fun q => laterT (m3 q)), (fun q => ⟨laterT (m5 q).1, laterT (m5 q).2⟩), (fun q => laterT (m7 q)), (fun _ => ⟨laterT p5, laterT p7⟩), (fun q => laterT (m9 q)), (fun q => ⟨laterT (m10 q).1, laterT (m10 q).2.1, laterT (m10 q).2.2⟩), (fun q => ⟨laterT (m12 q).1, laterT (m12 q).2⟩), HW2⟩
                      · rintro A L vs w' F G ⟨v120, v121, v122, v123, v124, v125, v126, v127, v128, v129, v130, v131, rfl, d0, d1, d2, d3, d4, d5, d6, d7, d11, m1, m3, m5, m7, m8, m9, m10, m12, HW⟩ hL hdep K' hK hK0
                        have p8 : L 8 = true := hdep { on := 8, ground := Ground.data } (by simp) rfl
                        have n10 : L 10 = false := not_yet hL (fun q => (m10 q).2.2)
                        have h := (HW.out.1 n10).1
                        have h2 := (HW.out.1 n10).2
                        obtain ⟨pa', rg', b1, n1, c1, b2, n2, c2, b3, n3, c3, b4, n4, c4, e128, hprs⟩ := HW.out.2.2.2.2 p8 hL
                        subst e128
                        have g128 := evT (F 8 128 _ rfl rfl)
                        have hb : Below w'.heap.size w' (w'.alloc (.cells #[.int .i64 pa', .int .i64 rg', .slice b1 n1 c1, .slice b2 n2 c2, .slice b3 n3 c3, .slice b4 n4 c4] 27)) := (Below.refl _ _).alloc (Nat.le_refl _) _
                        have HW2 : Hid ((L 10 = false → RfP w C (w'.alloc (.cells #[.int .i64 pa', .int .i64 rg', .slice b1 n1 c1, .slice b2 n2 c2, .slice b3 n3 c3, .slice b4 n4 c4] 27)) bx pa rg (.slice ua lu0.length uc) (.slice ia lc0.length ic) (.slice ka lk0.length kc) (.slice qa lp0.length qc) (.slice ua lu0.length uc) (.slice ia lc0.length ic) (.slice ka lk0.length kc) (.slice qa lp0.length qc) lu0 lc0 lk0 lp0 y0 ∧ (w'.alloc (.cells #[.int .i64 pa', .int .i64 rg', .slice b1 n1 c1, .slice b2 n2 c2, .slice b3 n3 c3, .slice b4 n4 c4] 27)).heap[w.heap.size]? = some (.cells #[.int .i64 k, .int .u64 n, .string s, .slice a l.length cap] 33 (0, 0))) ∧ (true = true → L 10 = false → RdG (fun b => bx + 1 ≤ b ∧ some b ≠ (Value.slice qa lp0.length qc).ownBlock) (w'.alloc (.cells #[.int .i64 pa', .int .i64 rg', .slice b1 n1 c1, .slice b2 n2 c2, .slice b3 n3 c3, .slice b4 n4 c4] 27)) r0 (Value.slice (some ⟨w'.heap.size, 0, none⟩) 1 1)) ∧ (L 10 = true → L 12 = false → ∃ y1, RfP w C (w'.alloc (.cells #[.int .i64 pa', .int .i64 rg', .slice b1 n1 c1, .slice b2 n2 c2, .slice b3 n3 c3, .slice b4 n4 c4] 27)) bx pa rg (.slice ua lu0.length uc) (.slice ia lc0.length ic) (.slice ka lk0.length kc) (.slice qa lp0.length qc) (.slice ua lu0.length uc) (.slice ia lc0.length ic) (.slice ka lk0.length kc) v130 lu0 lc0 lk0 lp1 y1) ∧ (L 12 = true → ∃ y1, RfP w C (w'.alloc (.cells #[.int .i64 pa', .int .i64 rg', .slice b1 n1 c1, .slice b2 n2 c2, .slice b3 n3 c3, .slice b4 n4 c4] 27)) bx pa rg (.slice ua lu0.length uc) (.slice ia lc0.length ic) (.slice ka lk0.length kc) v130 (.slice ua lu0.length uc) (.slice ia lc0.length ic) (.slice ka lk0.length kc) v130 lu0 lc0 lk0 lp1 y1) ∧ (L 8 = true → true = false → RdV (fun b => bx + 1 ≤ b ∧ some b ≠ (Value.slice qa lp0.length qc).ownBlock) (w'.alloc (.cells #[.int .i64 pa', .int .i64 rg', .slice b1 n1 c1, .slice b2 n2 c2, .slice b3 n3 c3, .slice b4 n4 c4] 27)) r0 (Value.agg #[.int .i64 pa', .int .i64 rg', .slice b1 n1 c1, .slice b2 n2 c2, .slice b3 n3 c3, .slice b4 n4 c4]))) := ⟨fun _ => ⟨h.below hb, (hb.block _ (blk_lt h2)).trans h2⟩, fun _ _ => ⟨_, _, _, _, _, _, _, _, _, _, _, _, _, _, _, rfl, heap_alloc_new _ _, PRS.below hb (Nat.le_refl _) _ _ hprs⟩, fun q => absurd q (by rw [n10]; decide), fun q => absurd ((m12 q).1) (by rw [n10]; decide), fun _ q => (by cases q)⟩
                        clear F G
                        go_simp
                        refine hK 9 129 _ _ rfl ⟨_, _, _, _, _, _, _, _, _, _, _, _, rfl, d0, d1, d2, d3, d4, d5, d6, d7, d11, (fun q => laterT (m1 q)), (fun q => laterT (m3 q)), (fun q => ⟨laterT (m5 q).1, laterT (m5 q).2⟩), (fun q => laterT (m7 q)), (fun q => ⟨laterT (m8 q).1, laterT (m8 q).2⟩), (fun _ => laterT p8), (fun q => ⟨laterT (m10 q).1, laterT (m10 q).2.1, laterT (m10 q).2.2⟩), (fun q => ⟨laterT (m12 q).1, laterT (m12 q).2⟩), HW2⟩
                      · rintro A L vs w' F G ⟨v120, v121, v122, v123, v124, v125, v126, v127, v128, v129, v130, v131, rfl, d0, d1, d2, d3, d4, d5, d6, d7, d11, m1, m3, m5, m7, m8, m9, m10, m12, HW⟩ hL hdep K' hK hK0
                        have p1 : L 1 = true := hdep { on := 1, ground := Ground.data } (by simp) rfl
                        have p9 : L 9 = true := hdep { on := 9, ground := Ground.data } (by simp) rfl
                        have p8 : L 8 = true := hdep { on := 8, ground := Ground.chain } (by simp) rfl
                        have n12 : L 12 = false := not_yet hL (fun q => (m12 q).1)
                        have h := (HW.out.1 hL).1
                        have h2 := (HW.out.1 hL).2
                        obtain ⟨g9, pa', rg', b1, n1, c1, b2, n2, c2, b3, n3, c3, b4, n4, c4, e129, hg, hprs⟩ := HW.out.2.1 p9 hL
                        subst e129
                        have q := d1 p1
                        subst q
                        have hB := h.sz
                        refine step_append_src w' rfl (.tmp 121) (.tmp 129) 25 rfl (bx + 1) 27 ip0 _ 6 112 Tryd.underlying25 ip1 ip2 ip3 ip4 rfl (by decide) (.slice qa lp0.length qc) lp0.length _ (F 1 121 _ rfl rfl) h.pw.own (.slice (some ⟨g9, 0, none⟩) 1 1) 1 _ (F 9 129 _ rfl rfl) (src_one hg rfl (by intro u hu; simp at hu; rcases hu with rfl | rfl | rfl | rfl | rfl | rfl <;> rfl)) (by unfold maxLen; omega) (by omega) hB ?_
                        intro a' c' w2 q1 q2 q3
                        obtain ⟨y1, h4⟩ := h.app (x := ⟨pa', rg', .slice b1 n1 c1, .slice b2 n2 c2, .slice b3 n3 c3, .slice b4 n4 c4⟩) hprs q1 q2 q3
                        rw [← HL1.out] at h4
                        have HW2 : Hid ((true = false → RfP w C w2 bx pa rg (.slice ua lu0.length uc) (.slice ia lc0.length ic) (.slice ka lk0.length kc) (.slice qa lp0.length qc) (.slice ua lu0.length uc) (.slice ia lc0.length ic) (.slice ka lk0.length kc) (.slice qa lp0.length qc) lu0 lc0 lk0 lp0 y0 ∧ w2.heap[w.heap.size]? = some (.cells #[.int .i64 k, .int .u64 n, .string s, .slice a l.length cap] 33 (0, 0))) ∧ (L 9 = true → true = false → RdG (fun b => bx + 1 ≤ b ∧ some b ≠ (Value.slice qa lp0.length qc).ownBlock) w2 r0 (Value.slice (some ⟨g9, 0, none⟩) 1 1)) ∧ (true = true → L 12 = false → ∃ y1, RfP w C w2 bx pa rg (.slice ua lu0.length uc) (.slice ia lc0.length ic) (.slice ka lk0.length kc) (.slice qa lp0.length qc) (.slice ua lu0.length uc) (.slice ia lc0.length ic) (.slice ka lk0.length kc) (Value.slice a' (lp0.length + 1) c') lu0 lc0 lk0 lp1 y1) ∧ (L 12 = true → ∃ y1, RfP w C w2 bx pa rg (.slice ua lu0.length uc) (.slice ia lc0.length ic) (.slice ka lk0.length kc) (Value.slice a' (lp0.length + 1) c') (.slice ua lu0.length uc) (.slice ia lc0.length ic) (.slice ka lk0.length kc) (Value.slice a' (lp0.length + 1) c') lu0 lc0 lk0 lp1 y1) ∧ (L 8 = true → L 9 = false → RdV (fun b => bx + 1 ≤ b ∧ some b ≠ (Value.slice qa lp0.length qc).ownBlock) w2 r0 v128)) := ⟨fun q => (by cases q), fun _ q => (by cases q), fun _ _ => ⟨y1, h4⟩, fun q => absurd q (by rw [n12]; decide), fun _ q => absurd q (by rw [p9]; decide)⟩
                        refine hK 10 130 _ w2 rfl ⟨_, _, _, _, _, _, _, _, _, _, _, _, rfl, d0, d1, d2, d3, d4, d5, d6, d7, d11, (fun q => laterT (m1 q)), (fun q => laterT (m3 q)), (fun q => ⟨laterT (m5 q).1, laterT (m5 q).2⟩), (fun q => laterT (m7 q)), (fun q => ⟨laterT (m8 q).1, laterT (m8 q).2⟩), (fun q => laterT (m9 q)), (fun _ => ⟨laterT p1, laterT p8, laterT p9⟩), (fun q => ⟨laterT (m12 q).1, laterT (m12 q).2⟩), HW2⟩
                      · rintro A L vs w' F G ⟨v120, v121, v122, v123, v124, v125, v126, v127, v128, v129, v130, v131, rfl, d0, d1, d2, d3, d4, d5, d6, d7, d11, m1, m3, m5, m7, m8, m9, m10, m12, HW⟩ hL hdep K' hK hK0
                        have g5 : A.tmps[5]?.getD undef = .pointer (some ⟨bx, 0, none⟩) := evT ((G 5 (by decide)).trans rfl)
                        clear F G
                        go_simp
                        refine hK 11 131 _ w' rfl ⟨_, _, _, _, _, _, _, _, _, _, _, _, rfl, d0, d1, d2, d3, d4, d5, d6, d7, (fun _ => rfl), (fun q => laterT (m1 q)), (fun q => laterT (m3 q)), (fun q => ⟨laterT (m5 q).1, laterT (m5 q).2⟩), (fun q => laterT (m7 q)), (fun q => ⟨laterT (m8 q).1, laterT (m8 q).2⟩), (fun q => laterT (m9 q)), (fun q => ⟨laterT (m10 q).1, laterT (m10 q).2.1, laterT (m10 q).2.2⟩), (fun q => ⟨laterT (m12 q).1, laterT (m12 q).2⟩), HW⟩
                      · rintro A L vs w' F G ⟨v120, v121, v122, v123, v124, v125, v126, v127, v128, v129, v130, v131, rfl, d0, d1, d2, d3, d4, d5, d6, d7, d11, m1, m3, m5, m7, m8, m9, m10, m12, HW⟩ hL hdep K' hK hK0
                        have p11 : L 11 = true := hdep { on := 11, ground := Ground.data } (by simp) rfl
                        have p10 : L 10 = true := hdep { on := 10, ground := Ground.data } (by simp) rfl
                        obtain ⟨y1, h⟩ := HW.out.2.2.1 p10 hL
                        obtain ⟨ax, cx, ex⟩ := owns_form h.pw.own
                        subst ex
                        have p9 : L 9 = true := (m10 p10).2.2
                        have cc : ∃ u, w'.cell? ⟨bx, 5, none⟩ = some u := ⟨_, by rw [Lib.cell_of_heap h.blk]; rfl⟩
                        obtain ⟨uu, cc⟩ := cc
                        have fz := Lib.frozen_of_heap h.blk 5
                        have HW2 : Hid ((L 10 = false → RfP w C (w'.setCell ⟨bx, 5, none⟩ (Value.slice ax lp1.length cx)) bx pa rg (.slice ua lu0.length uc) (.slice ia lc0.length ic) (.slice ka lk0.length kc) (.slice qa lp0.length qc) (.slice ua lu0.length uc) (.slice ia lc0.length ic) (.slice ka lk0.length kc) (.slice qa lp0.length qc) lu0 lc0 lk0 lp0 y0 ∧ (w'.setCell ⟨bx, 5, none⟩ (Value.slice ax lp1.length cx)).heap[w.heap.size]? = some (.cells #[.int .i64 k, .int .u64 n, .string s, .slice a l.length cap] 33 (0, 0))) ∧ (L 9 = true → L 10 = false → RdG (fun b => bx + 1 ≤ b ∧ some b ≠ (Value.slice qa lp0.length qc).ownBlock) (w'.setCell ⟨bx, 5, none⟩ (Value.slice ax lp1.length cx)) r0 v129) ∧ (L 10 = true → true = false → ∃ y1, RfP w C (w'.setCell ⟨bx, 5, none⟩ (Value.slice ax lp1.length cx)) bx pa rg (.slice ua lu0.length uc) (.slice ia lc0.length ic) (.slice ka lk0.length kc) (.slice qa lp0.length qc) (.slice ua lu0.length uc) (.slice ia lc0.length ic) (.slice ka lk0.length kc) (Value.slice ax lp1.length cx) lu0 lc0 lk0 lp1 y1) ∧ (true = true → ∃ y1, RfP w C (w'.setCell ⟨bx, 5, none⟩ (Value.slice ax lp1.length cx)) bx pa rg (.slice ua lu0.length uc) (.slice ia lc0.length ic) (.slice ka lk0.length kc) (Value.slice ax lp1.length cx) (.slice ua lu0.length uc) (.slice ia lc0.length ic) (.slice ka lk0.length kc) (Value.slice ax lp1.length cx) lu0 lc0 lk0 lp1 y1) ∧ (L 8 = true → L 9 = false → RdV (fun b => bx + 1 ≤ b ∧ some b ≠ (Value.slice qa lp0.length qc).ownBlock) (w'.setCell ⟨bx, 5, none⟩ (Value.slice ax lp1.length cx)) r0 v128)) := ⟨fun q => absurd q (by rw [p10]; decide), fun _ q => absurd q (by rw [p10]; decide), fun _ q => (by cases q), fun _ => ⟨y1, h.st _⟩, fun _ q => absurd q (by rw [p9]; decide)⟩
                        have q := d11 p11
                        subst q
                        have g131 := evT (F 11 131 _ rfl rfl)
                        have gv := evT (F 10 130 _ rfl rfl)
                        clear F G
                        go_simp
                        refine hK0 _ ⟨_, _, _, _, _, _, _, _, _, _, _, _, rfl, d0, d1, d2, d3, d4, d5, d6, d7, d11, (fun q => laterT (m1 q)), (fun q => laterT (m3 q)), (fun q => ⟨laterT (m5 q).1, laterT (m5 q).2⟩), (fun q => laterT (m7 q)), (fun q => ⟨laterT (m8 q).1, laterT (m8 q).2⟩), (fun q => laterT (m9 q)), (fun q => ⟨laterT (m10 q).1, laterT (m10 q).2.1, laterT (m10 q).2.2⟩), (fun _ => ⟨laterT p10, laterT p11⟩), HW2⟩
                      · rintro L vs w' hall ⟨v120, v121, v122, v123, v124, v125, v126, v127, v128, v129, v130, v131, rfl, d0, d1, d2, d3, d4, d5, d6, d7, d11, m1, m3, m5, m7, m8, m9, m10, m12, HW⟩
                        obtain ⟨y1, h⟩ := HW.out.2.2.2.1 (hall 12 (by decide))
                        obtain ⟨ax, cx, ex⟩ := owns_form h.pw.own
                        subst ex
                        have HRF := hide_p h
                        clear d0 d1 d2 d3 d4 d5 d6 d7 d11 m1 m3 m5 m7 m8 m9 m10 m12 HW h
                        simp only [puts]
                        go_simp
                        go_wp2
                        go_roundw
                        case rel => exact ⟨i + 1, ax, cx, lp1, y1, by omega, by go_num, HLN, HRF⟩
                        case measure => simp [intOf]; omega

                    · have e : i = N5 := by omega
                      have HFL5 : Hid (lp0 = (manyL a5).map (rdT m')) := by
                        show _ = _
                        rw [HLL.out, List.take_of_length_le (by have := HN5.out; omega)]
                      have hrr : Hid (r = .mk pa rg lu0 lc0 lk0 lp0) := by
                        show _ = _
                        rw [HRD.out, hm', HPA.out.1, HPA.out.2, HFL2.out, HFL3.out, HFL4.out, HFL5.out, HAJ2.out, HAJ3.out, HAJ4.out, HAJ5.out]
                        rfl
                      have hlpn : Hid (lp0.length ≤ 1000000) := by show _ ≤ _; rw [HFL5.out, List.length_map]; have := HN5.out; omega
                      clear HLL HF x0 x1 x2 x3
                      have HF0 := HF5
                      clear HF5
                      obtain ⟨z0, z1, z2, z3, z4, z5⟩ := block6 HF0.out.blk
                      obtain ⟨y0', y1', y2', y3', y4', y5'⟩ := block6 HF0.out.rf.rs
                      have hfz := Lib.frozen_of_heap HF0.out.rf.rs
                      have f0 := hfz 0
                      have f1 := hfz 1
                      have f2 := hfz 2
                      have f3 := hfz 3
                      have f4 := hfz 4
                      have f5 := hfz 5
                      have HE : Hid (∀ W, W = ((((((w5.setCell ⟨w.heap.size + 1, 0, none⟩ (.int .i64 pa)).setCell ⟨w.heap.size + 1, 1, none⟩ (.int .i64 rg)).setCell ⟨w.heap.size + 1, 2, none⟩ (.slice ua lu0.length uc)).setCell ⟨w.heap.size + 1, 3, none⟩ (.slice ia lc0.length ic)).setCell ⟨w.heap.size + 1, 4, none⟩ (.slice ka lk0.length kc)).setCell ⟨w.heap.size + 1, 5, none⟩ (.slice qa lp0.length qc)) → W.heap[w.heap.size + 1]? = some (.cells #[.int .i64 pa, .int .i64 rg, .slice ua lu0.length uc, .slice ia lc0.length ic, .slice ka lk0.length kc, .slice qa lp0.length qc] 27 (0, 0)) ∧ Below w.heap.size w W ∧ PRS (fun k => w.heap.size ≤ k) W r ⟨pa, rg, .slice ua lu0.length uc, .slice ia lc0.length ic, .slice ka lk0.length kc, .slice qa lp0.length qc⟩) := by
                        intro W hW
                        have h := HF0.out
                        have hh := h.rf.hbx
                        have hoth : ∀ k, k ≠ w.heap.size + 1 → W.heap[k]? = w5.heap[k]? := fun k hk => by rw [hW]; exact set6_other hk _ _ _ _ _ _
                        refine ⟨by rw [hW]; exact set6_block h.rf.rs _ _ _ _ _ _, by rw [hW]; exact set_low (set_low (set_low (set_low (set_low (set_low h.bel (by omega)) (by omega)) (by omega)) (by omega)) (by omega)) (by omega), ?_⟩
                        have hlu : lu0.length ≤ 1000000 := by rw [HFL2.out, List.length_map]; have := HN2.out; omega
                        have hlc : lc0.length ≤ 1000000 := by rw [HFL3.out, List.length_map]; have := HN3.out; omega
                        have hlk : lk0.length ≤ 1000000 := by rw [HFL4.out, List.length_map]; have := HN4.out; omega
                        have hlp : lp0.length ≤ 1000000 := hlpn.out
                        have s1 : SL w5 (.slice ua lu0.length uc) lu0.length 2 (uppF lu0) := SL.of_owns h.rf.ru (by unfold far; omega) (fun i j hi _ => uppC_F j hi)
                        have s2 : SL w5 (.slice ia lc0.length ic) lc0.length 4 (insF lc0) := SL.of_owns h.rf.rc (by unfold far; omega) (fun i j hi _ => insC_F j hi)
                        have s3 : SL w5 (.slice ka lk0.length kc) lk0.length 4 (vlF lk0) := SL.of_owns h.rf.rk (by unfold far; omega) (fun i j hi _ => vlC_F j hi)
                        have s4 := h.pw.sl (by unfold far; omega)
                        have b1 := InB.own h.rf.ru
                        have b2 := InB.own h.rf.rc
                        have b3 := InB.own h.rf.rk
                        have b4 := InB.own h.pw.own
                        rw [hrr.out, PRS_mk]
                        refine ⟨rfl, rfl, HI64.out.1, HI64.out.2, ⟨⟨s1.move (by decide) b1 (fun k h1 _ => hoth k (by omega)), ?_⟩, b1.widen (fun k hk => by omega)⟩, ⟨⟨s2.move (by decide) b2 (fun k h1 _ => hoth k (by omega)), ?_⟩, b2.widen (fun k hk => by omega)⟩, ⟨⟨s3.move (by decide) b3 (fun k h1 _ => hoth k (by omega)), ?_⟩, b3.widen (fun k hk => by omega)⟩, _, ⟨s4.move (by decide) b4 (fun k h1 _ => hoth k (by omega)), b4.widen (fun k hk => by omega)⟩, fun i hi => PRS.widen (fun k hk => by omega) _ _ (PRS.same (w' := W) (fun k hk => hoth k (by omega)) _ _ (h.pw.kid i hi))⟩
                        · intro x hx
                          rw [HFL2.out] at hx
                          obtain ⟨z, -, rfl⟩ := List.mem_map.1 hx
                          exact rUp_ok z
                        · intro x hx
                          rw [HFL3.out] at hx
                          obtain ⟨z, -, rfl⟩ := List.mem_map.1 hx
                          exact rIns_ok z
                        · intro x hx
                          rw [HFL4.out] at hx
                          obtain ⟨z, hz, rfl⟩ := List.mem_map.1 hx
                          exact rVl_ok z (HVK.out z hz).1 (HVK.out z hz).2
                      clear hfz
                      go_wp2
                      obtain ⟨y1, y2, y3⟩ := HE.out _ rfl
                      exact bodyPost_ret (results_cell_row rfl _ _ (w.heap.size + 1) _ _ _ _ rfl y1 Tryd.underlying27 rfl szPr) rfl ⟨_, _, _, _, _, _, _, _, _, _, _, _, _, _, rfl, y2, y3⟩






end Go.Proofs.YtcblknghkgihcaaDoor
