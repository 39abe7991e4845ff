/-
  Layer 13: the reference's FromCell, walked.
-/
import Derived.Test.YtcblknghkgihcaaDoorGB
import Derived.Test.YtcblknghkgihcaaDoorPgChk6
import Derived.Test.YtcblknghkgihcaaDoorGA
import Derived.BigQuiet
import Derived.Deep.RegionHeld3
namespace Go.Proofs.YtcblknghkgihcaaDoor
set_option maxRecDepth 100000
open Go.RowKit Crc Pg

/-- What the reference's read tells. -/
def RdR (w : World) (r : Pr) (e : Ending) (w' : World) : Prop :=
  ∃ (pa rg : Int) (a1 : Option Addr) (n1 c1 : Nat) (a2 : Option Addr) (n2 c2 : Nat) (a3 : Option Addr) (n3 c3 : Nat) (a4 : Option Addr) (n4 c4 : Nat), e = .returned (.agg #[.int .i64 pa, .int .i64 rg, .slice a1 n1 c1, .slice a2 n2 c2, .slice a3 n3 c3, .slice a4 n4 c4]) ∧ Below w.heap.size w w' ∧ PRS (fun k => w.heap.size ≤ k) w' r ⟨pa, rg, .slice a1 n1 c1, .slice a2 n2 c2, .slice a3 n3 c3, .slice a4 n4 c4⟩

theorem at_cnt (t : Tr) (i : Nat) : (atT t i).cnt ≤ t.cnt := by
  obtain ⟨k, n, s, l⟩ := t
  rw [Tr.cnt_mk]
  unfold atT
  simp only
  split
  · rw [List.getD_eq_getElem?_getD]
    by_cases hi : i < l.length
    · rw [List.getElem?_eq_getElem hi]
      have := cnts_getl i hi
      show l[i].cnt ≤ _
      omega
    · rw [List.getElem?_eq_none (by omega)]
      show (Tr.mk 0 0 nob []).cnt ≤ _
      rw [Tr.cnt_mk, cnts_nil]; omega
  · show (Tr.mk 0 0 nob []).cnt ≤ _
    rw [Tr.cnt_mk, cnts_nil]; omega
/-- A part of a tree. -/
theorem at_in {t : Tr} {v : Value} {w : World} (h : CR w t v) (i : Nat) : ∃ u, Hid (CR w (atT t i) u) ∧ Hid (∀ w', Below w.heap.size w w' → Calls Tryd.prog 57 #[v, .int .i64 i] w' fun e w'' => e = .returned u ∧ Below w'.heap.size w' w'') ∧ ∃ k n s b m c, u = .agg #[.int .i64 k, .int .u64 (n : Nat), .string s, .slice b m c] := by
  obtain ⟨b, c, h1, h2⟩ := rat_any t v w h i
  exact ⟨_, h1, h2, _, _, _, _, _, _, rfl⟩
theorem sm_in {t : Tr} {v : Value} {w : World} (h : CR w t v) : Hid (∀ w', Below w.heap.size w w' → Calls Tryd.prog 56 #[v] w' fun e w'' => e = .returned (.int .i64 (smT t)) ∧ Below w'.heap.size w' w'') :=
  fun w' hb => rsmall_any t v w' (h.kept hb (Nat.le_refl _))
theorem many_in {t : Tr} {v : Value} {w : World} (h : CR w t v) : Hid (∀ w', Below w.heap.size w w' → Calls Tryd.prog 58 #[v] w' fun e w'' => e = .returned (.int .i64 (manyL t).length) ∧ Below w'.heap.size w' w'') :=
  fun w' hb => rmany_any t v w' (h.kept hb (Nat.le_refl _))

set_option maxHeartbeats 16000000 in
theorem read_of (m : Nat) (hm : m ≤ 100) (HR0 : ∀ m', m = m' + 1 → ∀ (t : Tr) (v : Value) (w : World), CR w t v → Stx t → t.cnt ≤ 1000000 → Calls Tryd.prog 36 #[v, .int .i64 (100 - (m' : Int))] w (RdR w (rdT m' t)))
    (t : Tr) (v : Value) (w : World) (h : CR w t v) (hst : Stx t) (hcnt : t.cnt ≤ 1000000) :
    Calls Tryd.prog 36 #[v, .int .i64 (100 - (m : Int))] w (RdR w (rdT m t)) := by
  obtain ⟨iu0, iu1, iu2, iu3, iu4⟩ := info_parts infoUp2
  obtain ⟨ii0, ii1, ii2, ii3, ii4⟩ := info_parts infoIns2
  obtain ⟨iv0, iv1, iv2, iv3, iv4⟩ := info_parts infoVl2
  obtain ⟨ip0, ip1, ip2, ip3, ip4⟩ := info_parts infoPr2
  have hlens : ∀ i, (manyL (atT t i)).length ≤ 1000000 := by
    intro i
    have h1 : ∀ p : Tr, (manyL p).length ≤ p.cnt := by
      intro p
      obtain ⟨k, n, s, l⟩ := p
      rw [Tr.cnt_mk]
      have := tlen_cnts l
      unfold manyL
      simp only
      split <;> simp <;> omega
    have h2 : (atT t i).cnt ≤ t.cnt := by
      obtain ⟨k, n, s, l⟩ := t
      rw [Tr.cnt_mk]
      unfold atT
      simp only
      split
      · rw [List.getD_eq_getElem?_getD]
        by_cases hi : i < l.length
        · rw [List.getElem?_eq_getElem hi]
          have := cnts_getl i hi
          show l[i].cnt ≤ _
          omega
        · rw [List.getElem?_eq_none (by omega)]
          show (Tr.mk 0 0 nob []).cnt ≤ _
          rw [Tr.cnt_mk, cnts_nil]; omega
      · show (Tr.mk 0 0 nob []).cnt ≤ _
        rw [Tr.cnt_mk, cnts_nil]; omega
    exact Nat.le_trans (h1 _) (Nat.le_trans h2 hcnt)
  have HLEN := hide_p hlens
  obtain ⟨u0, HC0, HA0, -⟩ := at_in h 0
  obtain ⟨u1, HC1, HA1, -⟩ := at_in h 1
  obtain ⟨u2, HC2, HA2, -⟩ := at_in h 2
  obtain ⟨u3, HC3, HA3, -⟩ := at_in h 3
  obtain ⟨u4, HC4, HA4, -⟩ := at_in h 4
  obtain ⟨u5, HC5, HA5, -⟩ := at_in h 5
  have HS0 := sm_in HC0.out
  have HS1 := sm_in HC1.out
  have HM2 := many_in HC2.out
  have HM3 := many_in HC3.out
  have HM4 := many_in HC4.out
  have HM5 := many_in HC5.out
  obtain ⟨a2, ha2⟩ : ∃ a2, a2 = atT t 2 := ⟨_, rfl⟩
  rw [← ha2] at HC2 HM2
  have hl2 : (manyL a2).length ≤ 1000000 := by rw [ha2]; exact hlens 2
  obtain ⟨N2, hN2⟩ : ∃ N2, N2 = (manyL a2).length := ⟨_, rfl⟩
  rw [← hN2] at HM2 hl2
  have HN2 := hide_p hN2
  have HAJ2 := hide_p ha2
  obtain ⟨a3, ha3⟩ : ∃ a3, a3 = atT t 3 := ⟨_, rfl⟩
  rw [← ha3] at HC3 HM3
  have hl3 : (manyL a3).length ≤ 1000000 := by rw [ha3]; exact hlens 3
  obtain ⟨N3, hN3⟩ : ∃ N3, N3 = (manyL a3).length := ⟨_, rfl⟩
  rw [← hN3] at HM3 hl3
  have HN3 := hide_p hN3
  have HAJ3 := hide_p ha3
  obtain ⟨a4, ha4⟩ : ∃ a4, a4 = atT t 4 := ⟨_, rfl⟩
  rw [← ha4] at HC4 HM4
  have hl4 : (manyL a4).length ≤ 1000000 := by rw [ha4]; exact hlens 4
  obtain ⟨N4, hN4⟩ : ∃ N4, N4 = (manyL a4).length := ⟨_, rfl⟩
  rw [← hN4] at HM4 hl4
  have HN4 := hide_p hN4
  have HAJ4 := hide_p ha4
  obtain ⟨a5, ha5⟩ : ∃ a5, a5 = atT t 5 := ⟨_, rfl⟩
  rw [← ha5] at HC5 HM5
  have hl5 : (manyL a5).length ≤ 1000000 := by rw [ha5]; exact hlens 5
  obtain ⟨N5, hN5⟩ : ∃ N5, N5 = (manyL a5).length := ⟨_, rfl⟩
  rw [← hN5] at HM5 hl5
  have HN5 := hide_p hN5
  have HAJ5 := hide_p ha5
  obtain ⟨D, hDD⟩ : ∃ D : Int, D = 100 - (m : Int) := ⟨_, rfl⟩
  rw [← hDD]
  have HDD := hide_p hDD
  have hm2a : D ≤ 100 := by omega
  have hm2b : 0 ≤ D := by omega
  have hwr : IntKind.i64.wrap (D + 1) = D + 1 := by
    simp [IntKind.wrap, IntKind.signed, IntKind.bits]
    omega
  have HKV : Hid (∀ z ∈ manyL a4, Stx z ∧ Ntx z) := by
    intro z hz
    rw [ha4] at hz
    refine ⟨(hst.at 4).many hz, ?_⟩
    have hnt := h.ntx.at 4
    unfold manyL at hz
    split at hz
    · exact hnt.kid hz
    · cases hz
  have HKX : Hid (∀ i, Stx (atT a5 i) ∧ (atT a5 i).cnt ≤ 1000000) := by
    intro i
    rw [ha5]
    exact ⟨(hst.at 5).at i, Nat.le_trans (at_cnt _ i) (Nat.le_trans (at_cnt _ 5) hcnt)⟩
  have HI64 : Hid (i64 (smT (atT t 0) : Int) ∧ i64 (smT (atT t 1) : Int)) := by
    have h0 := sm_le (atT t 0)
    have h1 := sm_le (atT t 1)
    exact ⟨⟨by omega, by omega⟩, ⟨by omega, by omega⟩⟩
  obtain ⟨pa, hpa⟩ : ∃ pa : Int, pa = smT (atT t 0) := ⟨_, rfl⟩
  obtain ⟨rg, hrg⟩ : ∃ rg : Int, rg = smT (atT t 1) := ⟨_, rfl⟩
  rw [← hpa] at HS0
  rw [← hrg] at HS1
  have HPA := hide_p (And.intro hpa hrg)
  rw [← hpa, ← hrg] at HI64
  obtain ⟨r, hr⟩ : ∃ r, r = rdT m t := ⟨_, rfl⟩
  rw [← hr]
  have HRD := hide_p hr
  have HR := hide_p HR0
  have HB0 := hide_p (Below.refl w.heap.size w)
  obtain ⟨a, cap, rfl⟩ := h.shape
  clear hDD h hst hcnt hlens hN2 hN3 hN4 hN5 hpa hrg hr HR0 ha2 ha3 ha4 ha5
  generalize t.k = k at *
  generalize t.n = n at *
  generalize t.s = s at *
  generalize t.l = l at *
  unfold cellV at HA0 HA1 HA2 HA3 HA4 HA5 ⊢
  obtain ⟨C, hC⟩ : ∃ C, C = (#[.int .i64 k, .int .u64 n, .string s, .slice a l.length cap] : Array Value) := ⟨_, rfl⟩
  obtain ⟨w1, hw1⟩ : ∃ w1, w1 = (w.alloc (.cells #[.int .i64 k, .int .u64 n, .string s, .slice a l.length cap] 33)).alloc (.cells #[.int .i64 0, .int .i64 0, .slice none 0 0, .slice none 0 0, .slice none 0 0, .slice none 0 0] 27) := ⟨_, rfl⟩
  have HB1 : Hid (Below w.heap.size w w1) := by show Below _ _ _; rw [hw1]; exact ((Below.refl _ _).alloc (Nat.le_refl _) _).alloc (by simp) _
  have HS1' : Hid (w1.heap.size = w.heap.size + 2) := by show _ = _; rw [hw1]; simp
  have HA1' : Hid (w1.heap[w.heap.size]? = some (.cells C 33 (0, 0)) ∧ w1.heap[w.heap.size + 1]? = some (.cells #[.int .i64 0, .int .i64 0, .slice none 0 0, .slice none 0 0, .slice none 0 0, .slice none 0 0] 27 (0, 0))) := by
    show _ ∧ _
    rw [hw1, hC]
    refine ⟨?_, heap_alloc_at _ _ _ (by simp)⟩
    rw [Below.heap_alloc _ _ _ (by simp)]
    exact heap_alloc_new _ _
  have HCB : Hid (∀ wq : World, wq.heap[w.heap.size]? = some (.cells C 33 (0, 0)) → wq.cell? ⟨w.heap.size, 0, none⟩ = some (.int .i64 k) ∧ wq.cell? ⟨w.heap.size, 1, none⟩ = some (.int .u64 n) ∧ wq.cell? ⟨w.heap.size, 2, none⟩ = some (.string s) ∧ wq.cell? ⟨w.heap.size, 3, none⟩ = some (.slice a l.length cap)) := by
    intro wq hq
    rw [hC] at hq
    exact block4 hq
  obtain ⟨x0, x1, x2, x3⟩ := HCB.out w1 HA1'.out.1
  have HCC := hide_p hC
  clear hC
  go_enter Tryd.func36, Tryd.ntmps36
  go_upto_region 1 with fail
  rw [← hw1]
  clear hw1
  go_cut [5] (fun t5 wc => ∃ bx, t5 = .pointer (some ⟨bx, 0, none⟩) ∧ Hid (RfS w C wc bx pa rg (.slice none 0 0) (.slice none 0 0) (.slice none 0 0) (.slice none 0 0) (.slice none 0 0) (.slice none 0 0) (.slice none 0 0) [] [] []))
  case first =>
    have HR0 : Hid (R0S w C w1 ∧ w1.heap[w.heap.size]? = some (.cells #[.int .i64 k, .int .u64 n, .string s, .slice a l.length cap] 33 (0, 0))) := ⟨⟨HB1.out, HA1'.out.1, HA1'.out.2⟩, by rw [← HCC.out]; exact HA1'.out.1⟩
    clear x0 x1 x2 x3
    refine wp_region_inv2 (by kernel_rfl) [14, 15, 16, 17, 18, 19, 20, 5] (fun L vs w' => ∃ v14 v15 v16 v17 v18 v19 v20 v5, vs = [v14, v15, v16, v17, v18, v19, v20, v5] ∧ (L 0 = true → v14 = (.agg #[.int .i64 k, .int .u64 n, .string s, .slice a l.length cap])) ∧ (L 1 = true → v15 = u0) ∧ (L 2 = true → v16 = (.int .i64 pa)) ∧ (L 3 = true → v17 = (.agg #[.int .i64 k, .int .u64 n, .string s, .slice a l.length cap])) ∧ (L 4 = true → v18 = u1) ∧ (L 5 = true → v19 = (.int .i64 rg)) ∧ (L 6 = true → v20 = (.agg #[.int .i64 pa, .int .i64 rg, .slice none 0 0, .slice none 0 0, .slice none 0 0, .slice none 0 0])) ∧ (L 1 = true → L 0 = true) ∧ (L 2 = true → L 1 = true) ∧ (L 4 = true → L 2 = true ∧ L 3 = true) ∧ (L 5 = true → L 4 = true) ∧ (L 6 = true → L 2 = true ∧ L 5 = true) ∧ (L 8 = true → L 5 = true ∧ L 6 = true ∧ L 7 = true) ∧ Hid ((L 8 = false → R0S w C w' ∧ w'.heap[w.heap.size]? = some (.cells #[.int .i64 k, .int .u64 n, .string s, .slice a l.length cap] 33 (0, 0))) ∧ (L 7 = true → L 8 = false → ∃ g, (v5 = .pointer (some ⟨g, 0, none⟩) ∧ w.heap.size + 2 ≤ g) ∧ w'.heap[g]? = some (.cells #[.int .i64 0, .int .i64 0, .slice none 0 0, .slice none 0 0, .slice none 0 0, .slice none 0 0] 27 (0, 0))) ∧ (L 8 = true → L 8 = false → True) ∧ (L 8 = true → ∃ g, v5 = .pointer (some ⟨g, 0, none⟩) ∧ RfS w C w' g pa rg (.slice none 0 0) (.slice none 0 0) (.slice none 0 0) (.slice none 0 0) (.slice none 0 0) (.slice none 0 0) (.slice none 0 0) [] [] []))) (by kernel_rfl) (by decide) (by simp) ?_ ⟨?_, ?_, ?_, ?_, ?_, ?_, ?_, ?_, ?_, trivial⟩ ?_
    · exact ⟨_, _, _, _, _, _, _, _, rfl, fun q => by (cases q), fun q => by (cases q), fun q => by (cases q), fun q => by (cases q), fun q => by (cases q), fun q => by (cases q), fun q => by (cases q), fun q => by (cases q), fun q => by (cases q), fun q => by (cases q), fun q => by (cases q), fun q => by (cases q), fun q => by (cases q), ⟨fun _ => ⟨HR0.out.1.below (Below.refl _ _).drew, HR0.out.2⟩, fun q => (by cases q), fun q => (by cases q), fun q => (by cases q)⟩⟩
    · rintro A L vs w' F G ⟨v14, v15, v16, v17, v18, v19, v20, v5, rfl, d0, d1, d2, d3, d4, d5, d6, m1, m2, m4, m5, m6, m8, HW⟩ hL hdep K' hK hK0
      have n8 : L 8 = false := not_yet hL (fun q => (m1 ((m2 ((m6 ((m8 q).2.1)).1)))))
      have h := (HW.out.1 n8).2
      obtain ⟨b0, b1, b2, b3⟩ := block4 h
      have gt : A.tmps[2]?.getD undef = .pointer (some ⟨w.heap.size, 0, none⟩) := evT ((G 2 (by decide)).trans rfl)
      clear F G
      go_simp
      refine hK 0 14 _ w' rfl ⟨_, _, _, _, _, _, _, _, rfl, (fun _ => rfl), d1, d2, d3, d4, d5, d6, (fun q => laterT (m1 q)), (fun q => laterT (m2 q)), (fun q => ⟨laterT (m4 q).1, laterT (m4 q).2⟩), (fun q => laterT (m5 q)), (fun q => ⟨laterT (m6 q).1, laterT (m6 q).2⟩), (fun q => ⟨laterT (m8 q).1, laterT (m8 q).2.1, laterT (m8 q).2.2⟩), HW⟩
    · rintro A L vs w' F G ⟨v14, v15, v16, v17, v18, v19, v20, v5, rfl, d0, d1, d2, d3, d4, d5, d6, m1, m2, m4, m5, m6, m8, HW⟩ hL hdep K' hK hK0
      have p0 : L 0 = true := hdep { on := 0, ground := Ground.data } (by simp) rfl
      have n8 : L 8 = false := not_yet hL (fun q => (m2 ((m6 ((m8 q).2.1)).1)))
      have h := (HW.out.1 n8).1
      have h2 := (HW.out.1 n8).2
      have q := d0 p0
      subst q
      have g14 := evT (F 0 14 _ rfl rfl)
      clear F G
      go_simp
      refine (HA0.out _ h.bel).mono ?_
      rintro e w2 ⟨rfl, hb⟩
      have HW2 : Hid ((L 8 = false → R0S w C w2 ∧ w2.heap[w.heap.size]? = some (.cells #[.int .i64 k, .int .u64 n, .string s, .slice a l.length cap] 33 (0, 0))) ∧ (L 7 = true → L 8 = false → ∃ g, (v5 = .pointer (some ⟨g, 0, none⟩) ∧ w.heap.size + 2 ≤ g) ∧ w2.heap[g]? = some (.cells #[.int .i64 0, .int .i64 0, .slice none 0 0, .slice none 0 0, .slice none 0 0, .slice none 0 0] 27 (0, 0))) ∧ (L 8 = true → L 8 = false → True) ∧ (L 8 = true → ∃ g, v5 = .pointer (some ⟨g, 0, none⟩) ∧ RfS w C w2 g pa rg (.slice none 0 0) (.slice none 0 0) (.slice none 0 0) (.slice none 0 0) (.slice none 0 0) (.slice none 0 0) (.slice none 0 0) [] [] [])) := ⟨fun _ => ⟨h.below hb, (hb.block _ (blk_lt h2)).trans h2⟩, fun q r => by obtain ⟨g, e, hg⟩ := HW.out.2.1 q r; exact ⟨g, e, (hb.block _ (blk_lt hg)).trans hg⟩, fun q => absurd q (by rw [n8]; decide), fun q => absurd (q) (by rw [n8]; decide)⟩
      refine hK 1 15 _ w2 rfl ⟨_, _, _, _, _, _, _, _, rfl, d0, (fun _ => rfl), d2, d3, d4, d5, d6, (fun _ => laterT p0), (fun q => laterT (m2 q)), (fun q => ⟨laterT (m4 q).1, laterT (m4 q).2⟩), (fun q => laterT (m5 q)), (fun q => ⟨laterT (m6 q).1, laterT (m6 q).2⟩), (fun q => ⟨laterT (m8 q).1, laterT (m8 q).2.1, laterT (m8 q).2.2⟩), HW2⟩
    · rintro A L vs w' F G ⟨v14, v15, v16, v17, v18, v19, v20, v5, rfl, d0, d1, d2, d3, d4, d5, d6, m1, m2, m4, m5, m6, m8, HW⟩ hL hdep K' hK hK0
      have p1 : L 1 = true := hdep { on := 1, ground := Ground.data } (by simp) rfl
      have n8 : L 8 = false := not_yet hL (fun q => (m6 ((m8 q).2.1)).1)
      have h := (HW.out.1 n8).1
      have h2 := (HW.out.1 n8).2
      have q := d1 p1
      subst q
      have g15 := evT (F 1 15 _ rfl rfl)
      clear F G
      go_simp
      refine (HS0.out _ h.bel).mono ?_
      rintro e w2 ⟨rfl, hb⟩
      have HW2 : Hid ((L 8 = false → R0S w C w2 ∧ w2.heap[w.heap.size]? = some (.cells #[.int .i64 k, .int .u64 n, .string s, .slice a l.length cap] 33 (0, 0))) ∧ (L 7 = true → L 8 = false → ∃ g, (v5 = .pointer (some ⟨g, 0, none⟩) ∧ w.heap.size + 2 ≤ g) ∧ w2.heap[g]? = some (.cells #[.int .i64 0, .int .i64 0, .slice none 0 0, .slice none 0 0, .slice none 0 0, .slice none 0 0] 27 (0, 0))) ∧ (L 8 = true → L 8 = false → True) ∧ (L 8 = true → ∃ g, v5 = .pointer (some ⟨g, 0, none⟩) ∧ RfS w C w2 g pa rg (.slice none 0 0) (.slice none 0 0) (.slice none 0 0) (.slice none 0 0) (.slice none 0 0) (.slice none 0 0) (.slice none 0 0) [] [] [])) := ⟨fun _ => ⟨h.below hb, (hb.block _ (blk_lt h2)).trans h2⟩, fun q r => by obtain ⟨g, e, hg⟩ := HW.out.2.1 q r; exact ⟨g, e, (hb.block _ (blk_lt hg)).trans hg⟩, fun q => absurd q (by rw [n8]; decide), fun q => absurd (q) (by rw [n8]; decide)⟩
      refine hK 2 16 _ w2 rfl ⟨_, _, _, _, _, _, _, _, rfl, d0, d1, (fun _ => rfl), d3, d4, d5, d6, (fun q => laterT (m1 q)), (fun _ => laterT p1), (fun q => ⟨laterT (m4 q).1, laterT (m4 q).2⟩), (fun q => laterT (m5 q)), (fun q => ⟨laterT (m6 q).1, laterT (m6 q).2⟩), (fun q => ⟨laterT (m8 q).1, laterT (m8 q).2.1, laterT (m8 q).2.2⟩), HW2⟩
    · rintro A L vs w' F G ⟨v14, v15, v16, v17, v18, v19, v20, v5, rfl, d0, d1, d2, d3, d4, d5, d6, m1, m2, m4, m5, m6, m8, HW⟩ hL hdep K' hK hK0
      have n8 : L 8 = false := not_yet hL (fun q => (m4 ((m5 ((m8 q).1)))).2)
      have h := (HW.out.1 n8).2
      obtain ⟨b0, b1, b2, b3⟩ := block4 h
      have gt : A.tmps[2]?.getD undef = .pointer (some ⟨w.heap.size, 0, none⟩) := evT ((G 2 (by decide)).trans rfl)
      clear F G
      go_simp
      refine hK 3 17 _ w' rfl ⟨_, _, _, _, _, _, _, _, rfl, d0, d1, d2, (fun _ => rfl), d4, d5, d6, (fun q => laterT (m1 q)), (fun q => laterT (m2 q)), (fun q => ⟨laterT (m4 q).1, laterT (m4 q).2⟩), (fun q => laterT (m5 q)), (fun q => ⟨laterT (m6 q).1, laterT (m6 q).2⟩), (fun q => ⟨laterT (m8 q).1, laterT (m8 q).2.1, laterT (m8 q).2.2⟩), HW⟩
    · rintro A L vs w' F G ⟨v14, v15, v16, v17, v18, v19, v20, v5, rfl, d0, d1, d2, d3, d4, d5, d6, m1, m2, m4, m5, m6, m8, HW⟩ hL hdep K' hK hK0
      have p3 : L 3 = true := hdep { on := 3, ground := Ground.data } (by simp) rfl
      have p2 : L 2 = true := hdep { on := 2, ground := Ground.chain } (by simp) rfl
      have n8 : L 8 = false := not_yet hL (fun q => (m5 ((m8 q).1)))
      have h := (HW.out.1 n8).1
      have h2 := (HW.out.1 n8).2
      have q := d3 p3
      subst q
      have g17 := evT (F 3 17 _ rfl rfl)
      clear F G
      go_simp
      refine (HA1.out _ h.bel).mono ?_
      rintro e w2 ⟨rfl, hb⟩
      have HW2 : Hid ((L 8 = false → R0S w C w2 ∧ w2.heap[w.heap.size]? = some (.cells #[.int .i64 k, .int .u64 n, .string s, .slice a l.length cap] 33 (0, 0))) ∧ (L 7 = true → L 8 = false → ∃ g, (v5 = .pointer (some ⟨g, 0, none⟩) ∧ w.heap.size + 2 ≤ g) ∧ w2.heap[g]? = some (.cells #[.int .i64 0, .int .i64 0, .slice none 0 0, .slice none 0 0, .slice none 0 0, .slice none 0 0] 27 (0, 0))) ∧ (L 8 = true → L 8 = false → True) ∧ (L 8 = true → ∃ g, v5 = .pointer (some ⟨g, 0, none⟩) ∧ RfS w C w2 g pa rg (.slice none 0 0) (.slice none 0 0) (.slice none 0 0) (.slice none 0 0) (.slice none 0 0) (.slice none 0 0) (.slice none 0 0) [] [] [])) := ⟨fun _ => ⟨h.below hb, (hb.block _ (blk_lt h2)).trans h2⟩, fun q r => by obtain ⟨g, e, hg⟩ := HW.out.2.1 q r; exact ⟨g, e, (hb.block _ (blk_lt hg)).trans hg⟩, fun q => absurd q (by rw [n8]; decide), fun q => absurd (q) (by rw [n8]; decide)⟩
      refine hK 4 18 _ w2 rfl ⟨_, _, _, _, _, _, _, _, rfl, d0, d1, d2, d3, (fun _ => rfl), d5, d6, (fun q => laterT (m1 q)), (fun q => laterT (m2 q)), (fun _ => ⟨laterT p2, laterT p3⟩), (fun q => laterT (m5 q)), (fun q => ⟨laterT (m6 q).1, laterT (m6 q).2⟩), (fun q => ⟨laterT (m8 q).1, laterT (m8 q).2.1, laterT (m8 q).2.2⟩), HW2⟩
    · rintro A L vs w' F G ⟨v14, v15, v16, v17, v18, v19, v20, v5, rfl, d0, d1, d2, d3, d4, d5, d6, m1, m2, m4, m5, m6, m8, HW⟩ hL hdep K' hK hK0
      have p4 : L 4 = true := hdep { on := 4, ground := Ground.data } (by simp) rfl
      have n8 : L 8 = false := not_yet hL (fun q => (m8 q).1)
      have h := (HW.out.1 n8).1
      have h2 := (HW.out.1 n8).2
      have q := d4 p4
      subst q
      have g18 := evT (F 4 18 _ rfl rfl)
      clear F G
      go_simp
      refine (HS1.out _ h.bel).mono ?_
      rintro e w2 ⟨rfl, hb⟩
      have HW2 : Hid ((L 8 = false → R0S w C w2 ∧ w2.heap[w.heap.size]? = some (.cells #[.int .i64 k, .int .u64 n, .string s, .slice a l.length cap] 33 (0, 0))) ∧ (L 7 = true → L 8 = false → ∃ g, (v5 = .pointer (some ⟨g, 0, none⟩) ∧ w.heap.size + 2 ≤ g) ∧ w2.heap[g]? = some (.cells #[.int .i64 0, .int .i64 0, .slice none 0 0, .slice none 0 0, .slice none 0 0, .slice none 0 0] 27 (0, 0))) ∧ (L 8 = true → L 8 = false → True) ∧ (L 8 = true → ∃ g, v5 = .pointer (some ⟨g, 0, none⟩) ∧ RfS w C w2 g pa rg (.slice none 0 0) (.slice none 0 0) (.slice none 0 0) (.slice none 0 0) (.slice none 0 0) (.slice none 0 0) (.slice none 0 0) [] [] [])) := ⟨fun _ => ⟨h.below hb, (hb.block _ (blk_lt h2)).trans h2⟩, fun q r => by obtain ⟨g, e, hg⟩ := HW.out.2.1 q r; exact ⟨g, e, (hb.block _ (blk_lt hg)).trans hg⟩, fun q => absurd q (by rw [n8]; decide), fun q => absurd (q) (by rw [n8]; decide)⟩
      refine hK 5 19 _ w2 rfl ⟨_, _, _, _, _, _, _, _, rfl, d0, d1, d2, d3, d4, (fun _ => rfl), d6, (fun q => laterT (m1 q)), (fun q => laterT (m2 q)), (fun q => ⟨laterT (m4 q).1, laterT (m4 q).2⟩), (fun _ => laterT p4), (fun q => ⟨laterT (m6 q).1, laterT (m6 q).2⟩), (fun q => ⟨laterT (m8 q).1, laterT (m8 q).2.1, laterT (m8 q).2.2⟩), HW2⟩
    · rintro A L vs w' F G ⟨v14, v15, v16, v17, v18, v19, v20, v5, rfl, d0, d1, d2, d3, d4, d5, d6, m1, m2, m4, m5, m6, m8, HW⟩ hL hdep K' hK hK0
      have p2 : L 2 = true := hdep { on := 2, ground := Ground.data } (by simp) rfl
      have p5 : L 5 = true := hdep { on := 5, ground := Ground.data } (by simp) rfl
      have q := d2 p2
      subst q
      have g16 := evT (F 2 16 _ rfl rfl)
      have q := d5 p5
      subst q
      have g19 := evT (F 5 19 _ rfl rfl)
      clear F G
      go_simp
      refine hK 6 20 _ w' rfl ⟨_, _, _, _, _, _, _, _, rfl, d0, d1, d2, d3, d4, d5, (fun _ => rfl), (fun q => laterT (m1 q)), (fun q => laterT (m2 q)), (fun q => ⟨laterT (m4 q).1, laterT (m4 q).2⟩), (fun q => laterT (m5 q)), (fun _ => ⟨laterT p2, laterT p5⟩), (fun q => ⟨laterT (m8 q).1, laterT (m8 q).2.1, laterT (m8 q).2.2⟩), HW⟩
    · rintro A L vs w' F G ⟨v14, v15, v16, v17, v18, v19, v20, v5, rfl, d0, d1, d2, d3, d4, d5, d6, m1, m2, m4, m5, m6, m8, HW⟩ hL hdep K' hK hK0
      have n8 : L 8 = false := not_yet hL (fun q => (m8 q).2.2)
      have h := (HW.out.1 n8).1
      have h2 := (HW.out.1 n8).2
      have hb : Below w'.heap.size w' (w'.alloc (.cells #[.int .i64 0, .int .i64 0, .slice none 0 0, .slice none 0 0, .slice none 0 0, .slice none 0 0] 27)) := (Below.refl _ _).alloc (Nat.le_refl _) _
      have HW2 : Hid ((L 8 = false → R0S w C (w'.alloc (.cells #[.int .i64 0, .int .i64 0, .slice none 0 0, .slice none 0 0, .slice none 0 0, .slice none 0 0] 27)) ∧ (w'.alloc (.cells #[.int .i64 0, .int .i64 0, .slice none 0 0, .slice none 0 0, .slice none 0 0, .slice none 0 0] 27)).heap[w.heap.size]? = some (.cells #[.int .i64 k, .int .u64 n, .string s, .slice a l.length cap] 33 (0, 0))) ∧ (true = true → L 8 = false → ∃ g, ((Value.pointer (some ⟨w'.heap.size, 0, none⟩)) = .pointer (some ⟨g, 0, none⟩) ∧ w.heap.size + 2 ≤ g) ∧ (w'.alloc (.cells #[.int .i64 0, .int .i64 0, .slice none 0 0, .slice none 0 0, .slice none 0 0, .slice none 0 0] 27)).heap[g]? = some (.cells #[.int .i64 0, .int .i64 0, .slice none 0 0, .slice none 0 0, .slice none 0 0, .slice none 0 0] 27 (0, 0))) ∧ (L 8 = true → L 8 = false → True) ∧ (L 8 = true → ∃ g, (Value.pointer (some ⟨w'.heap.size, 0, none⟩)) = .pointer (some ⟨g, 0, none⟩) ∧ RfS w C (w'.alloc (.cells #[.int .i64 0, .int .i64 0, .slice none 0 0, .slice none 0 0, .slice none 0 0, .slice none 0 0] 27)) g pa rg (.slice none 0 0) (.slice none 0 0) (.slice none 0 0) (.slice none 0 0) (.slice none 0 0) (.slice none 0 0) (.slice none 0 0) [] [] [])) := ⟨fun _ => ⟨h.below hb, (hb.block _ (blk_lt h2)).trans h2⟩, fun _ _ => ⟨w'.heap.size, ⟨rfl, h.sz⟩, heap_alloc_new _ _⟩, fun q => absurd q (by rw [n8]; decide), fun q => absurd q (by rw [n8]; decide)⟩
      clear F G
      go_simp
      refine hK 7 5 _ _ rfl ⟨_, _, _, _, _, _, _, _, rfl, d0, d1, d2, d3, d4, d5, d6, (fun q => laterT (m1 q)), (fun q => laterT (m2 q)), (fun q => ⟨laterT (m4 q).1, laterT (m4 q).2⟩), (fun q => laterT (m5 q)), (fun q => ⟨laterT (m6 q).1, laterT (m6 q).2⟩), (fun q => ⟨laterT (m8 q).1, laterT (m8 q).2.1, laterT (m8 q).2.2⟩), HW2⟩
    · rintro A L vs w' F G ⟨v14, v15, v16, v17, v18, v19, v20, v5, rfl, d0, d1, d2, d3, d4, d5, d6, m1, m2, m4, m5, m6, m8, HW⟩ hL hdep K' hK hK0
      have p7 : L 7 = true := hdep { on := 7, ground := Ground.data } (by simp) rfl
      have p6 : L 6 = true := hdep { on := 6, ground := Ground.data } (by simp) rfl
      have p5 : L 5 = true := hdep { on := 5, ground := Ground.chain } (by simp) rfl
      have h := (HW.out.1 hL).1
      obtain ⟨g9, ⟨e5, hge⟩, hg⟩ := HW.out.2.1 p7 hL
      subst e5
      obtain ⟨z0, z1, z2, z3, z4, z5⟩ := block6 hg
      have fz0 := Lib.frozen_of_heap hg 0
      have fz1 := Lib.frozen_of_heap hg 1
      have fz2 := Lib.frozen_of_heap hg 2
      have fz3 := Lib.frozen_of_heap hg 3
      have fz4 := Lib.frozen_of_heap hg 4
      have fz5 := Lib.frozen_of_heap hg 5
      have g5 := evT (F 7 5 _ rfl rfl)
      have q := d6 p6
      subst q
      have g20 := evT (F 6 20 _ rfl rfl)
      have HW2 : Hid ((true = false → R0S w C ((((((w'.setCell ⟨g9, 0, none⟩ (.int .i64 pa)).setCell ⟨g9, 1, none⟩ (.int .i64 rg)).setCell ⟨g9, 2, none⟩ (.slice none 0 0)).setCell ⟨g9, 3, none⟩ (.slice none 0 0)).setCell ⟨g9, 4, none⟩ (.slice none 0 0)).setCell ⟨g9, 5, none⟩ (.slice none 0 0)) ∧ ((((((w'.setCell ⟨g9, 0, none⟩ (.int .i64 pa)).setCell ⟨g9, 1, none⟩ (.int .i64 rg)).setCell ⟨g9, 2, none⟩ (.slice none 0 0)).setCell ⟨g9, 3, none⟩ (.slice none 0 0)).setCell ⟨g9, 4, none⟩ (.slice none 0 0)).setCell ⟨g9, 5, none⟩ (.slice none 0 0)).heap[w.heap.size]? = some (.cells #[.int .i64 k, .int .u64 n, .string s, .slice a l.length cap] 33 (0, 0))) ∧ (L 7 = true → true = false → ∃ g, ((Value.pointer (some ⟨g9, 0, none⟩)) = .pointer (some ⟨g, 0, none⟩) ∧ w.heap.size + 2 ≤ g) ∧ ((((((w'.setCell ⟨g9, 0, none⟩ (.int .i64 pa)).setCell ⟨g9, 1, none⟩ (.int .i64 rg)).setCell ⟨g9, 2, none⟩ (.slice none 0 0)).setCell ⟨g9, 3, none⟩ (.slice none 0 0)).setCell ⟨g9, 4, none⟩ (.slice none 0 0)).setCell ⟨g9, 5, none⟩ (.slice none 0 0)).heap[g]? = some (.cells #[.int .i64 0, .int .i64 0, .slice none 0 0, .slice none 0 0, .slice none 0 0, .slice none 0 0] 27 (0, 0))) ∧ (true = true → true = false → True) ∧ (true = true → ∃ g, (Value.pointer (some ⟨g9, 0, none⟩)) = .pointer (some ⟨g, 0, none⟩) ∧ RfS w C ((((((w'.setCell ⟨g9, 0, none⟩ (.int .i64 pa)).setCell ⟨g9, 1, none⟩ (.int .i64 rg)).setCell ⟨g9, 2, none⟩ (.slice none 0 0)).setCell ⟨g9, 3, none⟩ (.slice none 0 0)).setCell ⟨g9, 4, none⟩ (.slice none 0 0)).setCell ⟨g9, 5, none⟩ (.slice none 0 0)) g pa rg (.slice none 0 0) (.slice none 0 0) (.slice none 0 0) (.slice none 0 0) (.slice none 0 0) (.slice none 0 0) (.slice none 0 0) [] [] [])) := ⟨fun q => (by cases q), fun _ q => (by cases q), fun _ _ => trivial, fun _ => ⟨g9, rfl, h.made hg hge⟩⟩
      clear F G
      go_simp
      refine hK0 _ ⟨_, _, _, _, _, _, _, _, rfl, d0, d1, d2, d3, d4, d5, d6, (fun q => laterT (m1 q)), (fun q => laterT (m2 q)), (fun q => ⟨laterT (m4 q).1, laterT (m4 q).2⟩), (fun q => laterT (m5 q)), (fun q => ⟨laterT (m6 q).1, laterT (m6 q).2⟩), (fun _ => ⟨laterT p5, laterT p6, laterT p7⟩), HW2⟩
    · rintro L vs w' hall ⟨v14, v15, v16, v17, v18, v19, v20, v5, rfl, d0, d1, d2, d3, d4, d5, d6, m1, m2, m4, m5, m6, m8, HW⟩
      obtain ⟨bx, e5, h⟩ := HW.out.2.2.2 (hall 8 (by decide))
      subst e5
      have HRF := hide_p h
      clear d0 d1 d2 d3 d4 d5 d6 m1 m2 m4 m5 m6 m8 HW h
      simp only [puts]
      go_simp
      go_step
      go_meet
      exact ⟨bx, rfl, HRF⟩
  case rest =>
    obtain ⟨bx, rfl, HF0⟩ := hcut
    clear x0 x1 x2 x3 HA1' HS1' HB1
    go_wp2_with fail
    go_loopw [6] (fun t6 wr => ∃ (i : Nat) (ua : Option Addr) (uc : Nat) (lu : List _), i ≤ N2 ∧ t6 = .int .i64 i ∧ Hid (lu = ((manyL a2).take i).map rUp) ∧ Hid (RfS w C wr bx pa rg (.slice ua lu.length uc) (.slice none 0 0) (.slice none 0 0) (.slice none 0 0) (.slice ua lu.length uc) (.slice none 0 0) (.slice none 0 0) lu [] [])) (fun t6 _ => N2 - (intOf t6).toNat)
    case atStart => exact ⟨0, none, 0, [], Nat.zero_le _, rfl, rfl, HF0⟩
    case round =>
      obtain ⟨i, ua, uc, lu0, hi, rfl, HLL, HF⟩ := hrel
      obtain ⟨x0, x1, x2, x3⟩ := HCB.out wr HF.out.cb
      go_wp2_with fail
      refine (HA2.out wr HF.out.bel).mono ?_
      rintro e w4 ⟨rfl, hb4⟩
      have HF4 := hide_p (HF.out.below hb4)
      clear hb4 x0 x1 x2 x3
      go_wp2_with fail
      refine (HM2.out w4 HF4.out.bel).mono ?_
      rintro e w5 ⟨rfl, hb5⟩
      have HF5 := hide_p (HF4.out.below hb5)
      obtain ⟨x0, x1, x2, x3⟩ := HCB.out w5 HF5.out.cb
      clear hb5 HF4

      by_cases c : i < N2
      · have i1 : i < (manyL a2).length := by rw [← HN2.out]; exact c
        obtain ⟨ux, HCX, HAX, xk, xn, xs, xa, xm, xc, rfl⟩ := at_in HC2.out i
        obtain ⟨U0, HCU0, HX0, -⟩ := at_in HCX.out 0
        obtain ⟨U1, HCU1, HX1, -⟩ := at_in HCX.out 1
        have HSU0 := sm_in HCU0.out
        have HSU1 := sm_in HCU1.out
        obtain ⟨X, hX⟩ : ∃ X, X = rUp (atT a2 i) := ⟨_, rfl⟩
        obtain ⟨S0, hS0⟩ : ∃ S0, S0 = smT (atT (atT a2 i) 0) := ⟨_, rfl⟩
        obtain ⟨S1, hS1⟩ : ∃ S1, S1 = smT (atT (atT a2 i) 1) := ⟨_, rfl⟩
        have HXE : Hid ([Value.bool X.own, .int .i64 X.pl] = [.bool ((S0 : Int) == 1), .int .i64 S1]) := by
          show _ = _
          rw [hX, hS0, hS1]
          have : (decide (smT (atT (atT a2 i) 0) = 1)) = (((smT (atT (atT a2 i) 0) : Nat) : Int) == 1) := by
            rw [Bool.eq_iff_iff]
            simp only [beq_iff_eq, decide_eq_true_eq]
            omega
          simp only [rUp, this]
        rw [← hS0] at HSU0
        rw [← hS1] at HSU1
        obtain ⟨lu1, hlu1⟩ : ∃ lu1, lu1 = lu0 ++ [X] := ⟨_, rfl⟩
        have HL1 := hide_p hlu1
        have HLN : Hid (lu1 = ((manyL a2).take (i + 1)).map rUp) := by
          show _ = _
          rw [take_rd i1, ← hX, hlu1, HLL.out]
        have hn : lu0.length ≤ 1000000 := by rw [HLL.out, List.length_map, List.length_take]; omega
        clear hlu1 hX HCX hS0 HCU0 hS1 HCU1
        go_wp2_with fail
        refine (HA2.out w5 HF5.out.bel).mono ?_
        rintro e w6 ⟨rfl, hb6⟩
        have HF6 := hide_p (HF5.out.below hb6)
        clear hb6 x0 x1 x2 x3 HF5
        go_wp2_with fail
        refine (HAX.out w6 HF6.out.bel).mono ?_
        rintro e w7 ⟨rfl, hb7⟩
        have HF7 := hide_p (HF6.out.below hb7)
        clear hb7 HF6 HAX
        obtain ⟨w8, hw8⟩ : ∃ w8, w8 = w7.alloc (.cells #[.int .i64 xk, .int .u64 xn, .string xs, .slice xa xm xc] 33) := ⟨_, rfl⟩
        obtain ⟨tb, htb⟩ : ∃ tb, tb = w7.heap.size := ⟨_, rfl⟩
        have HF8 : Hid (RfS w C w8 bx pa rg (.slice ua lu0.length uc) (.slice none 0 0) (.slice none 0 0) (.slice none 0 0) (.slice ua lu0.length uc) (.slice none 0 0) (.slice none 0 0) lu0 [] [] ∧ w8.heap[tb]? = some (.cells #[.int .i64 xk, .int .u64 xn, .string xs, .slice xa xm xc] 33 (0, 0))) := by
          show _ ∧ _
          rw [hw8, htb]
          exact ⟨HF7.out.below ((Below.refl _ _).alloc (Nat.le_refl _) _), heap_alloc_new _ _⟩
        go_upto_region 6 with fail
        rw [← hw8, ← htb]
        have HTB := hide_p (And.intro hw8 htb)
        clear hw8 htb
        refine wp_region_inv2 (by kernel_rfl) [32, 33, 34, 35, 36, 37, 38, 39, 40, 41, 42, 43, 44] (fun L vs w' => ∃ v32 v33 v34 v35 v36 v37 v38 v39 v40 v41 v42 v43 v44, vs = [v32, v33, v34, v35, v36, v37, v38, v39, v40, v41, v42, v43, v44] ∧ (L 0 = true → v32 = (.pointer (some ⟨bx, 2, none⟩))) ∧ (L 1 = true → v33 = .slice ua lu0.length uc) ∧ (L 2 = true → v34 = (.agg #[.int .i64 xk, .int .u64 xn, .string xs, .slice xa xm xc])) ∧ (L 3 = true → v35 = U0) ∧ (L 4 = true → v36 = (.int .i64 S0)) ∧ (L 5 = true → v37 = (.bool ((S0 : Int) == 1))) ∧ (L 6 = true → v38 = (.agg #[.int .i64 xk, .int .u64 xn, .string xs, .slice xa xm xc])) ∧ (L 7 = true → v39 = U1) ∧ (L 8 = true → v40 = (.int .i64 S1)) ∧ (L 9 = true → v41 = (.agg #[.bool ((S0 : Int) == 1), .int .i64 S1])) ∧ (L 12 = true → v44 = (.pointer (some ⟨bx, 2, none⟩))) ∧ (L 1 = true → L 0 = true) ∧ (L 3 = true → L 2 = true) ∧ (L 4 = true → L 3 = true) ∧ (L 5 = true → L 4 = true) ∧ (L 7 = true → L 4 = true ∧ L 6 = true) ∧ (L 8 = true → L 7 = true) ∧ (L 9 = true → L 5 = true ∧ L 8 = true) ∧ (L 10 = true → L 9 = true) ∧ (L 11 = true → L 1 = true ∧ L 8 = true ∧ L 10 = true) ∧ (L 13 = true → L 11 = true ∧ L 12 = true) ∧ Hid ((L 11 = false → RfS w C w' bx pa rg (.slice ua lu0.length uc) (.slice none 0 0) (.slice none 0 0) (.slice none 0 0) (.slice ua lu0.length uc) (.slice none 0 0) (.slice none 0 0) lu0 [] [] ∧ w'.heap[tb]? = some (.cells #[.int .i64 xk, .int .u64 xn, .string xs, .slice xa xm xc] 33 (0, 0))) ∧ (L 10 = true → L 11 = false → ∃ g, v42 = .slice (some ⟨g, 0, none⟩) 1 1 ∧ w'.heap[g]? = some (.cells #[.bool ((S0 : Int) == 1), .int .i64 S1] 54 (0, 0))) ∧ (L 11 = true → L 13 = false → RfS w C w' bx pa rg (.slice ua lu0.length uc) (.slice none 0 0) (.slice none 0 0) (.slice none 0 0) v43 (.slice none 0 0) (.slice none 0 0) lu1 [] []) ∧ (L 13 = true → RfS w C w' bx pa rg v43 (.slice none 0 0) (.slice none 0 0) (.slice none 0 0) v43 (.slice none 0 0) (.slice none 0 0) lu1 [] []))) (by kernel_rfl) (by decide) (by simp) ?_ ⟨?_, ?_, ?_, ?_, ?_, ?_, ?_, ?_, ?_, ?_, ?_, ?_, ?_, ?_, trivial⟩ ?_
        · exact ⟨_, _, _, _, _, _, _, _, _, _, _, _, _, rfl, fun q => by (cases q), fun q => by (cases q), fun q => by (cases q), fun q => by (cases q), fun q => by (cases q), fun q => by (cases q), fun q => by (cases q), fun q => by (cases q), fun q => by (cases q), fun q => by (cases q), fun q => by (cases q), fun q => by (cases q), fun q => by (cases q), fun q => by (cases q), fun q => by (cases q), fun q => by (cases q), fun q => by (cases q), fun q => by (cases q), fun q => by (cases q), fun q => by (cases q), fun q => by (cases q), ⟨fun _ => ⟨HF8.out.1.below (Below.refl _ _).drew, HF8.out.2⟩, fun q => (by cases q), fun q => (by cases q), fun q => (by cases q)⟩⟩
        · rintro A L vs w' F G ⟨v32, v33, v34, v35, v36, v37, v38, v39, v40, v41, v42, v43, v44, rfl, d0, d1, d2, d3, d4, d5, d6, d7, d8, d9, d12, m1, m3, m4, m5, m7, m8, m9, m10, m11, m13, HW⟩ hL hdep K' hK hK0
          have g5 : A.tmps[5]?.getD undef = .pointer (some ⟨bx, 0, none⟩) := evT ((G 5 (by decide)).trans rfl)
          clear F G
          go_simp
          refine hK 0 32 _ w' rfl ⟨_, _, _, _, _, _, _, _, _, _, _, _, _, rfl, (fun _ => rfl), d1, d2, d3, d4, d5, d6, d7, d8, d9, d12, (fun q => laterT (m1 q)), (fun q => laterT (m3 q)), (fun q => laterT (m4 q)), (fun q => laterT (m5 q)), (fun q => ⟨laterT (m7 q).1, laterT (m7 q).2⟩), (fun q => laterT (m8 q)), (fun q => ⟨laterT (m9 q).1, laterT (m9 q).2⟩), (fun q => laterT (m10 q)), (fun q => ⟨laterT (m11 q).1, laterT (m11 q).2.1, laterT (m11 q).2.2⟩), (fun q => ⟨laterT (m13 q).1, laterT (m13 q).2⟩), HW⟩
        · rintro A L vs w' F G ⟨v32, v33, v34, v35, v36, v37, v38, v39, v40, v41, v42, v43, v44, rfl, d0, d1, d2, d3, d4, d5, d6, d7, d8, d9, d12, m1, m3, m4, m5, m7, m8, m9, m10, m11, m13, HW⟩ hL hdep K' hK hK0
          have p0 : L 0 = true := hdep { on := 0, ground := Ground.data } (by simp) rfl
          have n11 : L 11 = false := not_yet hL (fun q => (m11 q).1)
          have h := (HW.out.1 n11).1
          have b0 : w'.cell? ⟨bx, 2, none⟩ = some (.slice ua lu0.length uc) := by rw [Lib.cell_of_heap h.blk]; rfl
          have q := d0 p0
          subst q
          have g32 := evT (F 0 32 _ rfl rfl)
          clear F G
          go_simp
          refine hK 1 33 _ w' rfl ⟨_, _, _, _, _, _, _, _, _, _, _, _, _, rfl, d0, (fun _ => rfl), d2, d3, d4, d5, d6, d7, d8, d9, d12, (fun _ => laterT p0), (fun q => laterT (m3 q)), (fun q => laterT (m4 q)), (fun q => laterT (m5 q)), (fun q => ⟨laterT (m7 q).1, laterT (m7 q).2⟩), (fun q => laterT (m8 q)), (fun q => ⟨laterT (m9 q).1, laterT (m9 q).2⟩), (fun q => laterT (m10 q)), (fun q => ⟨laterT (m11 q).1, laterT (m11 q).2.1, laterT (m11 q).2.2⟩), (fun q => ⟨laterT (m13 q).1, laterT (m13 q).2⟩), HW⟩
        · rintro A L vs w' F G ⟨v32, v33, v34, v35, v36, v37, v38, v39, v40, v41, v42, v43, v44, rfl, d0, d1, d2, d3, d4, d5, d6, d7, d8, d9, d12, m1, m3, m4, m5, m7, m8, m9, m10, m11, m13, HW⟩ hL hdep K' hK hK0
          have n11 : L 11 = false := not_yet hL (fun q => (m3 ((m4 ((m7 ((m8 ((m11 q).2.1)))).1)))))
          have h := (HW.out.1 n11).2
          obtain ⟨b0, b1, b2, b3⟩ := block4 h
          have gt : A.tmps[7]?.getD undef = .pointer (some ⟨tb, 0, none⟩) := evT ((G 7 (by decide)).trans rfl)
          clear F G
          go_simp
          refine hK 2 34 _ w' rfl ⟨_, _, _, _, _, _, _, _, _, _, _, _, _, rfl, d0, d1, (fun _ => rfl), d3, d4, d5, d6, d7, d8, d9, d12, (fun q => laterT (m1 q)), (fun q => laterT (m3 q)), (fun q => laterT (m4 q)), (fun q => laterT (m5 q)), (fun q => ⟨laterT (m7 q).1, laterT (m7 q).2⟩), (fun q => laterT (m8 q)), (fun q => ⟨laterT (m9 q).1, laterT (m9 q).2⟩), (fun q => laterT (m10 q)), (fun q => ⟨laterT (m11 q).1, laterT (m11 q).2.1, laterT (m11 q).2.2⟩), (fun q => ⟨laterT (m13 q).1, laterT (m13 q).2⟩), HW⟩
        · rintro A L vs w' F G ⟨v32, v33, v34, v35, v36, v37, v38, v39, v40, v41, v42, v43, v44, rfl, d0, d1, d2, d3, d4, d5, d6, d7, d8, d9, d12, m1, m3, m4, m5, m7, m8, m9, m10, m11, m13, HW⟩ hL hdep K' hK hK0
          have p2 : L 2 = true := hdep { on := 2, ground := Ground.data } (by simp) rfl
          have n11 : L 11 = false := not_yet hL (fun q => (m4 ((m7 ((m8 ((m11 q).2.1)))).1)))
          have h := (HW.out.1 n11).1
          have h2 := (HW.out.1 n11).2
          have q := d2 p2
          subst q
          have g34 := evT (F 2 34 _ rfl rfl)
          clear F G
          go_simp
          refine (HX0.out _ h.bel).mono ?_
          rintro e w2 ⟨rfl, hb⟩
          have HW2 : Hid ((L 11 = false → RfS w C w2 bx pa rg (.slice ua lu0.length uc) (.slice none 0 0) (.slice none 0 0) (.slice none 0 0) (.slice ua lu0.length uc) (.slice none 0 0) (.slice none 0 0) lu0 [] [] ∧ w2.heap[tb]? = some (.cells #[.int .i64 xk, .int .u64 xn, .string xs, .slice xa xm xc] 33 (0, 0))) ∧ (L 10 = true → L 11 = false → ∃ g, v42 = .slice (some ⟨g, 0, none⟩) 1 1 ∧ w2.heap[g]? = some (.cells #[.bool ((S0 : Int) == 1), .int .i64 S1] 54 (0, 0))) ∧ (L 11 = true → L 13 = false → RfS w C w2 bx pa rg (.slice ua lu0.length uc) (.slice none 0 0) (.slice none 0 0) (.slice none 0 0) v43 (.slice none 0 0) (.slice none 0 0) lu1 [] []) ∧ (L 13 = true → RfS w C w2 bx pa rg v43 (.slice none 0 0) (.slice none 0 0) (.slice none 0 0) v43 (.slice none 0 0) (.slice none 0 0) lu1 [] [])) := ⟨fun _ => ⟨h.below hb, (hb.block _ (blk_lt h2)).trans h2⟩, fun q r => by obtain ⟨g, e, hg⟩ := HW.out.2.1 q r; exact ⟨g, e, (hb.block _ (blk_lt hg)).trans hg⟩, fun q => absurd q (by rw [n11]; decide), fun q => absurd ((m13 q).1) (by rw [n11]; decide)⟩
          refine hK 3 35 _ w2 rfl ⟨_, _, _, _, _, _, _, _, _, _, _, _, _, rfl, d0, d1, d2, (fun _ => rfl), d4, d5, d6, d7, d8, d9, d12, (fun q => laterT (m1 q)), (fun _ => laterT p2), (fun q => laterT (m4 q)), (fun q => laterT (m5 q)), (fun q => ⟨laterT (m7 q).1, laterT (m7 q).2⟩), (fun q => laterT (m8 q)), (fun q => ⟨laterT (m9 q).1, laterT (m9 q).2⟩), (fun q => laterT (m10 q)), (fun q => ⟨laterT (m11 q).1, laterT (m11 q).2.1, laterT (m11 q).2.2⟩), (fun q => ⟨laterT (m13 q).1, laterT (m13 q).2⟩), HW2⟩
        · rintro A L vs w' F G ⟨v32, v33, v34, v35, v36, v37, v38, v39, v40, v41, v42, v43, v44, rfl, d0, d1, d2, d3, d4, d5, d6, d7, d8, d9, d12, m1, m3, m4, m5, m7, m8, m9, m10, m11, m13, HW⟩ hL hdep K' hK hK0
          have p3 : L 3 = true := hdep { on := 3, ground := Ground.data } (by simp) rfl
          have n11 : L 11 = false := not_yet hL (fun q => (m7 ((m8 ((m11 q).2.1)))).1)
          have h := (HW.out.1 n11).1
          have h2 := (HW.out.1 n11).2
          have q := d3 p3
          subst q
          have g35 := evT (F 3 35 _ rfl rfl)
          clear F G
          go_simp
          refine (HSU0.out _ h.bel).mono ?_
          rintro e w2 ⟨rfl, hb⟩
          have HW2 : Hid ((L 11 = false → RfS w C w2 bx pa rg (.slice ua lu0.length uc) (.slice none 0 0) (.slice none 0 0) (.slice none 0 0) (.slice ua lu0.length uc) (.slice none 0 0) (.slice none 0 0) lu0 [] [] ∧ w2.heap[tb]? = some (.cells #[.int .i64 xk, .int .u64 xn, .string xs, .slice xa xm xc] 33 (0, 0))) ∧ (L 10 = true → L 11 = false → ∃ g, v42 = .slice (some ⟨g, 0, none⟩) 1 1 ∧ w2.heap[g]? = some (.cells #[.bool ((S0 : Int) == 1), .int .i64 S1] 54 (0, 0))) ∧ (L 11 = true → L 13 = false → RfS w C w2 bx pa rg (.slice ua lu0.length uc) (.slice none 0 0) (.slice none 0 0) (.slice none 0 0) v43 (.slice none 0 0) (.slice none 0 0) lu1 [] []) ∧ (L 13 = true → RfS w C w2 bx pa rg v43 (.slice none 0 0) (.slice none 0 0) (.slice none 0 0) v43 (.slice none 0 0) (.slice none 0 0) lu1 [] [])) := ⟨fun _ => ⟨h.below hb, (hb.block _ (blk_lt h2)).trans h2⟩, fun q r => by obtain ⟨g, e, hg⟩ := HW.out.2.1 q r; exact ⟨g, e, (hb.block _ (blk_lt hg)).trans hg⟩, fun q => absurd q (by rw [n11]; decide), fun q => absurd ((m13 q).1) (by rw [n11]; decide)⟩
          refine hK 4 36 _ w2 rfl ⟨_, _, _, _, _, _, _, _, _, _, _, _, _, rfl, d0, d1, d2, d3, (fun _ => rfl), d5, d6, d7, d8, d9, d12, (fun q => laterT (m1 q)), (fun q => laterT (m3 q)), (fun _ => laterT p3), (fun q => laterT (m5 q)), (fun q => ⟨laterT (m7 q).1, laterT (m7 q).2⟩), (fun q => laterT (m8 q)), (fun q => ⟨laterT (m9 q).1, laterT (m9 q).2⟩), (fun q => laterT (m10 q)), (fun q => ⟨laterT (m11 q).1, laterT (m11 q).2.1, laterT (m11 q).2.2⟩), (fun q => ⟨laterT (m13 q).1, laterT (m13 q).2⟩), HW2⟩
        · rintro A L vs w' F G ⟨v32, v33, v34, v35, v36, v37, v38, v39, v40, v41, v42, v43, v44, rfl, d0, d1, d2, d3, d4, d5, d6, d7, d8, d9, d12, m1, m3, m4, m5, m7, m8, m9, m10, m11, m13, HW⟩ hL hdep K' hK hK0
          have p4 : L 4 = true := hdep { on := 4, ground := Ground.data } (by simp) rfl
          have q := d4 p4
          subst q
          have g36 := evT (F 4 36 _ rfl rfl)
          clear F G
          go_simp
          refine hK 5 37 _ w' rfl ⟨_, _, _, _, _, _, _, _, _, _, _, _, _, rfl, d0, d1, d2, d3, d4, (fun _ => rfl), d6, d7, d8, d9, d12, (fun q => laterT (m1 q)), (fun q => laterT (m3 q)), (fun q => laterT (m4 q)), (fun _ => laterT p4), (fun q => ⟨laterT (m7 q).1, laterT (m7 q).2⟩), (fun q => laterT (m8 q)), (fun q => ⟨laterT (m9 q).1, laterT (m9 q).2⟩), (fun q => laterT (m10 q)), (fun q => ⟨laterT (m11 q).1, laterT (m11 q).2.1, laterT (m11 q).2.2⟩), (fun q => ⟨laterT (m13 q).1, laterT (m13 q).2⟩), HW⟩
        · rintro A L vs w' F G ⟨v32, v33, v34, v35, v36, v37, v38, v39, v40, v41, v42, v43, v44, rfl, d0, d1, d2, d3, d4, d5, d6, d7, d8, d9, d12, m1, m3, m4, m5, m7, m8, m9, m10, m11, m13, HW⟩ hL hdep K' hK hK0
          have n11 : L 11 = false := not_yet hL (fun q => (m7 ((m8 ((m11 q).2.1)))).2)
          have h := (HW.out.1 n11).2
          obtain ⟨b0, b1, b2, b3⟩ := block4 h
          have gt : A.tmps[7]?.getD undef = .pointer (some ⟨tb, 0, none⟩) := evT ((G 7 (by decide)).trans rfl)
          clear F G
          go_simp
          refine hK 6 38 _ w' rfl ⟨_, _, _, _, _, _, _, _, _, _, _, _, _, rfl, d0, d1, d2, d3, d4, d5, (fun _ => rfl), d7, d8, d9, d12, (fun q => laterT (m1 q)), (fun q => laterT (m3 q)), (fun q => laterT (m4 q)), (fun q => laterT (m5 q)), (fun q => ⟨laterT (m7 q).1, laterT (m7 q).2⟩), (fun q => laterT (m8 q)), (fun q => ⟨laterT (m9 q).1, laterT (m9 q).2⟩), (fun q => laterT (m10 q)), (fun q => ⟨laterT (m11 q).1, laterT (m11 q).2.1, laterT (m11 q).2.2⟩), (fun q => ⟨laterT (m13 q).1, laterT (m13 q).2⟩), HW⟩
        · rintro A L vs w' F G ⟨v32, v33, v34, v35, v36, v37, v38, v39, v40, v41, v42, v43, v44, rfl, d0, d1, d2, d3, d4, d5, d6, d7, d8, d9, d12, m1, m3, m4, m5, m7, m8, m9, m10, m11, m13, HW⟩ hL hdep K' hK hK0
          have p6 : L 6 = true := hdep { on := 6, ground := Ground.data } (by simp) rfl
          have p4 : L 4 = true := hdep { on := 4, ground := Ground.chain } (by simp) rfl
          have n11 : L 11 = false := not_yet hL (fun q => (m8 ((m11 q).2.1)))
          have h := (HW.out.1 n11).1
          have h2 := (HW.out.1 n11).2
          have q := d6 p6
          subst q
          have g38 := evT (F 6 38 _ rfl rfl)
          clear F G
          go_simp
          refine (HX1.out _ h.bel).mono ?_
          rintro e w2 ⟨rfl, hb⟩
          have HW2 : Hid ((L 11 = false → RfS w C w2 bx pa rg (.slice ua lu0.length uc) (.slice none 0 0) (.slice none 0 0) (.slice none 0 0) (.slice ua lu0.length uc) (.slice none 0 0) (.slice none 0 0) lu0 [] [] ∧ w2.heap[tb]? = some (.cells #[.int .i64 xk, .int .u64 xn, .string xs, .slice xa xm xc] 33 (0, 0))) ∧ (L 10 = true → L 11 = false → ∃ g, v42 = .slice (some ⟨g, 0, none⟩) 1 1 ∧ w2.heap[g]? = some (.cells #[.bool ((S0 : Int) == 1), .int .i64 S1] 54 (0, 0))) ∧ (L 11 = true → L 13 = false → RfS w C w2 bx pa rg (.slice ua lu0.length uc) (.slice none 0 0) (.slice none 0 0) (.slice none 0 0) v43 (.slice none 0 0) (.slice none 0 0) lu1 [] []) ∧ (L 13 = true → RfS w C w2 bx pa rg v43 (.slice none 0 0) (.slice none 0 0) (.slice none 0 0) v43 (.slice none 0 0) (.slice none 0 0) lu1 [] [])) := ⟨fun _ => ⟨h.below hb, (hb.block _ (blk_lt h2)).trans h2⟩, fun q r => by obtain ⟨g, e, hg⟩ := HW.out.2.1 q r; exact ⟨g, e, (hb.block _ (blk_lt hg)).trans hg⟩, fun q => absurd q (by rw [n11]; decide), fun q => absurd ((m13 q).1) (by rw [n11]; decide)⟩
          refine hK 7 39 _ w2 rfl ⟨_, _, _, _, _, _, _, _, _, _, _, _, _, rfl, d0, d1, d2, d3, d4, d5, d6, (fun _ => rfl), d8, d9, d12, (fun q => laterT (m1 q)), (fun q => laterT (m3 q)), (fun q => laterT (m4 q)), (fun q => laterT (m5 q)), (fun _ => ⟨laterT p4, laterT p6⟩), (fun q => laterT (m8 q)), (fun q => ⟨laterT (m9 q).1, laterT (m9 q).2⟩), (fun q => laterT (m10 q)), (fun q => ⟨laterT (m11 q).1, laterT (m11 q).2.1, laterT (m11 q).2.2⟩), (fun q => ⟨laterT (m13 q).1, laterT (m13 q).2⟩), HW2⟩
        · rintro A L vs w' F G ⟨v32, v33, v34, v35, v36, v37, v38, v39, v40, v41, v42, v43, v44, rfl, d0, d1, d2, d3, d4, d5, d6, d7, d8, d9, d12, m1, m3, m4, m5, m7, m8, m9, m10, m11, m13, HW⟩ hL hdep K' hK hK0
          have p7 : L 7 = true := hdep { on := 7, ground := Ground.data } (by simp) rfl
          have n11 : L 11 = false := not_yet hL (fun q => (m11 q).2.1)
          have h := (HW.out.1 n11).1
          have h2 := (HW.out.1 n11).2
          have q := d7 p7
          subst q
          have g39 := evT (F 7 39 _ rfl rfl)
          clear F G
          go_simp
          refine (HSU1.out _ h.bel).mono ?_
          rintro e w2 ⟨rfl, hb⟩
          have HW2 : Hid ((L 11 = false → RfS w C w2 bx pa rg (.slice ua lu0.length uc) (.slice none 0 0) (.slice none 0 0) (.slice none 0 0) (.slice ua lu0.length uc) (.slice none 0 0) (.slice none 0 0) lu0 [] [] ∧ w2.heap[tb]? = some (.cells #[.int .i64 xk, .int .u64 xn, .string xs, .slice xa xm xc] 33 (0, 0))) ∧ (L 10 = true → L 11 = false → ∃ g, v42 = .slice (some ⟨g, 0, none⟩) 1 1 ∧ w2.heap[g]? = some (.cells #[.bool ((S0 : Int) == 1), .int .i64 S1] 54 (0, 0))) ∧ (L 11 = true → L 13 = false → RfS w C w2 bx pa rg (.slice ua lu0.length uc) (.slice none 0 0) (.slice none 0 0) (.slice none 0 0) v43 (.slice none 0 0) (.slice none 0 0) lu1 [] []) ∧ (L 13 = true → RfS w C w2 bx pa rg v43 (.slice none 0 0) (.slice none 0 0) (.slice none 0 0) v43 (.slice none 0 0) (.slice none 0 0) lu1 [] [])) := ⟨fun _ => ⟨h.below hb, (hb.block _ (blk_lt h2)).trans h2⟩, fun q r => by obtain ⟨g, e, hg⟩ := HW.out.2.1 q r; exact ⟨g, e, (hb.block _ (blk_lt hg)).trans hg⟩, fun q => absurd q (by rw [n11]; decide), fun q => absurd ((m13 q).1) (by rw [n11]; decide)⟩
          refine hK 8 40 _ w2 rfl ⟨_, _, _, _, _, _, _, _, _, _, _, _, _, rfl, d0, d1, d2, d3, d4, d5, d6, d7, (fun _ => rfl), d9, d12, (fun q => laterT (m1 q)), (fun q => laterT (m3 q)), (fun q => laterT (m4 q)), (fun q => laterT (m5 q)), (fun q => ⟨laterT (m7 q).1, laterT (m7 q).2⟩), (fun _ => laterT p7), (fun q => ⟨laterT (m9 q).1, laterT (m9 q).2⟩), (fun q => laterT (m10 q)), (fun q => ⟨laterT (m11 q).1, laterT (m11 q).2.1, laterT (m11 q).2.2⟩), (fun q => ⟨laterT (m13 q).1, laterT (m13 q).2⟩), HW2⟩
        · rintro A L vs w' F G ⟨v32, v33, v34, v35, v36, v37, v38, v39, v40, v41, v42, v43, v44, rfl, d0, d1, d2, d3, d4, d5, d6, d7, d8, d9, d12, m1, m3, m4, m5, m7, m8, m9, m10, m11, m13, HW⟩ hL hdep K' hK hK0
          have p5 : L 5 = true := hdep { on := 5, ground := Ground.data } (by simp) rfl
          have p8 : L 8 = true := hdep { on := 8, ground := Ground.data } (by simp) rfl
          have q := d5 p5
          subst q
          have g37 := evT (F 5 37 _ rfl rfl)
          have q := d8 p8
          subst q
          have g40 := evT (F 8 40 _ rfl rfl)
          clear F G
          go_simp
          refine hK 9 41 _ w' rfl ⟨_, _, _, _, _, _, _, _, _, _, _, _, _, rfl, d0, d1, d2, d3, d4, d5, d6, d7, d8, (fun _ => rfl), d12, (fun q => laterT (m1 q)), (fun q => laterT (m3 q)), (fun q => laterT (m4 q)), (fun q => laterT (m5 q)), (fun q => ⟨laterT (m7 q).1, laterT (m7 q).2⟩), (fun q => laterT (m8 q)), (fun _ => ⟨laterT p5, laterT p8⟩), (fun q => laterT (m10 q)), (fun q => ⟨laterT (m11 q).1, laterT (m11 q).2.1, laterT (m11 q).2.2⟩), (fun q => ⟨laterT (m13 q).1, laterT (m13 q).2⟩), HW⟩
        · rintro A L vs w' F G ⟨v32, v33, v34, v35, v36, v37, v38, v39, v40, v41, v42, v43, v44, rfl, d0, d1, d2, d3, d4, d5, d6, d7, d8, d9, d12, m1, m3, m4, m5, m7, m8, m9, m10, m11, m13, HW⟩ hL hdep K' hK hK0
          have p9 : L 9 = true := hdep { on := 9, ground := Ground.data } (by simp) rfl
          have n11 : L 11 = false := not_yet hL (fun q => (m11 q).2.2)
          have h := (HW.out.1 n11).1
          have h2 := (HW.out.1 n11).2
          have q := d9 p9
          subst q
          have g41 := evT (F 9 41 _ rfl rfl)
          have hb : Below w'.heap.size w' (w'.alloc (.cells #[.bool ((S0 : Int) == 1), .int .i64 S1] 54)) := (Below.refl _ _).alloc (Nat.le_refl _) _
          have HW2 : Hid ((L 11 = false → RfS w C (w'.alloc (.cells #[.bool ((S0 : Int) == 1), .int .i64 S1] 54)) bx pa rg (.slice ua lu0.length uc) (.slice none 0 0) (.slice none 0 0) (.slice none 0 0) (.slice ua lu0.length uc) (.slice none 0 0) (.slice none 0 0) lu0 [] [] ∧ (w'.alloc (.cells #[.bool ((S0 : Int) == 1), .int .i64 S1] 54)).heap[tb]? = some (.cells #[.int .i64 xk, .int .u64 xn, .string xs, .slice xa xm xc] 33 (0, 0))) ∧ (true = true → L 11 = false → ∃ g, (Value.slice (some ⟨w'.heap.size, 0, none⟩) 1 1) = .slice (some ⟨g, 0, none⟩) 1 1 ∧ (w'.alloc (.cells #[.bool ((S0 : Int) == 1), .int .i64 S1] 54)).heap[g]? = some (.cells #[.bool ((S0 : Int) == 1), .int .i64 S1] 54 (0, 0))) ∧ (L 11 = true → L 13 = false → RfS w C (w'.alloc (.cells #[.bool ((S0 : Int) == 1), .int .i64 S1] 54)) bx pa rg (.slice ua lu0.length uc) (.slice none 0 0) (.slice none 0 0) (.slice none 0 0) v43 (.slice none 0 0) (.slice none 0 0) lu1 [] []) ∧ (L 13 = true → RfS w C (w'.alloc (.cells #[.bool ((S0 : Int) == 1), .int .i64 S1] 54)) bx pa rg v43 (.slice none 0 0) (.slice none 0 0) (.slice none 0 0) v43 (.slice none 0 0) (.slice none 0 0) lu1 [] [])) := ⟨fun _ => ⟨h.below hb, (hb.block _ (blk_lt h2)).trans h2⟩, fun _ _ => ⟨w'.heap.size, rfl, heap_alloc_new _ _⟩, fun q => absurd q (by rw [n11]; decide), fun q => absurd ((m13 q).1) (by rw [n11]; decide)⟩
          clear F G
          go_simp
          refine hK 10 42 _ _ rfl ⟨_, _, _, _, _, _, _, _, _, _, _, _, _, rfl, d0, d1, d2, d3, d4, d5, d6, d7, d8, d9, d12, (fun q => laterT (m1 q)), (fun q => laterT (m3 q)), (fun q => laterT (m4 q)), (fun q => laterT (m5 q)), (fun q => ⟨laterT (m7 q).1, laterT (m7 q).2⟩), (fun q => laterT (m8 q)), (fun q => ⟨laterT (m9 q).1, laterT (m9 q).2⟩), (fun _ => laterT p9), (fun q => ⟨laterT (m11 q).1, laterT (m11 q).2.1, laterT (m11 q).2.2⟩), (fun q => ⟨laterT (m13 q).1, laterT (m13 q).2⟩), HW2⟩
        · rintro A L vs w' F G ⟨v32, v33, v34, v35, v36, v37, v38, v39, v40, v41, v42, v43, v44, rfl, d0, d1, d2, d3, d4, d5, d6, d7, d8, d9, d12, m1, m3, m4, m5, m7, m8, m9, m10, m11, m13, HW⟩ hL hdep K' hK hK0
          have p1 : L 1 = true := hdep { on := 1, ground := Ground.data } (by simp) rfl
          have p10 : L 10 = true := hdep { on := 10, ground := Ground.data } (by simp) rfl
          have p8 : L 8 = true := hdep { on := 8, ground := Ground.chain } (by simp) rfl
          have n13 : L 13 = false := not_yet hL (fun q => (m13 q).1)
          have h := (HW.out.1 hL).1
          have h2 := (HW.out.1 hL).2
          obtain ⟨g9, e42, hg⟩ := HW.out.2.1 p10 hL
          subst e42
          have q := d1 p1
          subst q
          have hB := h.sz
          refine step_append_src w' rfl (.tmp 33) (.tmp 42) 22 rfl (w.heap.size + 2) 54 iu0 _ 2 16 Tryd.underlying22 iu1 iu2 iu3 iu4 rfl (by decide) (.slice ua lu0.length uc) lu0.length _ (F 1 33 _ rfl rfl) h.ru (.slice (some ⟨g9, 0, none⟩) 1 1) 1 _ (F 10 42 _ rfl rfl) (src_one hg rfl (by intro u hu; simp at hu; rcases hu with rfl | rfl <;> rfl)) (by unfold maxLen; omega) (by omega) (by omega) ?_
          intro a' c' w2 q1 q2 q3
          have h4 := h.appU (x := X) (by rw [HXE.out]; exact q1) q2
          rw [← HL1.out] at h4
          have HW2 : Hid ((true = false → RfS w C w2 bx pa rg (.slice ua lu0.length uc) (.slice none 0 0) (.slice none 0 0) (.slice none 0 0) (.slice ua lu0.length uc) (.slice none 0 0) (.slice none 0 0) lu0 [] [] ∧ w2.heap[tb]? = some (.cells #[.int .i64 xk, .int .u64 xn, .string xs, .slice xa xm xc] 33 (0, 0))) ∧ (L 10 = true → true = false → ∃ g, (Value.slice (some ⟨g9, 0, none⟩) 1 1) = .slice (some ⟨g, 0, none⟩) 1 1 ∧ w2.heap[g]? = some (.cells #[.bool ((S0 : Int) == 1), .int .i64 S1] 54 (0, 0))) ∧ (true = true → L 13 = false → RfS w C w2 bx pa rg (.slice ua lu0.length uc) (.slice none 0 0) (.slice none 0 0) (.slice none 0 0) (.slice a' (lu0.length + 1) c') (.slice none 0 0) (.slice none 0 0) lu1 [] []) ∧ (L 13 = true → RfS w C w2 bx pa rg (.slice a' (lu0.length + 1) c') (.slice none 0 0) (.slice none 0 0) (.slice none 0 0) (.slice a' (lu0.length + 1) c') (.slice none 0 0) (.slice none 0 0) lu1 [] [])) := ⟨fun q => (by cases q), fun _ q => (by cases q), fun _ _ => h4, fun q => absurd q (by rw [n13]; decide)⟩
          refine hK 11 43 _ w2 rfl ⟨_, _, _, _, _, _, _, _, _, _, _, _, _, rfl, d0, d1, d2, d3, d4, d5, d6, d7, d8, d9, d12, (fun q => laterT (m1 q)), (fun q => laterT (m3 q)), (fun q => laterT (m4 q)), (fun q => laterT (m5 q)), (fun q => ⟨laterT (m7 q).1, laterT (m7 q).2⟩), (fun q => laterT (m8 q)), (fun q => ⟨laterT (m9 q).1, laterT (m9 q).2⟩), (fun q => laterT (m10 q)), (fun _ => ⟨laterT p1, laterT p8, laterT p10⟩), (fun q => ⟨laterT (m13 q).1, laterT (m13 q).2⟩), HW2⟩
        · rintro A L vs w' F G ⟨v32, v33, v34, v35, v36, v37, v38, v39, v40, v41, v42, v43, v44, rfl, d0, d1, d2, d3, d4, d5, d6, d7, d8, d9, d12, m1, m3, m4, m5, m7, m8, m9, m10, m11, m13, HW⟩ hL hdep K' hK hK0
          have g5 : A.tmps[5]?.getD undef = .pointer (some ⟨bx, 0, none⟩) := evT ((G 5 (by decide)).trans rfl)
          clear F G
          go_simp
          refine hK 12 44 _ w' rfl ⟨_, _, _, _, _, _, _, _, _, _, _, _, _, rfl, d0, d1, d2, d3, d4, d5, d6, d7, d8, d9, (fun _ => rfl), (fun q => laterT (m1 q)), (fun q => laterT (m3 q)), (fun q => laterT (m4 q)), (fun q => laterT (m5 q)), (fun q => ⟨laterT (m7 q).1, laterT (m7 q).2⟩), (fun q => laterT (m8 q)), (fun q => ⟨laterT (m9 q).1, laterT (m9 q).2⟩), (fun q => laterT (m10 q)), (fun q => ⟨laterT (m11 q).1, laterT (m11 q).2.1, laterT (m11 q).2.2⟩), (fun q => ⟨laterT (m13 q).1, laterT (m13 q).2⟩), HW⟩
        · rintro A L vs w' F G ⟨v32, v33, v34, v35, v36, v37, v38, v39, v40, v41, v42, v43, v44, rfl, d0, d1, d2, d3, d4, d5, d6, d7, d8, d9, d12, m1, m3, m4, m5, m7, m8, m9, m10, m11, m13, HW⟩ hL hdep K' hK hK0
          have p12 : L 12 = true := hdep { on := 12, ground := Ground.data } (by simp) rfl
          have p11 : L 11 = true := hdep { on := 11, ground := Ground.data } (by simp) rfl
          have h := HW.out.2.2.1 p11 hL
          obtain ⟨ax, cx, ex⟩ := owns_form h.ru
          subst ex
          have cc : ∃ u, w'.cell? ⟨bx, 2, none⟩ = some u := ⟨_, by rw [Lib.cell_of_heap h.blk]; rfl⟩
          obtain ⟨uu, cc⟩ := cc
          have fz := Lib.frozen_of_heap h.blk 2
          have HW2 : Hid ((L 11 = false → RfS w C (w'.setCell ⟨bx, 2, none⟩ (Value.slice ax lu1.length cx)) bx pa rg (.slice ua lu0.length uc) (.slice none 0 0) (.slice none 0 0) (.slice none 0 0) (.slice ua lu0.length uc) (.slice none 0 0) (.slice none 0 0) lu0 [] [] ∧ (w'.setCell ⟨bx, 2, none⟩ (Value.slice ax lu1.length cx)).heap[tb]? = some (.cells #[.int .i64 xk, .int .u64 xn, .string xs, .slice xa xm xc] 33 (0, 0))) ∧ (L 10 = true → L 11 = false → ∃ g, v42 = .slice (some ⟨g, 0, none⟩) 1 1 ∧ (w'.setCell ⟨bx, 2, none⟩ (Value.slice ax lu1.length cx)).heap[g]? = some (.cells #[.bool ((S0 : Int) == 1), .int .i64 S1] 54 (0, 0))) ∧ (L 11 = true → true = false → RfS w C (w'.setCell ⟨bx, 2, none⟩ (Value.slice ax lu1.length cx)) bx pa rg (.slice ua lu0.length uc) (.slice none 0 0) (.slice none 0 0) (.slice none 0 0) (Value.slice ax lu1.length cx) (.slice none 0 0) (.slice none 0 0) lu1 [] []) ∧ (true = true → RfS w C (w'.setCell ⟨bx, 2, none⟩ (Value.slice ax lu1.length cx)) bx pa rg (Value.slice ax lu1.length cx) (.slice none 0 0) (.slice none 0 0) (.slice none 0 0) (Value.slice ax lu1.length cx) (.slice none 0 0) (.slice none 0 0) lu1 [] [])) := ⟨fun q => absurd q (by rw [p11]; decide), fun _ q => absurd q (by rw [p11]; decide), fun _ q => (by cases q), fun _ => h.stU _⟩
          have q := d12 p12
          subst q
          have g44 := evT (F 12 44 _ rfl rfl)
          have gv := evT (F 11 43 _ rfl rfl)
          clear F G
          go_simp
          refine hK0 _ ⟨_, _, _, _, _, _, _, _, _, _, _, _, _, rfl, d0, d1, d2, d3, d4, d5, d6, d7, d8, d9, d12, (fun q => laterT (m1 q)), (fun q => laterT (m3 q)), (fun q => laterT (m4 q)), (fun q => laterT (m5 q)), (fun q => ⟨laterT (m7 q).1, laterT (m7 q).2⟩), (fun q => laterT (m8 q)), (fun q => ⟨laterT (m9 q).1, laterT (m9 q).2⟩), (fun q => laterT (m10 q)), (fun q => ⟨laterT (m11 q).1, laterT (m11 q).2.1, laterT (m11 q).2.2⟩), (fun _ => ⟨laterT p11, laterT p12⟩), HW2⟩
        · rintro L vs w' hall ⟨v32, v33, v34, v35, v36, v37, v38, v39, v40, v41, v42, v43, v44, rfl, d0, d1, d2, d3, d4, d5, d6, d7, d8, d9, d12, m1, m3, m4, m5, m7, m8, m9, m10, m11, m13, HW⟩
          have h := HW.out.2.2.2 (hall 13 (by decide))
          obtain ⟨ax, cx, ex⟩ := owns_form h.ru
          subst ex
          have HRF := hide_p h
          clear d0 d1 d2 d3 d4 d5 d6 d7 d8 d9 d12 m1 m3 m4 m5 m7 m8 m9 m10 m11 m13 HW h
          simp only [puts]
          go_simp
          go_wp2
          go_roundw
          case rel => exact ⟨i + 1, ax, cx, lu1, by omega, by go_num, HLN, HRF⟩
          case measure => simp [intOf]; omega

      · have e : i = N2 := by omega
        have HFL2 : Hid (lu0 = (manyL a2).map rUp) := by
          show _ = _
          rw [HLL.out, List.take_of_length_le (by have := HN2.out; omega)]
        clear HLL HF HF0 x0 x1 x2 x3
        obtain ⟨HF0, -⟩ : Hid (RfS w C w5 bx pa rg (.slice ua lu0.length uc) (.slice none 0 0) (.slice none 0 0) (.slice none 0 0) (.slice ua lu0.length uc) (.slice none 0 0) (.slice none 0 0) lu0 [] []) ∧ True := ⟨HF5, trivial⟩
        clear HF5
        go_wp2_with fail
        go_loopw [8] (fun t8 wr => ∃ (i : Nat) (ia : Option Addr) (ic : Nat) (lc : List _), i ≤ N3 ∧ t8 = .int .i64 i ∧ Hid (lc = ((manyL a3).take i).map rIns) ∧ Hid (RfS w C wr bx pa rg (.slice ua lu0.length uc) (.slice ia lc.length ic) (.slice none 0 0) (.slice none 0 0) (.slice ua lu0.length uc) (.slice ia lc.length ic) (.slice none 0 0) lu0 lc [])) (fun t8 _ => N3 - (intOf t8).toNat)
        case atStart => exact ⟨0, none, 0, [], Nat.zero_le _, rfl, rfl, HF0⟩
        case round =>
          obtain ⟨i, ia, ic, lc0, hi, rfl, HLL, HF⟩ := hrel
          obtain ⟨x0, x1, x2, x3⟩ := HCB.out wr HF.out.cb
          go_wp2_with fail
          refine (HA3.out wr HF.out.bel).mono ?_
          rintro e w4 ⟨rfl, hb4⟩
          have HF4 := hide_p (HF.out.below hb4)
          clear hb4 x0 x1 x2 x3
          go_wp2_with fail
          refine (HM3.out w4 HF4.out.bel).mono ?_
          rintro e w5 ⟨rfl, hb5⟩
          have HF5 := hide_p (HF4.out.below hb5)
          obtain ⟨x0, x1, x2, x3⟩ := HCB.out w5 HF5.out.cb
          clear hb5 HF4

          by_cases c : i < N3
          · have i1 : i < (manyL a3).length := by rw [← HN3.out]; exact c
            obtain ⟨ux, HCX, HAX, xk, xn, xs, xa, xm, xc, rfl⟩ := at_in HC3.out i
            obtain ⟨U0, HCU0, HX0, -⟩ := at_in HCX.out 0
            have HSU0 := sm_in HCU0.out
            obtain ⟨U1, HCU1, HX1, -⟩ := at_in HCX.out 1
            have HSU1 := sm_in HCU1.out
            obtain ⟨U2, HCU2, HX2, -⟩ := at_in HCX.out 2
            have HSU2 := sm_in HCU2.out
            obtain ⟨U3, HCU3, HX3, -⟩ := at_in HCX.out 3
            have HSU3 := sm_in HCU3.out
            obtain ⟨X, hX⟩ : ∃ X, X = rIns (atT a3 i) := ⟨_, rfl⟩
            obtain ⟨S0, hS0⟩ : ∃ S0, S0 = smT (atT (atT a3 i) 0) := ⟨_, rfl⟩
            obtain ⟨S1, hS1⟩ : ∃ S1, S1 = smT (atT (atT a3 i) 1) := ⟨_, rfl⟩
            obtain ⟨S2, hS2⟩ : ∃ S2, S2 = smT (atT (atT a3 i) 2) := ⟨_, rfl⟩
            obtain ⟨S3, hS3⟩ : ∃ S3, S3 = smT (atT (atT a3 i) 3) := ⟨_, rfl⟩
            have HXE : Hid ([Value.int .i64 X.op, .int .i64 X.a, .int .i64 X.b, .int .i64 X.c] = [.int .i64 S0, .int .i64 S1, .int .i64 S2, .int .i64 S3]) := by
              show _ = _
              rw [hX, hS0, hS1, hS2, hS3]
              rfl
            rw [← hS0] at HSU0
            rw [← hS1] at HSU1
            rw [← hS2] at HSU2
            rw [← hS3] at HSU3
            obtain ⟨lc1, hlc1⟩ : ∃ lc1, lc1 = lc0 ++ [X] := ⟨_, rfl⟩
            have HL1 := hide_p hlc1
            have HLN : Hid (lc1 = ((manyL a3).take (i + 1)).map rIns) := by
              show _ = _
              rw [take_rd i1, ← hX, hlc1, HLL.out]
            have hn : lc0.length ≤ 1000000 := by rw [HLL.out, List.length_map, List.length_take]; omega
            clear hlc1 hX HCX hS0 HCU0 hS1 HCU1 hS2 HCU2 hS3 HCU3
            go_wp2_with fail
            refine (HA3.out w5 HF5.out.bel).mono ?_
            rintro e w6 ⟨rfl, hb6⟩
            have HF6 := hide_p (HF5.out.below hb6)
            clear hb6 x0 x1 x2 x3 HF5
            go_wp2_with fail
            refine (HAX.out w6 HF6.out.bel).mono ?_
            rintro e w7 ⟨rfl, hb7⟩
            have HF7 := hide_p (HF6.out.below hb7)
            clear hb7 HF6 HAX
            obtain ⟨w8, hw8⟩ : ∃ w8, w8 = w7.alloc (.cells #[.int .i64 xk, .int .u64 xn, .string xs, .slice xa xm xc] 33) := ⟨_, rfl⟩
            obtain ⟨tb, htb⟩ : ∃ tb, tb = w7.heap.size := ⟨_, rfl⟩
            have HF8 : Hid (RfS w C w8 bx pa rg (.slice ua lu0.length uc) (.slice ia lc0.length ic) (.slice none 0 0) (.slice none 0 0) (.slice ua lu0.length uc) (.slice ia lc0.length ic) (.slice none 0 0) lu0 lc0 [] ∧ w8.heap[tb]? = some (.cells #[.int .i64 xk, .int .u64 xn, .string xs, .slice xa xm xc] 33 (0, 0))) := by
              show _ ∧ _
              rw [hw8, htb]
              exact ⟨HF7.out.below ((Below.refl _ _).alloc (Nat.le_refl _) _), heap_alloc_new _ _⟩
            go_upto_region 11 with fail
            rw [← hw8, ← htb]
            have HTB := hide_p (And.intro hw8 htb)
            clear hw8 htb
            refine wp_region_inv2 (by kernel_rfl) [56, 57, 58, 59, 60, 61, 62, 63, 64, 65, 66, 67, 68, 69, 70, 71, 72, 73] (fun L vs w' => ∃ v56 v57 v58 v59 v60 v61 v62 v63 v64 v65 v66 v67 v68 v69 v70 v71 v72 v73, vs = [v56, v57, v58, v59, v60, v61, v62, v63, v64, v65, v66, v67, v68, v69, v70, v71, v72, v73] ∧ (L 0 = true → v56 = (.pointer (some ⟨bx, 3, none⟩))) ∧ (L 1 = true → v57 = .slice ia lc0.length ic) ∧ (L 2 = true → v58 = (.agg #[.int .i64 xk, .int .u64 xn, .string xs, .slice xa xm xc])) ∧ (L 3 = true → v59 = U0) ∧ (L 4 = true → v60 = (.int .i64 S0)) ∧ (L 5 = true → v61 = (.agg #[.int .i64 xk, .int .u64 xn, .string xs, .slice xa xm xc])) ∧ (L 6 = true → v62 = U1) ∧ (L 7 = true → v63 = (.int .i64 S1)) ∧ (L 8 = true → v64 = (.agg #[.int .i64 xk, .int .u64 xn, .string xs, .slice xa xm xc])) ∧ (L 9 = true → v65 = U2) ∧ (L 10 = true → v66 = (.int .i64 S2)) ∧ (L 11 = true → v67 = (.agg #[.int .i64 xk, .int .u64 xn, .string xs, .slice xa xm xc])) ∧ (L 12 = true → v68 = U3) ∧ (L 13 = true → v69 = (.int .i64 S3)) ∧ (L 14 = true → v70 = (.agg #[.int .i64 S0, .int .i64 S1, .int .i64 S2, .int .i64 S3])) ∧ (L 17 = true → v73 = (.pointer (some ⟨bx, 3, none⟩))) ∧ (L 1 = true → L 0 = true) ∧ (L 3 = true → L 2 = true) ∧ (L 4 = true → L 3 = true) ∧ (L 6 = true → L 4 = true ∧ L 5 = true) ∧ (L 7 = true → L 6 = true) ∧ (L 9 = true → L 7 = true ∧ L 8 = true) ∧ (L 10 = true → L 9 = true) ∧ (L 12 = true → L 10 = true ∧ L 11 = true) ∧ (L 13 = true → L 12 = true) ∧ (L 14 = true → L 4 = true ∧ L 7 = true ∧ L 10 = true ∧ L 13 = true) ∧ (L 15 = true → L 14 = true) ∧ (L 16 = true → L 1 = true ∧ L 13 = true ∧ L 15 = true) ∧ (L 18 = true → L 16 = true ∧ L 17 = true) ∧ Hid ((L 16 = false → RfS w C w' bx pa rg (.slice ua lu0.length uc) (.slice ia lc0.length ic) (.slice none 0 0) (.slice none 0 0) (.slice ua lu0.length uc) (.slice ia lc0.length ic) (.slice none 0 0) lu0 lc0 [] ∧ w'.heap[tb]? = some (.cells #[.int .i64 xk, .int .u64 xn, .string xs, .slice xa xm xc] 33 (0, 0))) ∧ (L 15 = true → L 16 = false → ∃ g, v71 = .slice (some ⟨g, 0, none⟩) 1 1 ∧ w'.heap[g]? = some (.cells #[.int .i64 S0, .int .i64 S1, .int .i64 S2, .int .i64 S3] 58 (0, 0))) ∧ (L 16 = true → L 18 = false → RfS w C w' bx pa rg (.slice ua lu0.length uc) (.slice ia lc0.length ic) (.slice none 0 0) (.slice none 0 0) (.slice ua lu0.length uc) v72 (.slice none 0 0) lu0 lc1 []) ∧ (L 18 = true → RfS w C w' bx pa rg (.slice ua lu0.length uc) v72 (.slice none 0 0) (.slice none 0 0) (.slice ua lu0.length uc) v72 (.slice none 0 0) lu0 lc1 []))) (by kernel_rfl) (by decide) (by simp) ?_ ⟨?_, ?_, ?_, ?_, ?_, ?_, ?_, ?_, ?_, ?_, ?_, ?_, ?_, ?_, ?_, ?_, ?_, ?_, ?_, trivial⟩ ?_
            · exact ⟨_, _, _, _, _, _, _, _, _, _, _, _, _, _, _, _, _, _, rfl, fun q => by (cases q), fun q => by (cases q), fun q => by (cases q), fun q => by (cases q), fun q => by (cases q), fun q => by (cases q), fun q => by (cases q), fun q => by (cases q), fun q => by (cases q), fun q => by (cases q), fun q => by (cases q), fun q => by (cases q), fun q => by (cases q), fun q => by (cases q), fun q => by (cases q), fun q => by (cases q), fun q => by (cases q), fun q => by (cases q), fun q => by (cases q), fun q => by (cases q), fun q => by (cases q), fun q => by (cases q), fun q => by (cases q), fun q => by (cases q), fun q => by (cases q), fun q => by (cases q), fun q => by (cases q), fun q => by (cases q), fun q => by (cases q), ⟨fun _ => ⟨HF8.out.1.below (Below.refl _ _).drew, HF8.out.2⟩, fun q => (by cases q), fun q => (by cases q), fun q => (by cases q)⟩⟩
            · rintro A L vs w' F G ⟨v56, v57, v58, v59, v60, v61, v62, v63, v64, v65, v66, v67, v68, v69, v70, v71, v72, v73, rfl, d0, d1, d2, d3, d4, d5, d6, d7, d8, d9, d10, d11, d12, d13, d14, d17, m1, m3, m4, m6, m7, m9, m10, m12, m13, m14, m15, m16, m18, HW⟩ hL hdep K' hK hK0
              have g5 : A.tmps[5]?.getD undef = .pointer (some ⟨bx, 0, none⟩) := evT ((G 5 (by decide)).trans rfl)
              clear F G
              go_simp
              refine hK 0 56 _ w' rfl ⟨_, _, _, _, _, _, _, _, _, _, _, _, _, _, _, _, _, _, rfl, (fun _ => rfl), d1, d2, d3, d4, d5, d6, d7, d8, d9, d10, d11, d12, d13, d14, d17, (fun q => laterT (m1 q)), (fun q => laterT (m3 q)), (fun q => laterT (m4 q)), (fun q => ⟨laterT (m6 q).1, laterT (m6 q).2⟩), (fun q => laterT (m7 q)), (fun q => ⟨laterT (m9 q).1, laterT (m9 q).2⟩), (fun q => laterT (m10 q)), (fun q => ⟨laterT (m12 q).1, laterT (m12 q).2⟩), (fun q => laterT (m13 q)), (fun q => ⟨laterT (m14 q).1, laterT (m14 q).2.1, laterT (m14 q).2.2.1, laterT (m14 q).2.2.2⟩), (fun q => laterT (m15 q)), (fun q => ⟨laterT (m16 q).1, laterT (m16 q).2.1, laterT (m16 q).2.2⟩), (fun q => ⟨laterT (m18 q).1, laterT (m18 q).2⟩), HW⟩
            · rintro A L vs w' F G ⟨v56, v57, v58, v59, v60, v61, v62, v63, v64, v65, v66, v67, v68, v69, v70, v71, v72, v73, rfl, d0, d1, d2, d3, d4, d5, d6, d7, d8, d9, d10, d11, d12, d13, d14, d17, m1, m3, m4, m6, m7, m9, m10, m12, m13, m14, m15, m16, m18, HW⟩ hL hdep K' hK hK0
              have p0 : L 0 = true := hdep { on := 0, ground := Ground.data } (by simp) rfl
              have n16 : L 16 = false := not_yet hL (fun q => (m16 q).1)
              have h := (HW.out.1 n16).1
              have b0 : w'.cell? ⟨bx, 3, none⟩ = some (.slice ia lc0.length ic) := by rw [Lib.cell_of_heap h.blk]; rfl
              have q := d0 p0
              subst q
              have g56 := evT (F 0 56 _ rfl rfl)
              clear F G
              go_simp
              refine hK 1 57 _ w' rfl ⟨_, _, _, _, _, _, _, _, _, _, _, _, _, _, _, _, _, _, rfl, d0, (fun _ => rfl), d2, d3, d4, d5, d6, d7, d8, d9, d10, d11, d12, d13, d14, d17, (fun _ => laterT p0), (fun q => laterT (m3 q)), (fun q => laterT (m4 q)), (fun q => ⟨laterT (m6 q).1, laterT (m6 q).2⟩), (fun q => laterT (m7 q)), (fun q => ⟨laterT (m9 q).1, laterT (m9 q).2⟩), (fun q => laterT (m10 q)), (fun q => ⟨laterT (m12 q).1, laterT (m12 q).2⟩), (fun q => laterT (m13 q)), (fun q => ⟨laterT (m14 q).1, laterT (m14 q).2.1, laterT (m14 q).2.2.1, laterT (m14 q).2.2.2⟩), (fun q => laterT (m15 q)), (fun q => ⟨laterT (m16 q).1, laterT (m16 q).2.1, laterT (m16 q).2.2⟩), (fun q => ⟨laterT (m18 q).1, laterT (m18 q).2⟩), HW⟩
            · rintro A L vs w' F G ⟨v56, v57, v58, v59, v60, v61, v62, v63, v64, v65, v66, v67, v68, v69, v70, v71, v72, v73, rfl, d0, d1, d2, d3, d4, d5, d6, d7, d8, d9, d10, d11, d12, d13, d14, d17, m1, m3, m4, m6, m7, m9, m10, m12, m13, m14, m15, m16, m18, HW⟩ hL hdep K' hK hK0
              have n16 : L 16 = false := not_yet hL (fun q => (m3 ((m4 ((m14 ((m15 ((m16 q).2.2)))).1)))))
              have h := (HW.out.1 n16).2
              obtain ⟨b0, b1, b2, b3⟩ := block4 h
              have gt : A.tmps[9]?.getD undef = .pointer (some ⟨tb, 0, none⟩) := evT ((G 9 (by decide)).trans rfl)
              clear F G
              go_simp
              refine hK 2 58 _ w' rfl ⟨_, _, _, _, _, _, _, _, _, _, _, _, _, _, _, _, _, _, rfl, d0, d1, (fun _ => rfl), d3, d4, d5, d6, d7, d8, d9, d10, d11, d12, d13, d14, d17, (fun q => laterT (m1 q)), (fun q => laterT (m3 q)), (fun q => laterT (m4 q)), (fun q => ⟨laterT (m6 q).1, laterT (m6 q).2⟩), (fun q => laterT (m7 q)), (fun q => ⟨laterT (m9 q).1, laterT (m9 q).2⟩), (fun q => laterT (m10 q)), (fun q => ⟨laterT (m12 q).1, laterT (m12 q).2⟩), (fun q => laterT (m13 q)), (fun q => ⟨laterT (m14 q).1, laterT (m14 q).2.1, laterT (m14 q).2.2.1, laterT (m14 q).2.2.2⟩), (fun q => laterT (m15 q)), (fun q => ⟨laterT (m16 q).1, laterT (m16 q).2.1, laterT (m16 q).2.2⟩), (fun q => ⟨laterT (m18 q).1, laterT (m18 q).2⟩), HW⟩
            · rintro A L vs w' F G ⟨v56, v57, v58, v59, v60, v61, v62, v63, v64, v65, v66, v67, v68, v69, v70, v71, v72, v73, rfl, d0, d1, d2, d3, d4, d5, d6, d7, d8, d9, d10, d11, d12, d13, d14, d17, m1, m3, m4, m6, m7, m9, m10, m12, m13, m14, m15, m16, m18, HW⟩ hL hdep K' hK hK0
              have p2 : L 2 = true := hdep { on := 2, ground := Ground.data } (by simp) rfl
              have n16 : L 16 = false := not_yet hL (fun q => (m4 ((m14 ((m15 ((m16 q).2.2)))).1)))
              have h := (HW.out.1 n16).1
              have h2 := (HW.out.1 n16).2
              have q := d2 p2
              subst q
              have g58 := evT (F 2 58 _ rfl rfl)
              clear F G
              go_simp
              refine (HX0.out _ h.bel).mono ?_
              rintro e w2 ⟨rfl, hb⟩
              have HW2 : Hid ((L 16 = false → RfS w C w2 bx pa rg (.slice ua lu0.length uc) (.slice ia lc0.length ic) (.slice none 0 0) (.slice none 0 0) (.slice ua lu0.length uc) (.slice ia lc0.length ic) (.slice none 0 0) lu0 lc0 [] ∧ w2.heap[tb]? = some (.cells #[.int .i64 xk, .int .u64 xn, .string xs, .slice xa xm xc] 33 (0, 0))) ∧ (L 15 = true → L 16 = false → ∃ g, v71 = .slice (some ⟨g, 0, none⟩) 1 1 ∧ w2.heap[g]? = some (.cells #[.int .i64 S0, .int .i64 S1, .int .i64 S2, .int .i64 S3] 58 (0, 0))) ∧ (L 16 = true → L 18 = false → RfS w C w2 bx pa rg (.slice ua lu0.length uc) (.slice ia lc0.length ic) (.slice none 0 0) (.slice none 0 0) (.slice ua lu0.length uc) v72 (.slice none 0 0) lu0 lc1 []) ∧ (L 18 = true → RfS w C w2 bx pa rg (.slice ua lu0.length uc) v72 (.slice none 0 0) (.slice none 0 0) (.slice ua lu0.length uc) v72 (.slice none 0 0) lu0 lc1 [])) := ⟨fun _ => ⟨h.below hb, (hb.block _ (blk_lt h2)).trans h2⟩, fun q r => by obtain ⟨g, e, hg⟩ := HW.out.2.1 q r; exact ⟨g, e, (hb.block _ (blk_lt hg)).trans hg⟩, fun q => absurd q (by rw [n16]; decide), fun q => absurd ((m18 q).1) (by rw [n16]; decide)⟩
              refine hK 3 59 _ w2 rfl ⟨_, _, _, _, _, _, _, _, _, _, _, _, _, _, _, _, _, _, rfl, d0, d1, d2, (fun _ => rfl), d4, d5, d6, d7, d8, d9, d10, d11, d12, d13, d14, d17, (fun q => laterT (m1 q)), (fun _ => laterT p2), (fun q => laterT (m4 q)), (fun q => ⟨laterT (m6 q).1, laterT (m6 q).2⟩), (fun q => laterT (m7 q)), (fun q => ⟨laterT (m9 q).1, laterT (m9 q).2⟩), (fun q => laterT (m10 q)), (fun q => ⟨laterT (m12 q).1, laterT (m12 q).2⟩), (fun q => laterT (m13 q)), (fun q => ⟨laterT (m14 q).1, laterT (m14 q).2.1, laterT (m14 q).2.2.1, laterT (m14 q).2.2.2⟩), (fun q => laterT (m15 q)), (fun q => ⟨laterT (m16 q).1, laterT (m16 q).2.1, laterT (m16 q).2.2⟩), (fun q => ⟨laterT (m18 q).1, laterT (m18 q).2⟩), HW2⟩
            · rintro A L vs w' F G ⟨v56, v57, v58, v59, v60, v61, v62, v63, v64, v65, v66, v67, v68, v69, v70, v71, v72, v73, rfl, d0, d1, d2, d3, d4, d5, d6, d7, d8, d9, d10, d11, d12, d13, d14, d17, m1, m3, m4, m6, m7, m9, m10, m12, m13, m14, m15, m16, m18, HW⟩ hL hdep K' hK hK0
              have p3 : L 3 = true := hdep { on := 3, ground := Ground.data } (by simp) rfl
              have n16 : L 16 = false := not_yet hL (fun q => (m14 ((m15 ((m16 q).2.2)))).1)
              have h := (HW.out.1 n16).1
              have h2 := (HW.out.1 n16).2
              have q := d3 p3
              subst q
              have g59 := evT (F 3 59 _ rfl rfl)
              clear F G
              go_simp
              refine (HSU0.out _ h.bel).mono ?_
              rintro e w2 ⟨rfl, hb⟩
              have HW2 : Hid ((L 16 = false → RfS w C w2 bx pa rg (.slice ua lu0.length uc) (.slice ia lc0.length ic) (.slice none 0 0) (.slice none 0 0) (.slice ua lu0.length uc) (.slice ia lc0.length ic) (.slice none 0 0) lu0 lc0 [] ∧ w2.heap[tb]? = some (.cells #[.int .i64 xk, .int .u64 xn, .string xs, .slice xa xm xc] 33 (0, 0))) ∧ (L 15 = true → L 16 = false → ∃ g, v71 = .slice (some ⟨g, 0, none⟩) 1 1 ∧ w2.heap[g]? = some (.cells #[.int .i64 S0, .int .i64 S1, .int .i64 S2, .int .i64 S3] 58 (0, 0))) ∧ (L 16 = true → L 18 = false → RfS w C w2 bx pa rg (.slice ua lu0.length uc) (.slice ia lc0.length ic) (.slice none 0 0) (.slice none 0 0) (.slice ua lu0.length uc) v72 (.slice none 0 0) lu0 lc1 []) ∧ (L 18 = true → RfS w C w2 bx pa rg (.slice ua lu0.length uc) v72 (.slice none 0 0) (.slice none 0 0) (.slice ua lu0.length uc) v72 (.slice none 0 0) lu0 lc1 [])) := ⟨fun _ => ⟨h.below hb, (hb.block _ (blk_lt h2)).trans h2⟩, fun q r => by obtain ⟨g, e, hg⟩ := HW.out.2.1 q r; exact ⟨g, e, (hb.block _ (blk_lt hg)).trans hg⟩, fun q => absurd q (by rw [n16]; decide), fun q => absurd ((m18 q).1) (by rw [n16]; decide)⟩
              refine hK 4 60 _ w2 rfl ⟨_, _, _, _, _, _, _, _, _, _, _, _, _, _, _, _, _, _, rfl, d0, d1, d2, d3, (fun _ => rfl), d5, d6, d7, d8, d9, d10, d11, d12, d13, d14, d17, (fun q => laterT (m1 q)), (fun q => laterT (m3 q)), (fun _ => laterT p3), (fun q => ⟨laterT (m6 q).1, laterT (m6 q).2⟩), (fun q => laterT (m7 q)), (fun q => ⟨laterT (m9 q).1, laterT (m9 q).2⟩), (fun q => laterT (m10 q)), (fun q => ⟨laterT (m12 q).1, laterT (m12 q).2⟩), (fun q => laterT (m13 q)), (fun q => ⟨laterT (m14 q).1, laterT (m14 q).2.1, laterT (m14 q).2.2.1, laterT (m14 q).2.2.2⟩), (fun q => laterT (m15 q)), (fun q => ⟨laterT (m16 q).1, laterT (m16 q).2.1, laterT (m16 q).2.2⟩), (fun q => ⟨laterT (m18 q).1, laterT (m18 q).2⟩), HW2⟩
            · rintro A L vs w' F G ⟨v56, v57, v58, v59, v60, v61, v62, v63, v64, v65, v66, v67, v68, v69, v70, v71, v72, v73, rfl, d0, d1, d2, d3, d4, d5, d6, d7, d8, d9, d10, d11, d12, d13, d14, d17, m1, m3, m4, m6, m7, m9, m10, m12, m13, m14, m15, m16, m18, HW⟩ hL hdep K' hK hK0
              have n16 : L 16 = false := not_yet hL (fun q => (m6 ((m7 ((m14 ((m15 ((m16 q).2.2)))).2.1)))).2)
              have h := (HW.out.1 n16).2
              obtain ⟨b0, b1, b2, b3⟩ := block4 h
              have gt : A.tmps[9]?.getD undef = .pointer (some ⟨tb, 0, none⟩) := evT ((G 9 (by decide)).trans rfl)
              clear F G
              go_simp
              refine hK 5 61 _ w' rfl ⟨_, _, _, _, _, _, _, _, _, _, _, _, _, _, _, _, _, _, rfl, d0, d1, d2, d3, d4, (fun _ => rfl), d6, d7, d8, d9, d10, d11, d12, d13, d14, d17, (fun q => laterT (m1 q)), (fun q => laterT (m3 q)), (fun q => laterT (m4 q)), (fun q => ⟨laterT (m6 q).1, laterT (m6 q).2⟩), (fun q => laterT (m7 q)), (fun q => ⟨laterT (m9 q).1, laterT (m9 q).2⟩), (fun q => laterT (m10 q)), (fun q => ⟨laterT (m12 q).1, laterT (m12 q).2⟩), (fun q => laterT (m13 q)), (fun q => ⟨laterT (m14 q).1, laterT (m14 q).2.1, laterT (m14 q).2.2.1, laterT (m14 q).2.2.2⟩), (fun q => laterT (m15 q)), (fun q => ⟨laterT (m16 q).1, laterT (m16 q).2.1, laterT (m16 q).2.2⟩), (fun q => ⟨laterT (m18 q).1, laterT (m18 q).2⟩), HW⟩
            · rintro A L vs w' F G ⟨v56, v57, v58, v59, v60, v61, v62, v63, v64, v65, v66, v67, v68, v69, v70, v71, v72, v73, rfl, d0, d1, d2, d3, d4, d5, d6, d7, d8, d9, d10, d11, d12, d13, d14, d17, m1, m3, m4, m6, m7, m9, m10, m12, m13, m14, m15, m16, m18, HW⟩ hL hdep K' hK hK0
              have p5 : L 5 = true := hdep { on := 5, ground := Ground.data } (by simp) rfl
              have p4 : L 4 = true := hdep { on := 4, ground := Ground.chain } (by simp) rfl
              have n16 : L 16 = false := not_yet hL (fun q => (m7 ((m14 ((m15 ((m16 q).2.2)))).2.1)))
              have h := (HW.out.1 n16).1
              have h2 := (HW.out.1 n16).2
              have q := d5 p5
              subst q
              have g61 := evT (F 5 61 _ rfl rfl)
              clear F G
              go_simp
              refine (HX1.out _ h.bel).mono ?_
              rintro e w2 ⟨rfl, hb⟩
              have HW2 : Hid ((L 16 = false → RfS w C w2 bx pa rg (.slice ua lu0.length uc) (.slice ia lc0.length ic) (.slice none 0 0) (.slice none 0 0) (.slice ua lu0.length uc) (.slice ia lc0.length ic) (.slice none 0 0) lu0 lc0 [] ∧ w2.heap[tb]? = some (.cells #[.int .i64 xk, .int .u64 xn, .string xs, .slice xa xm xc] 33 (0, 0))) ∧ (L 15 = true → L 16 = false → ∃ g, v71 = .slice (some ⟨g, 0, none⟩) 1 1 ∧ w2.heap[g]? = some (.cells #[.int .i64 S0, .int .i64 S1, .int .i64 S2, .int .i64 S3] 58 (0, 0))) ∧ (L 16 = true → L 18 = false → RfS w C w2 bx pa rg (.slice ua lu0.length uc) (.slice ia lc0.length ic) (.slice none 0 0) (.slice none 0 0) (.slice ua lu0.length uc) v72 (.slice none 0 0) lu0 lc1 []) ∧ (L 18 = true → RfS w C w2 bx pa rg (.slice ua lu0.length uc) v72 (.slice none 0 0) (.slice none 0 0) (.slice ua lu0.length uc) v72 (.slice none 0 0) lu0 lc1 [])) := ⟨fun _ => ⟨h.below hb, (hb.block _ (blk_lt h2)).trans h2⟩, fun q r => by obtain ⟨g, e, hg⟩ := HW.out.2.1 q r; exact ⟨g, e, (hb.block _ (blk_lt hg)).trans hg⟩, fun q => absurd q (by rw [n16]; decide), fun q => absurd ((m18 q).1) (by rw [n16]; decide)⟩
              refine hK 6 62 _ w2 rfl ⟨_, _, _, _, _, _, _, _, _, _, _, _, _, _, _, _, _, _, rfl, d0, d1, d2, d3, d4, d5, (fun _ => rfl), d7, d8, d9, d10, d11, d12, d13, d14, d17, (fun q => laterT (m1 q)), (fun q => laterT (m3 q)), (fun q => laterT (m4 q)), (fun _ => ⟨laterT p4, laterT p5⟩), (fun q => laterT (m7 q)), (fun q => ⟨laterT (m9 q).1, laterT (m9 q).2⟩), (fun q => laterT (m10 q)), (fun q => ⟨laterT (m12 q).1, laterT (m12 q).2⟩), (fun q => laterT (m13 q)), (fun q => ⟨laterT (m14 q).1, laterT (m14 q).2.1, laterT (m14 q).2.2.1, laterT (m14 q).2.2.2⟩), (fun q => laterT (m15 q)), (fun q => ⟨laterT (m16 q).1, laterT (m16 q).2.1, laterT (m16 q).2.2⟩), (fun q => ⟨laterT (m18 q).1, laterT (m18 q).2⟩), HW2⟩
            · rintro A L vs w' F G ⟨v56, v57, v58, v59, v60, v61, v62, v63, v64, v65, v66, v67, v68, v69, v70, v71, v72, v73, rfl, d0, d1, d2, d3, d4, d5, d6, d7, d8, d9, d10, d11, d12, d13, d14, d17, m1, m3, m4, m6, m7, m9, m10, m12, m13, m14, m15, m16, m18, HW⟩ hL hdep K' hK hK0
              have p6 : L 6 = true := hdep { on := 6, ground := Ground.data } (by simp) rfl
              have n16 : L 16 = false := not_yet hL (fun q => (m14 ((m15 ((m16 q).2.2)))).2.1)
              have h := (HW.out.1 n16).1
              have h2 := (HW.out.1 n16).2
              have q := d6 p6
              subst q
              have g62 := evT (F 6 62 _ rfl rfl)
              clear F G
              go_simp
              refine (HSU1.out _ h.bel).mono ?_
              rintro e w2 ⟨rfl, hb⟩
              have HW2 : Hid ((L 16 = false → RfS w C w2 bx pa rg (.slice ua lu0.length uc) (.slice ia lc0.length ic) (.slice none 0 0) (.slice none 0 0) (.slice ua lu0.length uc) (.slice ia lc0.length ic) (.slice none 0 0) lu0 lc0 [] ∧ w2.heap[tb]? = some (.cells #[.int .i64 xk, .int .u64 xn, .string xs, .slice xa xm xc] 33 (0, 0))) ∧ (L 15 = true → L 16 = false → ∃ g, v71 = .slice (some ⟨g, 0, none⟩) 1 1 ∧ w2.heap[g]? = some (.cells #[.int .i64 S0, .int .i64 S1, .int .i64 S2, .int .i64 S3] 58 (0, 0))) ∧ (L 16 = true → L 18 = false → RfS w C w2 bx pa rg (.slice ua lu0.length uc) (.slice ia lc0.length ic) (.slice none 0 0) (.slice none 0 0) (.slice ua lu0.length uc) v72 (.slice none 0 0) lu0 lc1 []) ∧ (L 18 = true → RfS w C w2 bx pa rg (.slice ua lu0.length uc) v72 (.slice none 0 0) (.slice none 0 0) (.slice ua lu0.length uc) v72 (.slice none 0 0) lu0 lc1 [])) := ⟨fun _ => ⟨h.below hb, (hb.block _ (blk_lt h2)).trans h2⟩, fun q r => by obtain ⟨g, e, hg⟩ := HW.out.2.1 q r; exact ⟨g, e, (hb.block _ (blk_lt hg)).trans hg⟩, fun q => absurd q (by rw [n16]; decide), fun q => absurd ((m18 q).1) (by rw [n16]; decide)⟩
              refine hK 7 63 _ w2 rfl ⟨_, _, _, _, _, _, _, _, _, _, _, _, _, _, _, _, _, _, rfl, d0, d1, d2, d3, d4, d5, d6, (fun _ => rfl), d8, d9, d10, d11, d12, d13, d14, d17, (fun q => laterT (m1 q)), (fun q => laterT (m3 q)), (fun q => laterT (m4 q)), (fun q => ⟨laterT (m6 q).1, laterT (m6 q).2⟩), (fun _ => laterT p6), (fun q => ⟨laterT (m9 q).1, laterT (m9 q).2⟩), (fun q => laterT (m10 q)), (fun q => ⟨laterT (m12 q).1, laterT (m12 q).2⟩), (fun q => laterT (m13 q)), (fun q => ⟨laterT (m14 q).1, laterT (m14 q).2.1, laterT (m14 q).2.2.1, laterT (m14 q).2.2.2⟩), (fun q => laterT (m15 q)), (fun q => ⟨laterT (m16 q).1, laterT (m16 q).2.1, laterT (m16 q).2.2⟩), (fun q => ⟨laterT (m18 q).1, laterT (m18 q).2⟩), HW2⟩
            · rintro A L vs w' F G ⟨v56, v57, v58, v59, v60, v61, v62, v63, v64, v65, v66, v67, v68, v69, v70, v71, v72, v73, rfl, d0, d1, d2, d3, d4, d5, d6, d7, d8, d9, d10, d11, d12, d13, d14, d17, m1, m3, m4, m6, m7, m9, m10, m12, m13, m14, m15, m16, m18, HW⟩ hL hdep K' hK hK0
              have n16 : L 16 = false := not_yet hL (fun q => (m9 ((m10 ((m12 ((m13 ((m16 q).2.1)))).1)))).2)
              have h := (HW.out.1 n16).2
              obtain ⟨b0, b1, b2, b3⟩ := block4 h
              have gt : A.tmps[9]?.getD undef = .pointer (some ⟨tb, 0, none⟩) := evT ((G 9 (by decide)).trans rfl)
              clear F G
              go_simp
              refine hK 8 64 _ w' rfl ⟨_, _, _, _, _, _, _, _, _, _, _, _, _, _, _, _, _, _, rfl, d0, d1, d2, d3, d4, d5, d6, d7, (fun _ => rfl), d9, d10, d11, d12, d13, d14, d17, (fun q => laterT (m1 q)), (fun q => laterT (m3 q)), (fun q => laterT (m4 q)), (fun q => ⟨laterT (m6 q).1, laterT (m6 q).2⟩), (fun q => laterT (m7 q)), (fun q => ⟨laterT (m9 q).1, laterT (m9 q).2⟩), (fun q => laterT (m10 q)), (fun q => ⟨laterT (m12 q).1, laterT (m12 q).2⟩), (fun q => laterT (m13 q)), (fun q => ⟨laterT (m14 q).1, laterT (m14 q).2.1, laterT (m14 q).2.2.1, laterT (m14 q).2.2.2⟩), (fun q => laterT (m15 q)), (fun q => ⟨laterT (m16 q).1, laterT (m16 q).2.1, laterT (m16 q).2.2⟩), (fun q => ⟨laterT (m18 q).1, laterT (m18 q).2⟩), HW⟩
            · rintro A L vs w' F G ⟨v56, v57, v58, v59, v60, v61, v62, v63, v64, v65, v66, v67, v68, v69, v70, v71, v72, v73, rfl, d0, d1, d2, d3, d4, d5, d6, d7, d8, d9, d10, d11, d12, d13, d14, d17, m1, m3, m4, m6, m7, m9, m10, m12, m13, m14, m15, m16, m18, HW⟩ hL hdep K' hK hK0
              have p8 : L 8 = true := hdep { on := 8, ground := Ground.data } (by simp) rfl
              have p7 : L 7 = true := hdep { on := 7, ground := Ground.chain } (by simp) rfl
              have n16 : L 16 = false := not_yet hL (fun q => (m10 ((m12 ((m13 ((m16 q).2.1)))).1)))
              have h := (HW.out.1 n16).1
              have h2 := (HW.out.1 n16).2
              have q := d8 p8
              subst q
              have g64 := evT (F 8 64 _ rfl rfl)
              clear F G
              go_simp
              refine (HX2.out _ h.bel).mono ?_
              rintro e w2 ⟨rfl, hb⟩
              have HW2 : Hid ((L 16 = false → RfS w C w2 bx pa rg (.slice ua lu0.length uc) (.slice ia lc0.length ic) (.slice none 0 0) (.slice none 0 0) (.slice ua lu0.length uc) (.slice ia lc0.length ic) (.slice none 0 0) lu0 lc0 [] ∧ w2.heap[tb]? = some (.cells #[.int .i64 xk, .int .u64 xn, .string xs, .slice xa xm xc] 33 (0, 0))) ∧ (L 15 = true → L 16 = false → ∃ g, v71 = .slice (some ⟨g, 0, none⟩) 1 1 ∧ w2.heap[g]? = some (.cells #[.int .i64 S0, .int .i64 S1, .int .i64 S2, .int .i64 S3] 58 (0, 0))) ∧ (L 16 = true → L 18 = false → RfS w C w2 bx pa rg (.slice ua lu0.length uc) (.slice ia lc0.length ic) (.slice none 0 0) (.slice none 0 0) (.slice ua lu0.length uc) v72 (.slice none 0 0) lu0 lc1 []) ∧ (L 18 = true → RfS w C w2 bx pa rg (.slice ua lu0.length uc) v72 (.slice none 0 0) (.slice none 0 0) (.slice ua lu0.length uc) v72 (.slice none 0 0) lu0 lc1 [])) := ⟨fun _ => ⟨h.below hb, (hb.block _ (blk_lt h2)).trans h2⟩, fun q r => by obtain ⟨g, e, hg⟩ := HW.out.2.1 q r; exact ⟨g, e, (hb.block _ (blk_lt hg)).trans hg⟩, fun q => absurd q (by rw [n16]; decide), fun q => absurd ((m18 q).1) (by rw [n16]; decide)⟩
              refine hK 9 65 _ w2 rfl ⟨_, _, _, _, _, _, _, _, _, _, _, _, _, _, _, _, _, _, rfl, d0, d1, d2, d3, d4, d5, d6, d7, d8, (fun _ => rfl), d10, d11, d12, d13, d14, d17, (fun q => laterT (m1 q)), (fun q => laterT (m3 q)), (fun q => laterT (m4 q)), (fun q => ⟨laterT (m6 q).1, laterT (m6 q).2⟩), (fun q => laterT (m7 q)), (fun _ => ⟨laterT p7, laterT p8⟩), (fun q => laterT (m10 q)), (fun q => ⟨laterT (m12 q).1, laterT (m12 q).2⟩), (fun q => laterT (m13 q)), (fun q => ⟨laterT (m14 q).1, laterT (m14 q).2.1, laterT (m14 q).2.2.1, laterT (m14 q).2.2.2⟩), (fun q => laterT (m15 q)), (fun q => ⟨laterT (m16 q).1, laterT (m16 q).2.1, laterT (m16 q).2.2⟩), (fun q => ⟨laterT (m18 q).1, laterT (m18 q).2⟩), HW2⟩
            · rintro A L vs w' F G ⟨v56, v57, v58, v59, v60, v61, v62, v63, v64, v65, v66, v67, v68, v69, v70, v71, v72, v73, rfl, d0, d1, d2, d3, d4, d5, d6, d7, d8, d9, d10, d11, d12, d13, d14, d17, m1, m3, m4, m6, m7, m9, m10, m12, m13, m14, m15, m16, m18, HW⟩ hL hdep K' hK hK0
              have p9 : L 9 = true := hdep { on := 9, ground := Ground.data } (by simp) rfl
              have n16 : L 16 = false := not_yet hL (fun q => (m12 ((m13 ((m16 q).2.1)))).1)
              have h := (HW.out.1 n16).1
              have h2 := (HW.out.1 n16).2
              have q := d9 p9
              subst q
              have g65 := evT (F 9 65 _ rfl rfl)
              clear F G
              go_simp
              refine (HSU2.out _ h.bel).mono ?_
              rintro e w2 ⟨rfl, hb⟩
              have HW2 : Hid ((L 16 = false → RfS w C w2 bx pa rg (.slice ua lu0.length uc) (.slice ia lc0.length ic) (.slice none 0 0) (.slice none 0 0) (.slice ua lu0.length uc) (.slice ia lc0.length ic) (.slice none 0 0) lu0 lc0 [] ∧ w2.heap[tb]? = some (.cells #[.int .i64 xk, .int .u64 xn, .string xs, .slice xa xm xc] 33 (0, 0))) ∧ (L 15 = true → L 16 = false → ∃ g, v71 = .slice (some ⟨g, 0, none⟩) 1 1 ∧ w2.heap[g]? = some (.cells #[.int .i64 S0, .int .i64 S1, .int .i64 S2, .int .i64 S3] 58 (0, 0))) ∧ (L 16 = true → L 18 = false → RfS w C w2 bx pa rg (.slice ua lu0.length uc) (.slice ia lc0.length ic) (.slice none 0 0) (.slice none 0 0) (.slice ua lu0.length uc) v72 (.slice none 0 0) lu0 lc1 []) ∧ (L 18 = true → RfS w C w2 bx pa rg (.slice ua lu0.length uc) v72 (.slice none 0 0) (.slice none 0 0) (.slice ua lu0.length uc) v72 (.slice none 0 0) lu0 lc1 [])) := ⟨fun _ => ⟨h.below hb, (hb.block _ (blk_lt h2)).trans h2⟩, fun q r => by obtain ⟨g, e, hg⟩ := HW.out.2.1 q r; exact ⟨g, e, (hb.block _ (blk_lt hg)).trans hg⟩, fun q => absurd q (by rw [n16]; decide), fun q => absurd ((m18 q).1) (by rw [n16]; decide)⟩
              refine hK 10 66 _ w2 rfl ⟨_, _, _, _, _, _, _, _, _, _, _, _, _, _, _, _, _, _, rfl, d0, d1, d2, d3, d4, d5, d6, d7, d8, d9, (fun _ => rfl), d11, d12, d13, d14, d17, (fun q => laterT (m1 q)), (fun q => laterT (m3 q)), (fun q => laterT (m4 q)), (fun q => ⟨laterT (m6 q).1, laterT (m6 q).2⟩), (fun q => laterT (m7 q)), (fun q => ⟨laterT (m9 q).1, laterT (m9 q).2⟩), (fun _ => laterT p9), (fun q => ⟨laterT (m12 q).1, laterT (m12 q).2⟩), (fun q => laterT (m13 q)), (fun q => ⟨laterT (m14 q).1, laterT (m14 q).2.1, laterT (m14 q).2.2.1, laterT (m14 q).2.2.2⟩), (fun q => laterT (m15 q)), (fun q => ⟨laterT (m16 q).1, laterT (m16 q).2.1, laterT (m16 q).2.2⟩), (fun q => ⟨laterT (m18 q).1, laterT (m18 q).2⟩), HW2⟩
            · rintro A L vs w' F G ⟨v56, v57, v58, v59, v60, v61, v62, v63, v64, v65, v66, v67, v68, v69, v70, v71, v72, v73, rfl, d0, d1, d2, d3, d4, d5, d6, d7, d8, d9, d10, d11, d12, d13, d14, d17, m1, m3, m4, m6, m7, m9, m10, m12, m13, m14, m15, m16, m18, HW⟩ hL hdep K' hK hK0
              have n16 : L 16 = false := not_yet hL (fun q => (m12 ((m13 ((m16 q).2.1)))).2)
              have h := (HW.out.1 n16).2
              obtain ⟨b0, b1, b2, b3⟩ := block4 h
              have gt : A.tmps[9]?.getD undef = .pointer (some ⟨tb, 0, none⟩) := evT ((G 9 (by decide)).trans rfl)
              clear F G
              go_simp
              refine hK 11 67 _ w' rfl ⟨_, _, _, _, _, _, _, _, _, _, _, _, _, _, _, _, _, _, rfl, d0, d1, d2, d3, d4, d5, d6, d7, d8, d9, d10, (fun _ => rfl), d12, d13, d14, d17, (fun q => laterT (m1 q)), (fun q => laterT (m3 q)), (fun q => laterT (m4 q)), (fun q => ⟨laterT (m6 q).1, laterT (m6 q).2⟩), (fun q => laterT (m7 q)), (fun q => ⟨laterT (m9 q).1, laterT (m9 q).2⟩), (fun q => laterT (m10 q)), (fun q => ⟨laterT (m12 q).1, laterT (m12 q).2⟩), (fun q => laterT (m13 q)), (fun q => ⟨laterT (m14 q).1, laterT (m14 q).2.1, laterT (m14 q).2.2.1, laterT (m14 q).2.2.2⟩), (fun q => laterT (m15 q)), (fun q => ⟨laterT (m16 q).1, laterT (m16 q).2.1, laterT (m16 q).2.2⟩), (fun q => ⟨laterT (m18 q).1, laterT (m18 q).2⟩), HW⟩
            · rintro A L vs w' F G ⟨v56, v57, v58, v59, v60, v61, v62, v63, v64, v65, v66, v67, v68, v69, v70, v71, v72, v73, rfl, d0, d1, d2, d3, d4, d5, d6, d7, d8, d9, d10, d11, d12, d13, d14, d17, m1, m3, m4, m6, m7, m9, m10, m12, m13, m14, m15, m16, m18, HW⟩ hL hdep K' hK hK0
              have p11 : L 11 = true := hdep { on := 11, ground := Ground.data } (by simp) rfl
              have p10 : L 10 = true := hdep { on := 10, ground := Ground.chain } (by simp) rfl
              have n16 : L 16 = false := not_yet hL (fun q => (m13 ((m16 q).2.1)))
              have h := (HW.out.1 n16).1
              have h2 := (HW.out.1 n16).2
              have q := d11 p11
              subst q
              have g67 := evT (F 11 67 _ rfl rfl)
              clear F G
              go_simp
              refine (HX3.out _ h.bel).mono ?_
              rintro e w2 ⟨rfl, hb⟩
              have HW2 : Hid ((L 16 = false → RfS w C w2 bx pa rg (.slice ua lu0.length uc) (.slice ia lc0.length ic) (.slice none 0 0) (.slice none 0 0) (.slice ua lu0.length uc) (.slice ia lc0.length ic) (.slice none 0 0) lu0 lc0 [] ∧ w2.heap[tb]? = some (.cells #[.int .i64 xk, .int .u64 xn, .string xs, .slice xa xm xc] 33 (0, 0))) ∧ (L 15 = true → L 16 = false → ∃ g, v71 = .slice (some ⟨g, 0, none⟩) 1 1 ∧ w2.heap[g]? = some (.cells #[.int .i64 S0, .int .i64 S1, .int .i64 S2, .int .i64 S3] 58 (0, 0))) ∧ (L 16 = true → L 18 = false → RfS w C w2 bx pa rg (.slice ua lu0.length uc) (.slice ia lc0.length ic) (.slice none 0 0) (.slice none 0 0) (.slice ua lu0.length uc) v72 (.slice none 0 0) lu0 lc1 []) ∧ (L 18 = true → RfS w C w2 bx pa rg (.slice ua lu0.length uc) v72 (.slice none 0 0) (.slice none 0 0) (.slice ua lu0.length uc) v72 (.slice none 0 0) lu0 lc1 [])) := ⟨fun _ => ⟨h.below hb, (hb.block _ (blk_lt h2)).trans h2⟩, fun q r => by obtain ⟨g, e, hg⟩ := HW.out.2.1 q r; exact ⟨g, e, (hb.block _ (blk_lt hg)).trans hg⟩, fun q => absurd q (by rw [n16]; decide), fun q => absurd ((m18 q).1) (by rw [n16]; decide)⟩
              refine hK 12 68 _ w2 rfl ⟨_, _, _, _, _, _, _, _, _, _, _, _, _, _, _, _, _, _, rfl, d0, d1, d2, d3, d4, d5, d6, d7, d8, d9, d10, d11, (fun _ => rfl), d13, d14, d17, (fun q => laterT (m1 q)), (fun q => laterT (m3 q)), (fun q => laterT (m4 q)), (fun q => ⟨laterT (m6 q).1, laterT (m6 q).2⟩), (fun q => laterT (m7 q)), (fun q => ⟨laterT (m9 q).1, laterT (m9 q).2⟩), (fun q => laterT (m10 q)), (fun _ => ⟨laterT p10, laterT p11⟩), (fun q => laterT (m13 q)), (fun q => ⟨laterT (m14 q).1, laterT (m14 q).2.1, laterT (m14 q).2.2.1, laterT (m14 q).2.2.2⟩), (fun q => laterT (m15 q)), (fun q => ⟨laterT (m16 q).1, laterT (m16 q).2.1, laterT (m16 q).2.2⟩), (fun q => ⟨laterT (m18 q).1, laterT (m18 q).2⟩), HW2⟩
            · rintro A L vs w' F G ⟨v56, v57, v58, v59, v60, v61, v62, v63, v64, v65, v66, v67, v68, v69, v70, v71, v72, v73, rfl, d0, d1, d2, d3, d4, d5, d6, d7, d8, d9, d10, d11, d12, d13, d14, d17, m1, m3, m4, m6, m7, m9, m10, m12, m13, m14, m15, m16, m18, HW⟩ hL hdep K' hK hK0
              have p12 : L 12 = true := hdep { on := 12, ground := Ground.data } (by simp) rfl
              have n16 : L 16 = false := not_yet hL (fun q => (m16 q).2.1)
              have h := (HW.out.1 n16).1
              have h2 := (HW.out.1 n16).2
              have q := d12 p12
              subst q
              have g68 := evT (F 12 68 _ rfl rfl)
              clear F G
              go_simp
              refine (HSU3.out _ h.bel).mono ?_
              rintro e w2 ⟨rfl, hb⟩
              have HW2 : Hid ((L 16 = false → RfS w C w2 bx pa rg (.slice ua lu0.length uc) (.slice ia lc0.length ic) (.slice none 0 0) (.slice none 0 0) (.slice ua lu0.length uc) (.slice ia lc0.length ic) (.slice none 0 0) lu0 lc0 [] ∧ w2.heap[tb]? = some (.cells #[.int .i64 xk, .int .u64 xn, .string xs, .slice xa xm xc] 33 (0, 0))) ∧ (L 15 = true → L 16 = false → ∃ g, v71 = .slice (some ⟨g, 0, none⟩) 1 1 ∧ w2.heap[g]? = some (.cells #[.int .i64 S0, .int .i64 S1, .int .i64 S2, .int .i64 S3] 58 (0, 0))) ∧ (L 16 = true → L 18 = false → RfS w C w2 bx pa rg (.slice ua lu0.length uc) (.slice ia lc0.length ic) (.slice none 0 0) (.slice none 0 0) (.slice ua lu0.length uc) v72 (.slice none 0 0) lu0 lc1 []) ∧ (L 18 = true → RfS w C w2 bx pa rg (.slice ua lu0.length uc) v72 (.slice none 0 0) (.slice none 0 0) (.slice ua lu0.length uc) v72 (.slice none 0 0) lu0 lc1 [])) := ⟨fun _ => ⟨h.below hb, (hb.block _ (blk_lt h2)).trans h2⟩, fun q r => by obtain ⟨g, e, hg⟩ := HW.out.2.1 q r; exact ⟨g, e, (hb.block _ (blk_lt hg)).trans hg⟩, fun q => absurd q (by rw [n16]; decide), fun q => absurd ((m18 q).1) (by rw [n16]; decide)⟩
              refine hK 13 69 _ w2 rfl ⟨_, _, _, _, _, _, _, _, _, _, _, _, _, _, _, _, _, _, rfl, d0, d1, d2, d3, d4, d5, d6, d7, d8, d9, d10, d11, d12, (fun _ => rfl), d14, d17, (fun q => laterT (m1 q)), (fun q => laterT (m3 q)), (fun q => laterT (m4 q)), (fun q => ⟨laterT (m6 q).1, laterT (m6 q).2⟩), (fun q => laterT (m7 q)), (fun q => ⟨laterT (m9 q).1, laterT (m9 q).2⟩), (fun q => laterT (m10 q)), (fun q => ⟨laterT (m12 q).1, laterT (m12 q).2⟩), (fun _ => laterT p12), (fun q => ⟨laterT (m14 q).1, laterT (m14 q).2.1, laterT (m14 q).2.2.1, laterT (m14 q).2.2.2⟩), (fun q => laterT (m15 q)), (fun q => ⟨laterT (m16 q).1, laterT (m16 q).2.1, laterT (m16 q).2.2⟩), (fun q => ⟨laterT (m18 q).1, laterT (m18 q).2⟩), HW2⟩
            · rintro A L vs w' F G ⟨v56, v57, v58, v59, v60, v61, v62, v63, v64, v65, v66, v67, v68, v69, v70, v71, v72, v73, rfl, d0, d1, d2, d3, d4, d5, d6, d7, d8, d9, d10, d11, d12, d13, d14, d17, m1, m3, m4, m6, m7, m9, m10, m12, m13, m14, m15, m16, m18, HW⟩ hL hdep K' hK hK0
              have p4 : L 4 = true := hdep { on := 4, ground := Ground.data } (by simp) rfl
              have p7 : L 7 = true := hdep { on := 7, ground := Ground.data } (by simp) rfl
              have p10 : L 10 = true := hdep { on := 10, ground := Ground.data } (by simp) rfl
              have p13 : L 13 = true := hdep { on := 13, ground := Ground.data } (by simp) rfl
              have q := d4 p4
              subst q
              have g60 := evT (F 4 60 _ rfl rfl)
              have q := d7 p7
              subst q
              have g63 := evT (F 7 63 _ rfl rfl)
              have q := d10 p10
              subst q
              have g66 := evT (F 10 66 _ rfl rfl)
              have q := d13 p13
              subst q
              have g69 := evT (F 13 69 _ rfl rfl)
              clear F G
              go_simp
              refine hK 14 70 _ w' rfl ⟨_, _, _, _, _, _, _, _, _, _, _, _, _, _, _, _, _, _, rfl, d0, d1, d2, d3, d4, d5, d6, d7, d8, d9, d10, d11, d12, d13, (fun _ => rfl), d17, (fun q => laterT (m1 q)), (fun q => laterT (m3 q)), (fun q => laterT (m4 q)), (fun q => ⟨laterT (m6 q).1, laterT (m6 q).2⟩), (fun q => laterT (m7 q)), (fun q => ⟨laterT (m9 q).1, laterT (m9 q).2⟩), (fun q => laterT (m10 q)), (fun q => ⟨laterT (m12 q).1, laterT (m12 q).2⟩), (fun q => laterT (m13 q)), (fun _ => ⟨laterT p4, laterT p7, laterT p10, laterT p13⟩), (fun q => laterT (m15 q)), (fun q => ⟨laterT (m16 q).1, laterT (m16 q).2.1, laterT (m16 q).2.2⟩), (fun q => ⟨laterT (m18 q).1, laterT (m18 q).2⟩), HW⟩
            · rintro A L vs w' F G ⟨v56, v57, v58, v59, v60, v61, v62, v63, v64, v65, v66, v67, v68, v69, v70, v71, v72, v73, rfl, d0, d1, d2, d3, d4, d5, d6, d7, d8, d9, d10, d11, d12, d13, d14, d17, m1, m3, m4, m6, m7, m9, m10, m12, m13, m14, m15, m16, m18, HW⟩ hL hdep K' hK hK0
              have p14 : L 14 = true := hdep { on := 14, ground := Ground.data } (by simp) rfl
              have n16 : L 16 = false := not_yet hL (fun q => (m16 q).2.2)
              have h := (HW.out.1 n16).1
              have h2 := (HW.out.1 n16).2
              have q := d14 p14
              subst q
              have g70 := evT (F 14 70 _ rfl rfl)
              have hb : Below w'.heap.size w' (w'.alloc (.cells #[.int .i64 S0, .int .i64 S1, .int .i64 S2, .int .i64 S3] 58)) := (Below.refl _ _).alloc (Nat.le_refl _) _
              have HW2 : Hid ((L 16 = false → RfS w C (w'.alloc (.cells #[.int .i64 S0, .int .i64 S1, .int .i64 S2, .int .i64 S3] 58)) bx pa rg (.slice ua lu0.length uc) (.slice ia lc0.length ic) (.slice none 0 0) (.slice none 0 0) (.slice ua lu0.length uc) (.slice ia lc0.length ic) (.slice none 0 0) lu0 lc0 [] ∧ (w'.alloc (.cells #[.int .i64 S0, .int .i64 S1, .int .i64 S2, .int .i64 S3] 58)).heap[tb]? = some (.cells #[.int .i64 xk, .int .u64 xn, .string xs, .slice xa xm xc] 33 (0, 0))) ∧ (true = true → L 16 = false → ∃ g, (Value.slice (some ⟨w'.heap.size, 0, none⟩) 1 1) = .slice (some ⟨g, 0, none⟩) 1 1 ∧ (w'.alloc (.cells #[.int .i64 S0, .int .i64 S1, .int .i64 S2, .int .i64 S3] 58)).heap[g]? = some (.cells #[.int .i64 S0, .int .i64 S1, .int .i64 S2, .int .i64 S3] 58 (0, 0))) ∧ (L 16 = true → L 18 = false → RfS w C (w'.alloc (.cells #[.int .i64 S0, .int .i64 S1, .int .i64 S2, .int .i64 S3] 58)) bx pa rg (.slice ua lu0.length uc) (.slice ia lc0.length ic) (.slice none 0 0) (.slice none 0 0) (.slice ua lu0.length uc) v72 (.slice none 0 0) lu0 lc1 []) ∧ (L 18 = true → RfS w C (w'.alloc (.cells #[.int .i64 S0, .int .i64 S1, .int .i64 S2, .int .i64 S3] 58)) bx pa rg (.slice ua lu0.length uc) v72 (.slice none 0 0) (.slice none 0 0) (.slice ua lu0.length uc) v72 (.slice none 0 0) lu0 lc1 [])) := ⟨fun _ => ⟨h.below hb, (hb.block _ (blk_lt h2)).trans h2⟩, fun _ _ => ⟨w'.heap.size, rfl, heap_alloc_new _ _⟩, fun q => absurd q (by rw [n16]; decide), fun q => absurd ((m18 q).1) (by rw [n16]; decide)⟩
              clear F G
              go_simp
              refine hK 15 71 _ _ rfl ⟨_, _, _, _, _, _, _, _, _, _, _, _, _, _, _, _, _, _, rfl, d0, d1, d2, d3, d4, d5, d6, d7, d8, d9, d10, d11, d12, d13, d14, d17, (fun q => laterT (m1 q)), (fun q => laterT (m3 q)), (fun q => laterT (m4 q)), (fun q => ⟨laterT (m6 q).1, laterT (m6 q).2⟩), (fun q => laterT (m7 q)), (fun q => ⟨laterT (m9 q).1, laterT (m9 q).2⟩), (fun q => laterT (m10 q)), (fun q => ⟨laterT (m12 q).1, laterT (m12 q).2⟩), (fun q => laterT (m13 q)), (fun q => ⟨laterT (m14 q).1, laterT (m14 q).2.1, laterT (m14 q).2.2.1, laterT (m14 q).2.2.2⟩), (fun _ => laterT p14), (fun q => ⟨laterT (m16 q).1, laterT (m16 q).2.1, laterT (m16 q).2.2⟩), (fun q => ⟨laterT (m18 q).1, laterT (m18 q).2⟩), HW2⟩
            · rintro A L vs w' F G ⟨v56, v57, v58, v59, v60, v61, v62, v63, v64, v65, v66, v67, v68, v69, v70, v71, v72, v73, rfl, d0, d1, d2, d3, d4, d5, d6, d7, d8, d9, d10, d11, d12, d13, d14, d17, m1, m3, m4, m6, m7, m9, m10, m12, m13, m14, m15, m16, m18, HW⟩ hL hdep K' hK hK0
              have p1 : L 1 = true := hdep { on := 1, ground := Ground.data } (by simp) rfl
              have p15 : L 15 = true := hdep { on := 15, ground := Ground.data } (by simp) rfl
              have p13 : L 13 = true := hdep { on := 13, ground := Ground.chain } (by simp) rfl
              have n18 : L 18 = false := not_yet hL (fun q => (m18 q).1)
              have h := (HW.out.1 hL).1
              have h2 := (HW.out.1 hL).2
              obtain ⟨g9, e42, hg⟩ := HW.out.2.1 p15 hL
              subst e42
              have q := d1 p1
              subst q
              have hB := h.sz
              refine step_append_src w' rfl (.tmp 57) (.tmp 71) 23 rfl (w.heap.size + 2) 58 ii0 _ 4 32 Tryd.underlying23 ii1 ii2 ii3 ii4 rfl (by decide) (.slice ia lc0.length ic) lc0.length _ (F 1 57 _ rfl rfl) h.rc (.slice (some ⟨g9, 0, none⟩) 1 1) 1 _ (F 15 71 _ rfl rfl) (src_one hg rfl (by intro u hu; simp at hu; rcases hu with rfl | rfl | rfl | rfl <;> rfl)) (by unfold maxLen; omega) (by omega) (by omega) ?_
              intro a' c' w2 q1 q2 q3
              have h4 := h.appI (x := X) (by rw [HXE.out]; exact q1) q2
              rw [← HL1.out] at h4
              have HW2 : Hid ((true = false → RfS w C w2 bx pa rg (.slice ua lu0.length uc) (.slice ia lc0.length ic) (.slice none 0 0) (.slice none 0 0) (.slice ua lu0.length uc) (.slice ia lc0.length ic) (.slice none 0 0) lu0 lc0 [] ∧ w2.heap[tb]? = some (.cells #[.int .i64 xk, .int .u64 xn, .string xs, .slice xa xm xc] 33 (0, 0))) ∧ (L 15 = true → true = false → ∃ g, (Value.slice (some ⟨g9, 0, none⟩) 1 1) = .slice (some ⟨g, 0, none⟩) 1 1 ∧ w2.heap[g]? = some (.cells #[.int .i64 S0, .int .i64 S1, .int .i64 S2, .int .i64 S3] 58 (0, 0))) ∧ (true = true → L 18 = false → RfS w C w2 bx pa rg (.slice ua lu0.length uc) (.slice ia lc0.length ic) (.slice none 0 0) (.slice none 0 0) (.slice ua lu0.length uc) (.slice a' (lc0.length + 1) c') (.slice none 0 0) lu0 lc1 []) ∧ (L 18 = true → RfS w C w2 bx pa rg (.slice ua lu0.length uc) (.slice a' (lc0.length + 1) c') (.slice none 0 0) (.slice none 0 0) (.slice ua lu0.length uc) (.slice a' (lc0.length + 1) c') (.slice none 0 0) lu0 lc1 [])) := ⟨fun q => (by cases q), fun _ q => (by cases q), fun _ _ => h4, fun q => absurd q (by rw [n18]; decide)⟩
              refine hK 16 72 _ w2 rfl ⟨_, _, _, _, _, _, _, _, _, _, _, _, _, _, _, _, _, _, rfl, d0, d1, d2, d3, d4, d5, d6, d7, d8, d9, d10, d11, d12, d13, d14, d17, (fun q => laterT (m1 q)), (fun q => laterT (m3 q)), (fun q => laterT (m4 q)), (fun q => ⟨laterT (m6 q).1, laterT (m6 q).2⟩), (fun q => laterT (m7 q)), (fun q => ⟨laterT (m9 q).1, laterT (m9 q).2⟩), (fun q => laterT (m10 q)), (fun q => ⟨laterT (m12 q).1, laterT (m12 q).2⟩), (fun q => laterT (m13 q)), (fun q => ⟨laterT (m14 q).1, laterT (m14 q).2.1, laterT (m14 q).2.2.1, laterT (m14 q).2.2.2⟩), (fun q => laterT (m15 q)), (fun _ => ⟨laterT p1, laterT p13, laterT p15⟩), (fun q => ⟨laterT (m18 q).1, laterT (m18 q).2⟩), HW2⟩
            · rintro A L vs w' F G ⟨v56, v57, v58, v59, v60, v61, v62, v63, v64, v65, v66, v67, v68, v69, v70, v71, v72, v73, rfl, d0, d1, d2, d3, d4, d5, d6, d7, d8, d9, d10, d11, d12, d13, d14, d17, m1, m3, m4, m6, m7, m9, m10, m12, m13, m14, m15, m16, m18, HW⟩ hL hdep K' hK hK0
              have g5 : A.tmps[5]?.getD undef = .pointer (some ⟨bx, 0, none⟩) := evT ((G 5 (by decide)).trans rfl)
              clear F G
              go_simp
              refine hK 17 73 _ w' rfl ⟨_, _, _, _, _, _, _, _, _, _, _, _, _, _, _, _, _, _, rfl, d0, d1, d2, d3, d4, d5, d6, d7, d8, d9, d10, d11, d12, d13, d14, (fun _ => rfl), (fun q => laterT (m1 q)), (fun q => laterT (m3 q)), (fun q => laterT (m4 q)), (fun q => ⟨laterT (m6 q).1, laterT (m6 q).2⟩), (fun q => laterT (m7 q)), (fun q => ⟨laterT (m9 q).1, laterT (m9 q).2⟩), (fun q => laterT (m10 q)), (fun q => ⟨laterT (m12 q).1, laterT (m12 q).2⟩), (fun q => laterT (m13 q)), (fun q => ⟨laterT (m14 q).1, laterT (m14 q).2.1, laterT (m14 q).2.2.1, laterT (m14 q).2.2.2⟩), (fun q => laterT (m15 q)), (fun q => ⟨laterT (m16 q).1, laterT (m16 q).2.1, laterT (m16 q).2.2⟩), (fun q => ⟨laterT (m18 q).1, laterT (m18 q).2⟩), HW⟩
            · rintro A L vs w' F G ⟨v56, v57, v58, v59, v60, v61, v62, v63, v64, v65, v66, v67, v68, v69, v70, v71, v72, v73, rfl, d0, d1, d2, d3, d4, d5, d6, d7, d8, d9, d10, d11, d12, d13, d14, d17, m1, m3, m4, m6, m7, m9, m10, m12, m13, m14, m15, m16, m18, HW⟩ hL hdep K' hK hK0
              have p17 : L 17 = true := hdep { on := 17, ground := Ground.data } (by simp) rfl
              have p16 : L 16 = true := hdep { on := 16, ground := Ground.data } (by simp) rfl
              have h := HW.out.2.2.1 p16 hL
              obtain ⟨ax, cx, ex⟩ := owns_form h.rc
              subst ex
              have cc : ∃ u, w'.cell? ⟨bx, 3, none⟩ = some u := ⟨_, by rw [Lib.cell_of_heap h.blk]; rfl⟩
              obtain ⟨uu, cc⟩ := cc
              have fz := Lib.frozen_of_heap h.blk 3
              have HW2 : Hid ((L 16 = false → RfS w C (w'.setCell ⟨bx, 3, none⟩ (Value.slice ax lc1.length cx)) bx pa rg (.slice ua lu0.length uc) (.slice ia lc0.length ic) (.slice none 0 0) (.slice none 0 0) (.slice ua lu0.length uc) (.slice ia lc0.length ic) (.slice none 0 0) lu0 lc0 [] ∧ (w'.setCell ⟨bx, 3, none⟩ (Value.slice ax lc1.length cx)).heap[tb]? = some (.cells #[.int .i64 xk, .int .u64 xn, .string xs, .slice xa xm xc] 33 (0, 0))) ∧ (L 15 = true → L 16 = false → ∃ g, v71 = .slice (some ⟨g, 0, none⟩) 1 1 ∧ (w'.setCell ⟨bx, 3, none⟩ (Value.slice ax lc1.length cx)).heap[g]? = some (.cells #[.int .i64 S0, .int .i64 S1, .int .i64 S2, .int .i64 S3] 58 (0, 0))) ∧ (L 16 = true → true = false → RfS w C (w'.setCell ⟨bx, 3, none⟩ (Value.slice ax lc1.length cx)) bx pa rg (.slice ua lu0.length uc) (.slice ia lc0.length ic) (.slice none 0 0) (.slice none 0 0) (.slice ua lu0.length uc) (Value.slice ax lc1.length cx) (.slice none 0 0) lu0 lc1 []) ∧ (true = true → RfS w C (w'.setCell ⟨bx, 3, none⟩ (Value.slice ax lc1.length cx)) bx pa rg (.slice ua lu0.length uc) (Value.slice ax lc1.length cx) (.slice none 0 0) (.slice none 0 0) (.slice ua lu0.length uc) (Value.slice ax lc1.length cx) (.slice none 0 0) lu0 lc1 [])) := ⟨fun q => absurd q (by rw [p16]; decide), fun _ q => absurd q (by rw [p16]; decide), fun _ q => (by cases q), fun _ => h.stI _⟩
              have q := d17 p17
              subst q
              have g73 := evT (F 17 73 _ rfl rfl)
              have gv := evT (F 16 72 _ rfl rfl)
              clear F G
              go_simp
              refine hK0 _ ⟨_, _, _, _, _, _, _, _, _, _, _, _, _, _, _, _, _, _, rfl, d0, d1, d2, d3, d4, d5, d6, d7, d8, d9, d10, d11, d12, d13, d14, d17, (fun q => laterT (m1 q)), (fun q => laterT (m3 q)), (fun q => laterT (m4 q)), (fun q => ⟨laterT (m6 q).1, laterT (m6 q).2⟩), (fun q => laterT (m7 q)), (fun q => ⟨laterT (m9 q).1, laterT (m9 q).2⟩), (fun q => laterT (m10 q)), (fun q => ⟨laterT (m12 q).1, laterT (m12 q).2⟩), (fun q => laterT (m13 q)), (fun q => ⟨laterT (m14 q).1, laterT (m14 q).2.1, laterT (m14 q).2.2.1, laterT (m14 q).2.2.2⟩), (fun q => laterT (m15 q)), (fun q => ⟨laterT (m16 q).1, laterT (m16 q).2.1, laterT (m16 q).2.2⟩), (fun _ => ⟨laterT p16, laterT p17⟩), HW2⟩
            · rintro L vs w' hall ⟨v56, v57, v58, v59, v60, v61, v62, v63, v64, v65, v66, v67, v68, v69, v70, v71, v72, v73, rfl, d0, d1, d2, d3, d4, d5, d6, d7, d8, d9, d10, d11, d12, d13, d14, d17, m1, m3, m4, m6, m7, m9, m10, m12, m13, m14, m15, m16, m18, HW⟩
              have h := HW.out.2.2.2 (hall 18 (by decide))
              obtain ⟨ax, cx, ex⟩ := owns_form h.rc
              subst ex
              have HRF := hide_p h
              clear d0 d1 d2 d3 d4 d5 d6 d7 d8 d9 d10 d11 d12 d13 d14 d17 m1 m3 m4 m6 m7 m9 m10 m12 m13 m14 m15 m16 m18 HW h
              simp only [puts]
              go_simp
              go_wp2
              go_roundw
              case rel => exact ⟨i + 1, ax, cx, lc1, by omega, by go_num, HLN, HRF⟩
              case measure => simp [intOf]; omega

          · have e : i = N3 := by omega
            have HFL3 : Hid (lc0 = (manyL a3).map rIns) := by
              show _ = _
              rw [HLL.out, List.take_of_length_le (by have := HN3.out; omega)]
            clear HLL HF HF0 x0 x1 x2 x3
            obtain ⟨HF0, -⟩ : Hid (RfS w C w5 bx pa rg (.slice ua lu0.length uc) (.slice ia lc0.length ic) (.slice none 0 0) (.slice none 0 0) (.slice ua lu0.length uc) (.slice ia lc0.length ic) (.slice none 0 0) lu0 lc0 []) ∧ True := ⟨HF5, trivial⟩
            clear HF5
            go_wp2_with fail
            go_loopw [10] (fun t10 wr => ∃ (i : Nat) (ka : Option Addr) (kc : Nat) (lk : List _), i ≤ N4 ∧ t10 = .int .i64 i ∧ Hid (lk = ((manyL a4).take i).map rVl) ∧ Hid (RfS w C wr bx pa rg (.slice ua lu0.length uc) (.slice ia lc0.length ic) (.slice ka lk.length kc) (.slice none 0 0) (.slice ua lu0.length uc) (.slice ia lc0.length ic) (.slice ka lk.length kc) lu0 lc0 lk)) (fun t10 _ => N4 - (intOf t10).toNat)
            case atStart => exact ⟨0, none, 0, [], Nat.zero_le _, rfl, rfl, HF0⟩
            case round =>
              obtain ⟨i, ka, kc, lk0, hi, rfl, HLL, HF⟩ := hrel
              obtain ⟨x0, x1, x2, x3⟩ := HCB.out wr HF.out.cb
              go_wp2_with fail
              refine (HA4.out wr HF.out.bel).mono ?_
              rintro e w4 ⟨rfl, hb4⟩
              have HF4 := hide_p (HF.out.below hb4)
              clear hb4 x0 x1 x2 x3
              go_wp2_with fail
              refine (HM4.out w4 HF4.out.bel).mono ?_
              rintro e w5 ⟨rfl, hb5⟩
              have HF5 := hide_p (HF4.out.below hb5)
              obtain ⟨x0, x1, x2, x3⟩ := HCB.out w5 HF5.out.cb
              clear hb5 HF4

              by_cases c : i < N4
              · have i1 : i < (manyL a4).length := by rw [← HN4.out]; exact c
                obtain ⟨ux, HCX, HAX, xk, xn, xs, xa, xm, xc, rfl⟩ := at_in HC4.out i
                obtain ⟨U0, HCU0, HX0, -⟩ := at_in HCX.out 0
                obtain ⟨U1, HCU1, HX1, yk, yn, ys, ya, ym, yc, rfl⟩ := at_in HCX.out 1
                have HSU0 := sm_in HCU0.out
                obtain ⟨X, hX⟩ : ∃ X, X = rVl (atT a4 i) := ⟨_, rfl⟩
                obtain ⟨K0, hK0⟩ : ∃ K0, K0 = smT (atT (atT a4 i) 0) := ⟨_, rfl⟩
                obtain ⟨-, e1n, e1s, -⟩ := CR.top (show CR w (atT (atT a4 i) 1) (cellV yk yn ys (.slice ya ym yc)) from HCU1.out)
                have HXE : Hid ([Value.int .i64 X.k, .int .u64 X.n, .string X.s, .int .i64 X.o] = [.int .i64 K0, .int .u64 ((if K0 = 3 then yn else 0 : Nat) : Int), .string (if K0 = 4 then ys else ⟨#[]⟩), .int .i64 0]) := by
                  show _ = _
                  rw [hX, e1n, e1s, hK0]
                  unfold rVl
                  simp only
                  by_cases q3 : smT (atT (atT a4 i) 0) = 3
                  · simp [q3, nob]
                  · by_cases q4 : smT (atT (atT a4 i) 0) = 4 <;> simp [q3, q4, nob]
                rw [← hK0] at HSU0
                obtain ⟨lk1, hlk1⟩ : ∃ lk1, lk1 = lk0 ++ [X] := ⟨_, rfl⟩
                have HL1 := hide_p hlk1
                have HLN : Hid (lk1 = ((manyL a4).take (i + 1)).map rVl) := by
                  show _ = _
                  rw [take_rd i1, ← hX, hlk1, HLL.out]
                have hn : lk0.length ≤ 1000000 := by rw [HLL.out, List.length_map, List.length_take]; omega
                clear hlk1 hX HCX hK0 HCU0 HCU1 e1n e1s
                go_wp2_with fail
                refine (HA4.out w5 HF5.out.bel).mono ?_
                rintro e w6 ⟨rfl, hb6⟩
                have HF6 := hide_p (HF5.out.below hb6)
                clear hb6 x0 x1 x2 x3 HF5
                go_wp2_with fail
                refine (HAX.out w6 HF6.out.bel).mono ?_
                rintro e w7 ⟨rfl, hb7⟩
                have HF7 := hide_p (HF6.out.below hb7)
                clear hb7 HF6 HAX
                obtain ⟨w8, hw8⟩ : ∃ w8, w8 = w7.alloc (.cells #[.int .i64 xk, .int .u64 xn, .string xs, .slice xa xm xc] 33) := ⟨_, rfl⟩
                obtain ⟨tb, htb⟩ : ∃ tb, tb = w7.heap.size := ⟨_, rfl⟩
                have HF8 : Hid (RfS w C w8 bx pa rg (.slice ua lu0.length uc) (.slice ia lc0.length ic) (.slice ka lk0.length kc) (.slice none 0 0) (.slice ua lu0.length uc) (.slice ia lc0.length ic) (.slice ka lk0.length kc) lu0 lc0 lk0 ∧ w8.heap[tb]? = some (.cells #[.int .i64 xk, .int .u64 xn, .string xs, .slice xa xm xc] 33 (0, 0))) := by
                  show _ ∧ _
                  rw [hw8, htb]
                  exact ⟨HF7.out.below ((Below.refl _ _).alloc (Nat.le_refl _) _), heap_alloc_new _ _⟩
                go_upto_region 16 with fail
                rw [← hw8, ← htb]
                have HTB := hide_p (And.intro hw8 htb)
                clear hw8 htb
                obtain ⟨b0, b1, b2, b3⟩ := block4 HF8.out.2
                go_wp2_with fail
                refine (HX0.out w8 HF8.out.1.bel).mono ?_
                rintro e w9 ⟨rfl, hb9⟩
                have HF9 := hide_p (And.intro (HF8.out.1.below hb9) ((hb9.block _ (blk_lt HF8.out.2)).trans HF8.out.2))
                clear hb9 b0 b1 b2 b3
                go_wp2_with fail
                refine (HSU0.out w9 HF9.out.1.bel).mono ?_
                rintro e w10 ⟨rfl, hb10⟩
                have HF10 := hide_p (And.intro (HF9.out.1.below hb10) ((hb10.block _ (blk_lt HF9.out.2)).trans HF9.out.2))
                clear hb10
                obtain ⟨w11, hw11⟩ : ∃ w11, w11 = w10.alloc (.cells #[.int .i64 K0, .int .u64 0, .string ⟨#[]⟩, .int .i64 0] 63) := ⟨_, rfl⟩
                obtain ⟨vb, hvb⟩ : ∃ vb, vb = w10.heap.size := ⟨_, rfl⟩
                have HB11 : Hid (Below w10.heap.size w10 w11 ∧ w11.heap[vb]? = some (.cells #[.int .i64 K0, .int .u64 0, .string ⟨#[]⟩, .int .i64 0] 63 (0, 0)) ∧ w10.heap.size ≤ vb) := by
                  show _ ∧ _
                  rw [hw11, hvb]
                  exact ⟨(Below.refl _ _).alloc (Nat.le_refl _) _, heap_alloc_new _ _, Nat.le_refl _⟩
                go_upto_region 17 with fail
                rw [← hw11, ← hvb]
                have HTB2 := hide_p (And.intro hw11 hvb)
                clear hw11 hvb
                obtain ⟨v0, v1, v2, v3⟩ := block4 HB11.out.2.1
                obtain ⟨b0, b1, b2, b3⟩ := block4 ((HB11.out.1.block _ (blk_lt HF10.out.2)).trans HF10.out.2)
                by_cases k3 : K0 = 3
                · have k3i : (K0 : Int) = 3 := by omega
                  have HXE3 : Hid ([Value.int .i64 X.k, .int .u64 X.n, .string X.s, .int .i64 X.o] = [.int .i64 3, .int .u64 yn, .string ⟨#[]⟩, .int .i64 0]) := by
                    show _ = _
                    rw [HXE.out, k3i, if_pos k3, if_neg (by omega)]
                  have HBV := HB11.out.2.1
                  rw [k3i] at v0 HBV
                  have HBV := hide_p HBV
                  have hfd : ∀ w, Sem.run Tryd.prog (Instr.field 33 (.agg #[.int .i64 yk, .int .u64 yn, .string ys, .slice ya ym yc]) 1) w = .ok (.int .u64 yn) w := fun w => by kernel_rfl
                  go_wp2_with fail
                  refine (HX1.out w11 (HF10.out.1.below HB11.out.1).bel).mono ?_
                  rintro e w12 ⟨rfl, hb12⟩
                  have HB12 := hide_p hb12
                  have hv12 := (hb12.block _ (blk_lt HBV.out)).trans HBV.out
                  have HV12 := hide_p hv12
                  obtain ⟨v0', v1', v2', v3'⟩ := block4 hv12
                  have fz := Lib.frozen_of_heap hv12 1
                  clear hb12 hv12 v0 v1 v2 v3 b0 b1 b2 b3
                  obtain ⟨w13, hw13⟩ : ∃ w13, w13 = w12.setCell ⟨vb, 1, none⟩ (.int .u64 yn) := ⟨_, rfl⟩
                  have hv13 : w13.heap[vb]? = some (.cells #[.int .i64 3, .int .u64 yn, .string ⟨#[]⟩, .int .i64 0] 63 (0, 0)) := by rw [hw13]; exact heap_setCell_same _ _ 1 _ _ _ HV12.out
                  have hb13 : Below w10.heap.size w10 w13 := by rw [hw13]; exact (HB11.out.1.trans (HB12.out.mono HB11.out.1.size)).setCell (p := ⟨vb, 1, none⟩) HB11.out.2.2 _
                  go_upto_region 19 with fail
                  rw [← hw13]
                  clear hw13 v0' v1' v2' v3' fz
                  have HFv := hide_p (HF10.out.1.below hb13)
                  have c4 : w13.cell? ⟨bx, 4, none⟩ = some (.slice ka lk0.length kc) := by rw [Lib.cell_of_heap HFv.out.blk]; rfl
                  obtain ⟨v0, v1, v2, v3⟩ := block4 hv13
                  have HFa := hide_p (HFv.out.below ((Below.refl _ w13).alloc (Nat.le_refl _) (.cells #[.int .i64 3, .int .u64 yn, .string ⟨#[]⟩, .int .i64 0] 63)))
                  have hown := HFa.out.rk
                  have hszv := HFv.out.sz
                  go_wp2_with (at_builtin; refine wpList_append_src _ rfl _ _ 24 rfl (w.heap.size + 2) 63 iv0 _ 4 40 Tryd.underlying24 iv1 iv2 iv3 iv4 rfl (by decide) _ lk0.length _ rfl hown _ 1 _ rfl (src_one (heap_alloc_new w13 _) rfl (by intro u hu; simp at hu; rcases hu with rfl | rfl | rfl | rfl <;> rfl)) (by unfold maxLen; omega) (by omega) (by simp; omega) ?_)
                  intro a' c' w14 q1 q2 q3
                  have h4 := HFa.out.appV (x := X) (by rw [HXE3.out]; exact q1) q2
                  rw [← HL1.out] at h4
                  have e4 := h4.blk
                  obtain ⟨z0, z1, z2, z3, z4, z5⟩ := block6 e4
                  have fz := Lib.frozen_of_heap e4 4
                  have HST : Hid (∀ W, W = w14.setCell ⟨bx, 4, none⟩ (.slice a' (lk0.length + 1) c') → RfS w C W bx pa rg (.slice ua lu0.length uc) (.slice ia lc0.length ic) (.slice a' lk1.length c') (.slice none 0 0) (.slice ua lu0.length uc) (.slice ia lc0.length ic) (.slice a' lk1.length c') lu0 lc0 lk1) := by
                    intro W hW
                    have h5 := h4.stV (.slice a' (lk0.length + 1) c')
                    have hlen : lk1.length = lk0.length + 1 := by rw [HL1.out]; simp
                    rw [hW, hlen]
                    exact h5
                  clear hown q1 q2 q3 h4 e4 c4 v0 v1 v2 v3 HFa
                  go_wp2
                  have y1 := HST.out _ rfl
                  go_roundw
                  case rel => exact ⟨i + 1, a', c', lk1, by omega, by go_num, HLN, y1⟩
                  case measure => simp [intOf]; omega

                · have k3i : ¬ (K0 : Int) = 3 := by omega
                  have k3b : ((K0 : Int) == 3) = false := by simpa using k3i
                  by_cases k4 : K0 = 4
                  · have k4i : (K0 : Int) = 4 := by omega
                    have HXE4 : Hid ([Value.int .i64 X.k, .int .u64 X.n, .string X.s, .int .i64 X.o] = [.int .i64 4, .int .u64 0, .string ys, .int .i64 0]) := by
                      show _ = _
                      rw [HXE.out, k4i, if_neg k3, if_pos k4]
                      rfl
                    have HBV := HB11.out.2.1
                    rw [k4i] at v0 HBV
                    have HBV := hide_p HBV
                    have hfd : ∀ w, Sem.run Tryd.prog (Instr.field 33 (.agg #[.int .i64 yk, .int .u64 yn, .string ys, .slice ya ym yc]) 2) w = .ok (.string ys) w := fun w => by kernel_rfl
                    clear k3i k3b
                    go_wp2_with fail
                    refine (HX1.out w11 (HF10.out.1.below HB11.out.1).bel).mono ?_
                    rintro e w12 ⟨rfl, hb12⟩
                    have HB12 := hide_p hb12
                    have hv12 := (hb12.block _ (blk_lt HBV.out)).trans HBV.out
                    have HV12 := hide_p hv12
                    obtain ⟨v0', v1', v2', v3'⟩ := block4 hv12
                    have fz := Lib.frozen_of_heap hv12 2
                    clear hb12 hv12 v0 v1 v2 v3 b0 b1 b2 b3
                    obtain ⟨w13, hw13⟩ : ∃ w13, w13 = w12.setCell ⟨vb, 2, none⟩ (.string ys) := ⟨_, rfl⟩
                    have hv13 : w13.heap[vb]? = some (.cells #[.int .i64 4, .int .u64 0, .string ys, .int .i64 0] 63 (0, 0)) := by rw [hw13]; exact heap_setCell_same _ _ 2 _ _ _ HV12.out
                    have hb13 : Below w10.heap.size w10 w13 := by rw [hw13]; exact (HB11.out.1.trans (HB12.out.mono HB11.out.1.size)).setCell (p := ⟨vb, 2, none⟩) HB11.out.2.2 _
                    go_upto_region 21 with fail
                    rw [← hw13]
                    clear hw13 v0' v1' v2' v3' fz
                    have HFv := hide_p (HF10.out.1.below hb13)
                    have c4 : w13.cell? ⟨bx, 4, none⟩ = some (.slice ka lk0.length kc) := by rw [Lib.cell_of_heap HFv.out.blk]; rfl
                    obtain ⟨v0, v1, v2, v3⟩ := block4 hv13
                    have HFa := hide_p (HFv.out.below ((Below.refl _ w13).alloc (Nat.le_refl _) (.cells #[.int .i64 4, .int .u64 0, .string ys, .int .i64 0] 63)))
                    have hown := HFa.out.rk
                    have hszv := HFv.out.sz
                    go_wp2_with (at_builtin; refine wpList_append_src _ rfl _ _ 24 rfl (w.heap.size + 2) 63 iv0 _ 4 40 Tryd.underlying24 iv1 iv2 iv3 iv4 rfl (by decide) _ lk0.length _ rfl hown _ 1 _ rfl (src_one (heap_alloc_new w13 _) rfl (by intro u hu; simp at hu; rcases hu with rfl | rfl | rfl | rfl <;> rfl)) (by unfold maxLen; omega) (by omega) (by simp; omega) ?_)
                    intro a' c' w14 q1 q2 q3
                    have h4 := HFa.out.appV (x := X) (by rw [HXE4.out]; exact q1) q2
                    rw [← HL1.out] at h4
                    have e4 := h4.blk
                    obtain ⟨z0, z1, z2, z3, z4, z5⟩ := block6 e4
                    have fz := Lib.frozen_of_heap e4 4
                    have HST : Hid (∀ W, W = w14.setCell ⟨bx, 4, none⟩ (.slice a' (lk0.length + 1) c') → RfS w C W bx pa rg (.slice ua lu0.length uc) (.slice ia lc0.length ic) (.slice a' lk1.length c') (.slice none 0 0) (.slice ua lu0.length uc) (.slice ia lc0.length ic) (.slice a' lk1.length c') lu0 lc0 lk1) := by
                      intro W hW
                      have h5 := h4.stV (.slice a' (lk0.length + 1) c')
                      have hlen : lk1.length = lk0.length + 1 := by rw [HL1.out]; simp
                      rw [hW, hlen]
                      exact h5
                    clear hown q1 q2 q3 h4 e4 c4 v0 v1 v2 v3 HFa
                    go_wp2
                    have y1 := HST.out _ rfl
                    go_roundw
                    case rel => exact ⟨i + 1, a', c', lk1, by omega, by go_num, HLN, y1⟩
                    case measure => simp [intOf]; omega

                  · have k4i : ¬ (K0 : Int) = 4 := by omega
                    have k4b : ((K0 : Int) == 4) = false := by simpa using k4i
                    have HXE5 : Hid ([Value.int .i64 X.k, .int .u64 X.n, .string X.s, .int .i64 X.o] = [.int .i64 K0, .int .u64 0, .string ⟨#[]⟩, .int .i64 0]) := by
                      show _ = _
                      rw [HXE.out, if_neg k3, if_neg k4]
                      rfl
                    have hv13 := HB11.out.2.1
                    have hb13 := HB11.out.1
                    clear b0 b1 b2 b3
                    go_upto_region 21 with fail
                    clear v0 v1 v2 v3
                    have HFv := hide_p (HF10.out.1.below hb13)
                    have c4 : w11.cell? ⟨bx, 4, none⟩ = some (.slice ka lk0.length kc) := by rw [Lib.cell_of_heap HFv.out.blk]; rfl
                    obtain ⟨v0, v1, v2, v3⟩ := block4 hv13
                    have HFa := hide_p (HFv.out.below ((Below.refl _ w11).alloc (Nat.le_refl _) (.cells #[.int .i64 K0, .int .u64 0, .string ⟨#[]⟩, .int .i64 0] 63)))
                    have hown := HFa.out.rk
                    have hszv := HFv.out.sz
                    go_wp2_with (at_builtin; refine wpList_append_src _ rfl _ _ 24 rfl (w.heap.size + 2) 63 iv0 _ 4 40 Tryd.underlying24 iv1 iv2 iv3 iv4 rfl (by decide) _ lk0.length _ rfl hown _ 1 _ rfl (src_one (heap_alloc_new w11 _) rfl (by intro u hu; simp at hu; rcases hu with rfl | rfl | rfl | rfl <;> rfl)) (by unfold maxLen; omega) (by omega) (by simp; omega) ?_)
                    intro a' c' w14 q1 q2 q3
                    have h4 := HFa.out.appV (x := X) (by rw [HXE5.out]; exact q1) q2
                    rw [← HL1.out] at h4
                    have e4 := h4.blk
                    obtain ⟨z0, z1, z2, z3, z4, z5⟩ := block6 e4
                    have fz := Lib.frozen_of_heap e4 4
                    have HST : Hid (∀ W, W = w14.setCell ⟨bx, 4, none⟩ (.slice a' (lk0.length + 1) c') → RfS w C W bx pa rg (.slice ua lu0.length uc) (.slice ia lc0.length ic) (.slice a' lk1.length c') (.slice none 0 0) (.slice ua lu0.length uc) (.slice ia lc0.length ic) (.slice a' lk1.length c') lu0 lc0 lk1) := by
                      intro W hW
                      have h5 := h4.stV (.slice a' (lk0.length + 1) c')
                      have hlen : lk1.length = lk0.length + 1 := by rw [HL1.out]; simp
                      rw [hW, hlen]
                      exact h5
                    clear hown q1 q2 q3 h4 e4 c4 v0 v1 v2 v3 HFa
                    go_wp2
                    have y1 := HST.out _ rfl
                    go_roundw
                    case rel => exact ⟨i + 1, a', c', lk1, by omega, by go_num, HLN, y1⟩
                    case measure => simp [intOf]; omega


              · have e : i = N4 := by omega
                have HFL4 : Hid (lk0 = (manyL a4).map rVl) := by
                  show _ = _
                  rw [HLL.out, List.take_of_length_le (by have := HN4.out; omega)]
                clear HLL HF HF0 x0 x1 x2 x3
                obtain ⟨HF0, -⟩ : Hid (RfS w C w5 bx pa rg (.slice ua lu0.length uc) (.slice ia lc0.length ic) (.slice ka lk0.length kc) (.slice none 0 0) (.slice ua lu0.length uc) (.slice ia lc0.length ic) (.slice ka lk0.length kc) lu0 lc0 lk0) ∧ True := ⟨HF5, trivial⟩
                clear HF5
                have HVK : Hid (∀ z ∈ manyL a4, Stx z ∧ Ntx z) := HKV
                by_cases hm0 : m = 0
                · have hD : ¬ (D < 100) := by have := HDD.out; omega
                  obtain ⟨lp0, hlp0⟩ : ∃ lp0 : List Pr, lp0 = [] := ⟨_, rfl⟩
                  have hrr : Hid (r = .mk pa rg lu0 lc0 lk0 lp0) := by
                    show _ = _
                    rw [HRD.out, hm0, HPA.out.1, HPA.out.2, HFL2.out, HFL3.out, HFL4.out, hlp0, HAJ2.out, HAJ3.out, HAJ4.out, rdT]
                  have hlpn : Hid (lp0.length ≤ 1000000) := by show _ ≤ _; rw [hlp0]; simp
                  obtain ⟨qa, hqa⟩ : ∃ qa : Option Addr, qa = none := ⟨_, rfl⟩
                  obtain ⟨qc, hqc⟩ : ∃ qc : Nat, qc = 0 := ⟨_, rfl⟩
                  have HF1 : Hid (RfP w C w5 bx pa rg (.slice ua lu0.length uc) (.slice ia lc0.length ic) (.slice ka lk0.length kc) (.slice qa lp0.length qc) (.slice ua lu0.length uc) (.slice ia lc0.length ic) (.slice ka lk0.length kc) (.slice qa lp0.length qc) lu0 lc0 lk0 lp0 (fun _ => ⟨0, 0, .slice none 0 0, .slice none 0 0, .slice none 0 0, .slice none 0 0⟩)) := by
                    have h1 : (Value.slice qa lp0.length qc) = .slice none 0 0 := by rw [hqa, hqc, hlp0]; rfl
                    show RfP _ _ _ _ _ _ _ _ _ _ _ _ _ _ _ _ _ _ _
                    rw [h1, hlp0]
                    exact ⟨HF0.out, PW.nil _ ⟨rfl, Or.inl ⟨rfl, rfl⟩⟩⟩
                  clear HF0 hqa hqc hlp0
                  go_wp2_with fail
                  go_loopw [13] (fun t13 wr => t13 = .int .i64 0 ∧ Hid (RfP w C wr bx pa rg (.slice ua lu0.length uc) (.slice ia lc0.length ic) (.slice ka lk0.length kc) (.slice qa lp0.length qc) (.slice ua lu0.length uc) (.slice ia lc0.length ic) (.slice ka lk0.length kc) (.slice qa lp0.length qc) lu0 lc0 lk0 lp0 (fun _ => ⟨0, 0, .slice none 0 0, .slice none 0 0, .slice none 0 0, .slice none 0 0⟩))) (fun _ _ => 0)
                  case atStart => exact ⟨rfl, HF1⟩
                  case round =>
                    obtain ⟨rfl, HF0⟩ := hrel
                    clear HF1
                    obtain ⟨z0, z1, z2, z3, z4, z5⟩ := block6 HF0.out.blk
                    obtain ⟨y0', y1', y2', y3', y4', y5'⟩ := block6 HF0.out.rf.rs
                    have hfz := Lib.frozen_of_heap HF0.out.rf.rs
                    have f0 := hfz 0
                    have f1 := hfz 1
                    have f2 := hfz 2
                    have f3 := hfz 3
                    have f4 := hfz 4
                    have f5 := hfz 5
                    have HE : Hid (∀ W, W = ((((((wr.setCell ⟨w.heap.size + 1, 0, none⟩ (.int .i64 pa)).setCell ⟨w.heap.size + 1, 1, none⟩ (.int .i64 rg)).setCell ⟨w.heap.size + 1, 2, none⟩ (.slice ua lu0.length uc)).setCell ⟨w.heap.size + 1, 3, none⟩ (.slice ia lc0.length ic)).setCell ⟨w.heap.size + 1, 4, none⟩ (.slice ka lk0.length kc)).setCell ⟨w.heap.size + 1, 5, none⟩ (.slice qa lp0.length qc)) → W.heap[w.heap.size + 1]? = some (.cells #[.int .i64 pa, .int .i64 rg, .slice ua lu0.length uc, .slice ia lc0.length ic, .slice ka lk0.length kc, .slice qa lp0.length qc] 27 (0, 0)) ∧ Below w.heap.size w W ∧ PRS (fun k => w.heap.size ≤ k) W r ⟨pa, rg, .slice ua lu0.length uc, .slice ia lc0.length ic, .slice ka lk0.length kc, .slice qa lp0.length qc⟩) := by
                      intro W hW
                      have h := HF0.out
                      have hh := h.rf.hbx
                      have hoth : ∀ k, k ≠ w.heap.size + 1 → W.heap[k]? = wr.heap[k]? := fun k hk => by rw [hW]; exact set6_other hk _ _ _ _ _ _
                      refine ⟨by rw [hW]; exact set6_block h.rf.rs _ _ _ _ _ _, by rw [hW]; exact set_low (set_low (set_low (set_low (set_low (set_low h.bel (by omega)) (by omega)) (by omega)) (by omega)) (by omega)) (by omega), ?_⟩
                      have hlu : lu0.length ≤ 1000000 := by rw [HFL2.out, List.length_map]; have := HN2.out; omega
                      have hlc : lc0.length ≤ 1000000 := by rw [HFL3.out, List.length_map]; have := HN3.out; omega
                      have hlk : lk0.length ≤ 1000000 := by rw [HFL4.out, List.length_map]; have := HN4.out; omega
                      have hlp : lp0.length ≤ 1000000 := hlpn.out
                      have s1 : SL wr (.slice ua lu0.length uc) lu0.length 2 (uppF lu0) := SL.of_owns h.rf.ru (by unfold far; omega) (fun i j hi _ => uppC_F j hi)
                      have s2 : SL wr (.slice ia lc0.length ic) lc0.length 4 (insF lc0) := SL.of_owns h.rf.rc (by unfold far; omega) (fun i j hi _ => insC_F j hi)
                      have s3 : SL wr (.slice ka lk0.length kc) lk0.length 4 (vlF lk0) := SL.of_owns h.rf.rk (by unfold far; omega) (fun i j hi _ => vlC_F j hi)
                      have s4 := h.pw.sl (by unfold far; omega)
                      have b1 := InB.own h.rf.ru
                      have b2 := InB.own h.rf.rc
                      have b3 := InB.own h.rf.rk
                      have b4 := InB.own h.pw.own
                      rw [hrr.out, PRS_mk]
                      refine ⟨rfl, rfl, HI64.out.1, HI64.out.2, ⟨⟨s1.move (by decide) b1 (fun k h1 _ => hoth k (by omega)), ?_⟩, b1.widen (fun k hk => by omega)⟩, ⟨⟨s2.move (by decide) b2 (fun k h1 _ => hoth k (by omega)), ?_⟩, b2.widen (fun k hk => by omega)⟩, ⟨⟨s3.move (by decide) b3 (fun k h1 _ => hoth k (by omega)), ?_⟩, b3.widen (fun k hk => by omega)⟩, _, ⟨s4.move (by decide) b4 (fun k h1 _ => hoth k (by omega)), b4.widen (fun k hk => by omega)⟩, fun i hi => PRS.widen (fun k hk => by omega) _ _ (PRS.same (w' := W) (fun k hk => hoth k (by omega)) _ _ (h.pw.kid i hi))⟩
                      · intro x hx
                        rw [HFL2.out] at hx
                        obtain ⟨z, -, rfl⟩ := List.mem_map.1 hx
                        exact rUp_ok z
                      · intro x hx
                        rw [HFL3.out] at hx
                        obtain ⟨z, -, rfl⟩ := List.mem_map.1 hx
                        exact rIns_ok z
                      · intro x hx
                        rw [HFL4.out] at hx
                        obtain ⟨z, hz, rfl⟩ := List.mem_map.1 hx
                        exact rVl_ok z (HVK.out z hz).1 (HVK.out z hz).2
                    clear hfz
                    go_wp2
                    obtain ⟨y1, y2, y3⟩ := HE.out _ rfl
                    exact bodyPost_ret (results_cell_row rfl _ _ (w.heap.size + 1) _ _ _ _ rfl y1 Tryd.underlying27 rfl szPr) rfl ⟨_, _, _, _, _, _, _, _, _, _, _, _, _, _, rfl, y2, y3⟩

                · obtain ⟨m', hm'⟩ : ∃ m', m = m' + 1 := ⟨m - 1, by omega⟩
                  have hD : D < 100 := by have := HDD.out; omega
                  have HRM : Hid (∀ (t : Tr) (v : Value) (w : World), CR w t v → Stx t → t.cnt ≤ 1000000 → Calls Tryd.prog 36 #[v, .int .i64 (D + 1)] w (RdR w (rdT m' t))) := by
                    have e : D + 1 = 100 - (m' : Int) := by have := HDD.out; omega
                    rw [e]
                    exact HR.out m' hm'
                  have HF1 : Hid (RfP w C w5 bx pa rg (.slice ua lu0.length uc) (.slice ia lc0.length ic) (.slice ka lk0.length kc) (.slice none 0 0) (.slice ua lu0.length uc) (.slice ia lc0.length ic) (.slice ka lk0.length kc) (.slice none 0 0) lu0 lc0 lk0 [] (fun _ => ⟨0, 0, .slice none 0 0, .slice none 0 0, .slice none 0 0, .slice none 0 0⟩)) := ⟨HF0.out, PW.nil _ ⟨rfl, Or.inl ⟨rfl, rfl⟩⟩⟩
                  clear HF0
                  go_wp2_with fail
                  go_loopw [13] (fun t13 wr => ∃ (i : Nat) (qa : Option Addr) (qc : Nat) (lp : List Pr) (y : Nat → Six), i ≤ N5 ∧ t13 = .int .i64 i ∧ Hid (lp = ((manyL a5).take i).map (rdT m')) ∧ Hid (RfP w C wr bx pa rg (.slice ua lu0.length uc) (.slice ia lc0.length ic) (.slice ka lk0.length kc) (.slice qa lp.length qc) (.slice ua lu0.length uc) (.slice ia lc0.length ic) (.slice ka lk0.length kc) (.slice qa lp.length qc) lu0 lc0 lk0 lp y)) (fun t13 _ => N5 - (intOf t13).toNat)
                  case atStart => exact ⟨0, none, 0, [], _, Nat.zero_le _, rfl, rfl, HF1⟩
                  case round =>
                    obtain ⟨i, qa, qc, lp0, y0, hi, rfl, HLL, HF⟩ := hrel
                    clear HF1
                    obtain ⟨x0, x1, x2, x3⟩ := HCB.out wr HF.out.cb
                    go_wp2_with fail
                    refine (HA5.out wr HF.out.bel).mono ?_
                    rintro e w4 ⟨rfl, hb4⟩
                    have HF4 := hide_p (HF.out.below hb4)
                    clear hb4 x0 x1 x2 x3
                    go_wp2_with fail
                    refine (HM5.out w4 HF4.out.bel).mono ?_
                    rintro e w5 ⟨rfl, hb5⟩
                    have HF5 := hide_p (HF4.out.below hb5)
                    obtain ⟨x0, x1, x2, x3⟩ := HCB.out w5 HF5.out.cb
                    clear hb5 HF4

                    by_cases c : i < N5
                    · have i1 : i < (manyL a5).length := by rw [← HN5.out]; exact c
                      obtain ⟨ux, HCX, HAX, xk, xn, xs, xa, xm, xc, rfl⟩ := at_in HC5.out i
                      obtain ⟨r0, hr0⟩ : ∃ r0, r0 = rdT m' (atT a5 i) := ⟨_, rfl⟩
                      obtain ⟨lp1, hlp1⟩ : ∃ lp1, lp1 = lp0 ++ [r0] := ⟨_, rfl⟩
                      have HL1 := hide_p hlp1
                      have HLN : Hid (lp1 = ((manyL a5).take (i + 1)).map (rdT m')) := by
                        show _ = _
                        rw [take_rd i1, ← hr0, hlp1, HLL.out]
                      have hn : lp0.length ≤ 1000000 := by rw [HLL.out, List.length_map, List.length_take]; omega
                      have HRX : Hid (∀ w', Below w.heap.size w w' → Calls Tryd.prog 36 #[(.agg #[.int .i64 xk, .int .u64 xn, .string xs, .slice xa xm xc]), .int .i64 (D + 1)] w' (RdR w' r0)) := by
                        intro w' hb
                        have hx := HRM.out (atT a5 i) _ w' (HCX.out.kept hb (Nat.le_refl _)) (HKX.out i).1 (HKX.out i).2
                        rw [← hr0] at hx
                        exact hx
                      have HC8 : Hid (w5.heap[w.heap.size]? = some (.cells #[.int .i64 k, .int .u64 n, .string s, .slice a l.length cap] 33 (0, 0))) := by show _ = _; rw [← HCC.out]; exact HF5.out.cb
                      clear hlp1 hr0 HCX x0 x1 x2 x3
                      go_wp2_with fail
                      refine wp_region_inv2 (by kernel_rfl) [120, 121, 122, 123, 124, 125, 126, 127, 128, 129, 130, 131] (fun L vs w' => ∃ v120 v121 v122 v123 v124 v125 v126 v127 v128 v129 v130 v131, vs = [v120, v121, v122, v123, v124, v125, v126, v127, v128, v129, v130, v131] ∧ (L 0 = true → v120 = (.pointer (some ⟨bx, 5, none⟩))) ∧ (L 1 = true → v121 = .slice qa lp0.length qc) ∧ (L 2 = true → v122 = (.agg #[.int .i64 k, .int .u64 n, .string s, .slice a l.length cap])) ∧ (L 3 = true → v123 = u5) ∧ (L 4 = true → v124 = (.int .i64 (i : Nat))) ∧ (L 5 = true → v125 = (.agg #[.int .i64 xk, .int .u64 xn, .string xs, .slice xa xm xc])) ∧ (L 6 = true → v126 = (.int .i64 D)) ∧ (L 7 = true → v127 = (.int .i64 (D + 1))) ∧ (L 11 = true → v131 = (.pointer (some ⟨bx, 5, none⟩))) ∧ (L 1 = true → L 0 = true) ∧ (L 3 = true → L 2 = true) ∧ (L 5 = true → L 3 = true ∧ L 4 = true) ∧ (L 7 = true → L 6 = true) ∧ (L 8 = true → L 5 = true ∧ L 7 = true) ∧ (L 9 = true → L 8 = true) ∧ (L 10 = true → L 1 = true ∧ L 8 = true ∧ L 9 = true) ∧ (L 12 = true → L 10 = true ∧ L 11 = true) ∧ Hid ((L 10 = false → RfP w C w' bx pa rg (.slice ua lu0.length uc) (.slice ia lc0.length ic) (.slice ka lk0.length kc) (.slice qa lp0.length qc) (.slice ua lu0.length uc) (.slice ia lc0.length ic) (.slice ka lk0.length kc) (.slice qa lp0.length qc) lu0 lc0 lk0 lp0 y0 ∧ w'.heap[w.heap.size]? = some (.cells #[.int .i64 k, .int .u64 n, .string s, .slice a l.length cap] 33 (0, 0))) ∧ (L 9 = true → L 10 = false → RdG (fun b => bx + 1 ≤ b ∧ some b ≠ (Value.slice qa lp0.length qc).ownBlock) w' r0 v129) ∧ (L 10 = true → L 12 = false → ∃ y1, RfP w C w' bx pa rg (.slice ua lu0.length uc) (.slice ia lc0.length ic) (.slice ka lk0.length kc) (.slice qa lp0.length qc) (.slice ua lu0.length uc) (.slice ia lc0.length ic) (.slice ka lk0.length kc) v130 lu0 lc0 lk0 lp1 y1) ∧ (L 12 = true → ∃ y1, RfP w C w' bx pa rg (.slice ua lu0.length uc) (.slice ia lc0.length ic) (.slice ka lk0.length kc) v130 (.slice ua lu0.length uc) (.slice ia lc0.length ic) (.slice ka lk0.length kc) v130 lu0 lc0 lk0 lp1 y1) ∧ (L 8 = true → L 9 = false → RdV (fun b => bx + 1 ≤ b ∧ some b ≠ (Value.slice qa lp0.length qc).ownBlock) w' r0 v128))) (by kernel_rfl) (by decide) (by simp) ?_ ⟨?_, ?_, ?_, ?_, ?_, ?_, ?_, ?_, ?_, ?_, ?_, ?_, ?_, trivial⟩ ?_
                      · exact ⟨_, _, _, _, _, _, _, _, _, _, _, _, rfl, fun q => by (cases q), fun q => by (cases q), fun q => by (cases q), fun q => by (cases q), fun q => by (cases q), fun q => by (cases q), fun q => by (cases q), fun q => by (cases q), fun q => by (cases q), fun q => by (cases q), fun q => by (cases q), fun q => by (cases q), fun q => by (cases q), fun q => by (cases q), fun q => by (cases q), fun q => by (cases q), fun q => by (cases q), ⟨fun _ => ⟨HF5.out.below (Below.refl _ _).drew, HC8.out⟩, fun q => (by cases q), fun q => (by cases q), fun q => (by cases q), fun q => (by cases q)⟩⟩
                      · rintro A L vs w' F G ⟨v120, v121, v122, v123, v124, v125, v126, v127, v128, v129, v130, v131, rfl, d0, d1, d2, d3, d4, d5, d6, d7, d11, m1, m3, m5, m7, m8, m9, m10, m12, HW⟩ hL hdep K' hK hK0
                        have g5 : A.tmps[5]?.getD undef = .pointer (some ⟨bx, 0, none⟩) := evT ((G 5 (by decide)).trans rfl)
                        clear F G
                        go_simp
                        refine hK 0 120 _ w' rfl ⟨_, _, _, _, _, _, _, _, _, _, _, _, rfl, (fun _ => rfl), d1, d2, d3, d4, d5, d6, d7, d11, (fun q => laterT (m1 q)), (fun q => laterT (m3 q)), (fun q => ⟨laterT (m5 q).1, laterT (m5 q).2⟩), (fun q => laterT (m7 q)), (fun q => ⟨laterT (m8 q).1, laterT (m8 q).2⟩), (fun q => laterT (m9 q)), (fun q => ⟨laterT (m10 q).1, laterT (m10 q).2.1, laterT (m10 q).2.2⟩), (fun q => ⟨laterT (m12 q).1, laterT (m12 q).2⟩), HW⟩
                      · rintro A L vs w' F G ⟨v120, v121, v122, v123, v124, v125, v126, v127, v128, v129, v130, v131, rfl, d0, d1, d2, d3, d4, d5, d6, d7, d11, m1, m3, m5, m7, m8, m9, m10, m12, HW⟩ hL hdep K' hK hK0
                        have p0 : L 0 = true := hdep { on := 0, ground := Ground.data } (by simp) rfl
                        have n10 : L 10 = false := not_yet hL (fun q => (m10 q).1)
                        have h := (HW.out.1 n10).1
                        have b0 : w'.cell? ⟨bx, 5, none⟩ = some (.slice qa lp0.length qc) := by rw [Lib.cell_of_heap h.blk]; rfl
                        have q := d0 p0
                        subst q
                        have g120 := evT (F 0 120 _ rfl rfl)
                        clear F G
                        go_simp
                        refine hK 1 121 _ w' rfl ⟨_, _, _, _, _, _, _, _, _, _, _, _, rfl, d0, (fun _ => rfl), d2, d3, d4, d5, d6, d7, d11, (fun _ => laterT p0), (fun q => laterT (m3 q)), (fun q => ⟨laterT (m5 q).1, laterT (m5 q).2⟩), (fun q => laterT (m7 q)), (fun q => ⟨laterT (m8 q).1, laterT (m8 q).2⟩), (fun q => laterT (m9 q)), (fun q => ⟨laterT (m10 q).1, laterT (m10 q).2.1, laterT (m10 q).2.2⟩), (fun q => ⟨laterT (m12 q).1, laterT (m12 q).2⟩), HW⟩
                      · rintro A L vs w' F G ⟨v120, v121, v122, v123, v124, v125, v126, v127, v128, v129, v130, v131, rfl, d0, d1, d2, d3, d4, d5, d6, d7, d11, m1, m3, m5, m7, m8, m9, m10, m12, HW⟩ hL hdep K' hK hK0
                        have n10 : L 10 = false := not_yet hL (fun q => (m3 ((m5 ((m8 ((m10 q).2.1)).1)).1)))
                        have h := (HW.out.1 n10).2
                        obtain ⟨b0, b1, b2, b3⟩ := block4 h
                        have gt : A.tmps[2]?.getD undef = .pointer (some ⟨w.heap.size, 0, none⟩) := evT ((G 2 (by decide)).trans rfl)
                        clear F G
                        go_simp
                        refine hK 2 122 _ w' rfl ⟨_, _, _, _, _, _, _, _, _, _, _, _, rfl, d0, d1, (fun _ => rfl), d3, d4, d5, d6, d7, d11, (fun q => laterT (m1 q)), (fun q => laterT (m3 q)), (fun q => ⟨laterT (m5 q).1, laterT (m5 q).2⟩), (fun q => laterT (m7 q)), (fun q => ⟨laterT (m8 q).1, laterT (m8 q).2⟩), (fun q => laterT (m9 q)), (fun q => ⟨laterT (m10 q).1, laterT (m10 q).2.1, laterT (m10 q).2.2⟩), (fun q => ⟨laterT (m12 q).1, laterT (m12 q).2⟩), HW⟩
                      · rintro A L vs w' F G ⟨v120, v121, v122, v123, v124, v125, v126, v127, v128, v129, v130, v131, rfl, d0, d1, d2, d3, d4, d5, d6, d7, d11, m1, m3, m5, m7, m8, m9, m10, m12, HW⟩ hL hdep K' hK hK0
                        have p2 : L 2 = true := hdep { on := 2, ground := Ground.data } (by simp) rfl
                        have n10 : L 10 = false := not_yet hL (fun q => (m5 ((m8 ((m10 q).2.1)).1)).1)
                        have h := (HW.out.1 n10).1
                        have h2 := (HW.out.1 n10).2
                        have q := d2 p2
                        subst q
                        have g122 := evT (F 2 122 _ rfl rfl)
                        clear F G
                        go_simp
                        refine (HA5.out _ h.bel).mono ?_
                        rintro e w2 ⟨rfl, hb⟩
                        have HW2 : Hid ((L 10 = false → RfP w C w2 bx pa rg (.slice ua lu0.length uc) (.slice ia lc0.length ic) (.slice ka lk0.length kc) (.slice qa lp0.length qc) (.slice ua lu0.length uc) (.slice ia lc0.length ic) (.slice ka lk0.length kc) (.slice qa lp0.length qc) lu0 lc0 lk0 lp0 y0 ∧ w2.heap[w.heap.size]? = some (.cells #[.int .i64 k, .int .u64 n, .string s, .slice a l.length cap] 33 (0, 0))) ∧ (L 9 = true → L 10 = false → RdG (fun b => bx + 1 ≤ b ∧ some b ≠ (Value.slice qa lp0.length qc).ownBlock) w2 r0 v129) ∧ (L 10 = true → L 12 = false → ∃ y1, RfP w C w2 bx pa rg (.slice ua lu0.length uc) (.slice ia lc0.length ic) (.slice ka lk0.length kc) (.slice qa lp0.length qc) (.slice ua lu0.length uc) (.slice ia lc0.length ic) (.slice ka lk0.length kc) v130 lu0 lc0 lk0 lp1 y1) ∧ (L 12 = true → ∃ y1, RfP w C w2 bx pa rg (.slice ua lu0.length uc) (.slice ia lc0.length ic) (.slice ka lk0.length kc) v130 (.slice ua lu0.length uc) (.slice ia lc0.length ic) (.slice ka lk0.length kc) v130 lu0 lc0 lk0 lp1 y1) ∧ (L 8 = true → L 9 = false → RdV (fun b => bx + 1 ≤ b ∧ some b ≠ (Value.slice qa lp0.length qc).ownBlock) w2 r0 v128)) := ⟨fun _ => ⟨h.below hb, (hb.block _ (blk_lt h2)).trans h2⟩, fun q => absurd ((m5 ((m8 ((m9 q))).1)).1) (by rw [hL]; decide), fun q => absurd q (by rw [n10]; decide), fun q => absurd ((m12 q).1) (by rw [n10]; decide), fun q => absurd ((m5 ((m8 q).1)).1) (by rw [hL]; decide)⟩
                        refine hK 3 123 _ w2 rfl ⟨_, _, _, _, _, _, _, _, _, _, _, _, rfl, d0, d1, d2, (fun _ => rfl), d4, d5, d6, d7, d11, (fun q => laterT (m1 q)), (fun _ => laterT p2), (fun q => ⟨laterT (m5 q).1, laterT (m5 q).2⟩), (fun q => laterT (m7 q)), (fun q => ⟨laterT (m8 q).1, laterT (m8 q).2⟩), (fun q => laterT (m9 q)), (fun q => ⟨laterT (m10 q).1, laterT (m10 q).2.1, laterT (m10 q).2.2⟩), (fun q => ⟨laterT (m12 q).1, laterT (m12 q).2⟩), HW2⟩
                      · rintro A L vs w' F G ⟨v120, v121, v122, v123, v124, v125, v126, v127, v128, v129, v130, v131, rfl, d0, d1, d2, d3, d4, d5, d6, d7, d11, m1, m3, m5, m7, m8, m9, m10, m12, HW⟩ hL hdep K' hK hK0
                        have gm : A.tmps[13]?.getD undef = .int .i64 (i : Nat) := evT ((G 13 (by decide)).trans rfl)
                        clear F G
                        go_simp
                        refine hK 4 124 _ w' rfl ⟨_, _, _, _, _, _, _, _, _, _, _, _, rfl, d0, d1, d2, d3, (fun _ => rfl), d5, d6, d7, d11, (fun q => laterT (m1 q)), (fun q => laterT (m3 q)), (fun q => ⟨laterT (m5 q).1, laterT (m5 q).2⟩), (fun q => laterT (m7 q)), (fun q => ⟨laterT (m8 q).1, laterT (m8 q).2⟩), (fun q => laterT (m9 q)), (fun q => ⟨laterT (m10 q).1, laterT (m10 q).2.1, laterT (m10 q).2.2⟩), (fun q => ⟨laterT (m12 q).1, laterT (m12 q).2⟩), HW⟩
                      · rintro A L vs w' F G ⟨v120, v121, v122, v123, v124, v125, v126, v127, v128, v129, v130, v131, rfl, d0, d1, d2, d3, d4, d5, d6, d7, d11, m1, m3, m5, m7, m8, m9, m10, m12, HW⟩ hL hdep K' hK hK0
                        have p3 : L 3 = true := hdep { on := 3, ground := Ground.data } (by simp) rfl
                        have p4 : L 4 = true := hdep { on := 4, ground := Ground.data } (by simp) rfl
                        have n10 : L 10 = false := not_yet hL (fun q => (m8 ((m10 q).2.1)).1)
                        have h := (HW.out.1 n10).1
                        have h2 := (HW.out.1 n10).2
                        have q := d3 p3
                        subst q
                        have g123 := evT (F 3 123 _ rfl rfl)
                        have q := d4 p4
                        subst q
                        have g124 := evT (F 4 124 _ rfl rfl)
                        clear F G
                        go_simp
                        refine (HAX.out _ h.bel).mono ?_
                        rintro e w2 ⟨rfl, hb⟩
                        have HW2 : Hid ((L 10 = false → RfP w C w2 bx pa rg (.slice ua lu0.length uc) (.slice ia lc0.length ic) (.slice ka lk0.length kc) (.slice qa lp0.length qc) (.slice ua lu0.length uc) (.slice ia lc0.length ic) (.slice ka lk0.length kc) (.slice qa lp0.length qc) lu0 lc0 lk0 lp0 y0 ∧ w2.heap[w.heap.size]? = some (.cells #[.int .i64 k, .int .u64 n, .string s, .slice a l.length cap] 33 (0, 0))) ∧ (L 9 = true → L 10 = false → RdG (fun b => bx + 1 ≤ b ∧ some b ≠ (Value.slice qa lp0.length qc).ownBlock) w2 r0 v129) ∧ (L 10 = true → L 12 = false → ∃ y1, RfP w C w2 bx pa rg (.slice ua lu0.length uc) (.slice ia lc0.length ic) (.slice ka lk0.length kc) (.slice qa lp0.length qc) (.slice ua lu0.length uc) (.slice ia lc0.length ic) (.slice ka lk0.length kc) v130 lu0 lc0 lk0 lp1 y1) ∧ (L 12 = true → ∃ y1, RfP w C w2 bx pa rg (.slice ua lu0.length uc) (.slice ia lc0.length ic) (.slice ka lk0.length kc) v130 (.slice ua lu0.length uc) (.slice ia lc0.length ic) (.slice ka lk0.length kc) v130 lu0 lc0 lk0 lp1 y1) ∧ (L 8 = true → L 9 = false → RdV (fun b => bx + 1 ≤ b ∧ some b ≠ (Value.slice qa lp0.length qc).ownBlock) w2 r0 v128)) := ⟨fun _ => ⟨h.below hb, (hb.block _ (blk_lt h2)).trans h2⟩, fun q => absurd ((m8 ((m9 q))).1) (by rw [hL]; decide), fun q => absurd q (by rw [n10]; decide), fun q => absurd ((m12 q).1) (by rw [n10]; decide), fun q => absurd ((m8 q).1) (by rw [hL]; decide)⟩
                        refine hK 5 125 _ w2 rfl ⟨_, _, _, _, _, _, _, _, _, _, _, _, rfl, d0, d1, d2, d3, d4, (fun _ => rfl), d6, d7, d11, (fun q => laterT (m1 q)), (fun q => laterT (m3 q)), (fun _ => ⟨laterT p3, laterT p4⟩), (fun q => laterT (m7 q)), (fun q => ⟨laterT (m8 q).1, laterT (m8 q).2⟩), (fun q => laterT (m9 q)), (fun q => ⟨laterT (m10 q).1, laterT (m10 q).2.1, laterT (m10 q).2.2⟩), (fun q => ⟨laterT (m12 q).1, laterT (m12 q).2⟩), HW2⟩
                      · rintro A L vs w' F G ⟨v120, v121, v122, v123, v124, v125, v126, v127, v128, v129, v130, v131, rfl, d0, d1, d2, d3, d4, d5, d6, d7, d11, m1, m3, m5, m7, m8, m9, m10, m12, HW⟩ hL hdep K' hK hK0
                        have gm : A.tmps[1]?.getD undef = .int .i64 D := evT ((G 1 (by decide)).trans rfl)
                        clear F G
                        go_simp
                        refine hK 6 126 _ w' rfl ⟨_, _, _, _, _, _, _, _, _, _, _, _, rfl, d0, d1, d2, d3, d4, d5, (fun _ => rfl), d7, d11, (fun q => laterT (m1 q)), (fun q => laterT (m3 q)), (fun q => ⟨laterT (m5 q).1, laterT (m5 q).2⟩), (fun q => laterT (m7 q)), (fun q => ⟨laterT (m8 q).1, laterT (m8 q).2⟩), (fun q => laterT (m9 q)), (fun q => ⟨laterT (m10 q).1, laterT (m10 q).2.1, laterT (m10 q).2.2⟩), (fun q => ⟨laterT (m12 q).1, laterT (m12 q).2⟩), HW⟩
                      · rintro A L vs w' F G ⟨v120, v121, v122, v123, v124, v125, v126, v127, v128, v129, v130, v131, rfl, d0, d1, d2, d3, d4, d5, d6, d7, d11, m1, m3, m5, m7, m8, m9, m10, m12, HW⟩ hL hdep K' hK hK0
                        have p6 : L 6 = true := hdep { on := 6, ground := Ground.data } (by simp) rfl
                        have q := d6 p6
                        subst q
                        have g126 := evT (F 6 126 _ rfl rfl)
                        clear F G
                        go_simp
                        refine hK 7 127 _ w' rfl ⟨_, _, _, _, _, _, _, _, _, _, _, _, rfl, d0, d1, d2, d3, d4, d5, d6, (fun _ => rfl), d11, (fun q => laterT (m1 q)), (fun q => laterT (m3 q)), (fun q => ⟨laterT (m5 q).1, laterT (m5 q).2⟩), (fun _ => laterT p6), (fun q => ⟨laterT (m8 q).1, laterT (m8 q).2⟩), (fun q => laterT (m9 q)), (fun q => ⟨laterT (m10 q).1, laterT (m10 q).2.1, laterT (m10 q).2.2⟩), (fun q => ⟨laterT (m12 q).1, laterT (m12 q).2⟩), HW⟩
                      · rintro A L vs w' F G ⟨v120, v121, v122, v123, v124, v125, v126, v127, v128, v129, v130, v131, rfl, d0, d1, d2, d3, d4, d5, d6, d7, d11, m1, m3, m5, m7, m8, m9, m10, m12, HW⟩ hL hdep K' hK hK0
                        have p5 : L 5 = true := hdep { on := 5, ground := Ground.data } (by simp) rfl
                        have p7 : L 7 = true := hdep { on := 7, ground := Ground.data } (by simp) rfl
                        have n10 : L 10 = false := not_yet hL (fun q => (m10 q).2.1)
                        have h := (HW.out.1 n10).1
                        have h2 := (HW.out.1 n10).2
                        have q := d5 p5
                        subst q
                        have g125 := evT (F 5 125 _ rfl rfl)
                        have q := d7 p7
                        subst q
                        have g127 := evT (F 7 127 _ rfl rfl)
                        clear F G
                        go_simp
                        refine (HRX.out _ h.bel).mono ?_
                        rintro e w2 ⟨pa', rg', b1, n1, c1, b2, n2, c2, b3, n3, c3, b4, n4, c4, rfl, hb, hprs⟩
                        have hszz := h.sz
                        have HW2 : Hid ((L 10 = false → RfP w C w2 bx pa rg (.slice ua lu0.length uc) (.slice ia lc0.length ic) (.slice ka lk0.length kc) (.slice qa lp0.length qc) (.slice ua lu0.length uc) (.slice ia lc0.length ic) (.slice ka lk0.length kc) (.slice qa lp0.length qc) lu0 lc0 lk0 lp0 y0 ∧ w2.heap[w.heap.size]? = some (.cells #[.int .i64 k, .int .u64 n, .string s, .slice a l.length cap] 33 (0, 0))) ∧ (L 9 = true → L 10 = false → RdG (fun b => bx + 1 ≤ b ∧ some b ≠ (Value.slice qa lp0.length qc).ownBlock) w2 r0 v129) ∧ (L 10 = true → L 12 = false → ∃ y1, RfP w C w2 bx pa rg (.slice ua lu0.length uc) (.slice ia lc0.length ic) (.slice ka lk0.length kc) (.slice qa lp0.length qc) (.slice ua lu0.length uc) (.slice ia lc0.length ic) (.slice ka lk0.length kc) v130 lu0 lc0 lk0 lp1 y1) ∧ (L 12 = true → ∃ y1, RfP w C w2 bx pa rg (.slice ua lu0.length uc) (.slice ia lc0.length ic) (.slice ka lk0.length kc) v130 (.slice ua lu0.length uc) (.slice ia lc0.length ic) (.slice ka lk0.length kc) v130 lu0 lc0 lk0 lp1 y1) ∧ (true = true → L 9 = false → RdV (fun b => bx + 1 ≤ b ∧ some b ≠ (Value.slice qa lp0.length qc).ownBlock) w2 r0 (Value.agg #[.int .i64 pa', .int .i64 rg', .slice b1 n1 c1, .slice b2 n2 c2, .slice b3 n3 c3, .slice b4 n4 c4]))) := ⟨fun _ => ⟨h.below hb, (hb.block _ (blk_lt h2)).trans h2⟩, fun q => absurd ((m9 q)) (by rw [hL]; decide), fun q => absurd q (by rw [n10]; decide), fun q => absurd ((m12 q).1) (by rw [n10]; decide), fun _ _ => ⟨_, _, _, _, _, _, _, _, _, _, _, _, _, _, rfl, PRS.widen (fun b hb2 => ⟨by omega, fun e => by have := (h.pw.own.lt b e.symm).2; omega⟩) _ _ hprs⟩⟩
                        refine hK 8 128 _ w2 rfl ⟨_, _, _, _, _, _, _, _, _, _, _, _, rfl, d0, d1, d2, d3, d4, d5, d6, d7, d11, (fun q => laterT (m1 q)), (fun q => laterT (m3 q)), (fun q => ⟨laterT (m5 q).1, laterT (m5 q).2⟩), (fun q => laterT (m7 q)), (fun _ => ⟨laterT p5, laterT p7⟩), (fun q => laterT (m9 q)), (fun q => ⟨laterT (m10 q).1, laterT (m10 q).2.1, laterT (m10 q).2.2⟩), (fun q => ⟨laterT (m12 q).1, laterT (m12 q).2⟩), HW2⟩
                      · rintro A L vs w' F G ⟨v120, v121, v122, v123, v124, v125, v126, v127, v128, v129, v130, v131, rfl, d0, d1, d2, d3, d4, d5, d6, d7, d11, m1, m3, m5, m7, m8, m9, m10, m12, HW⟩ hL hdep K' hK hK0
                        have p8 : L 8 = true := hdep { on := 8, ground := Ground.data } (by simp) rfl
                        have n10 : L 10 = false := not_yet hL (fun q => (m10 q).2.2)
                        have h := (HW.out.1 n10).1
                        have h2 := (HW.out.1 n10).2
                        obtain ⟨pa', rg', b1, n1, c1, b2, n2, c2, b3, n3, c3, b4, n4, c4, e128, hprs⟩ := HW.out.2.2.2.2 p8 hL
                        subst e128
                        have g128 := evT (F 8 128 _ rfl rfl)
                        have hb : Below w'.heap.size w' (w'.alloc (.cells #[.int .i64 pa', .int .i64 rg', .slice b1 n1 c1, .slice b2 n2 c2, .slice b3 n3 c3, .slice b4 n4 c4] 27)) := (Below.refl _ _).alloc (Nat.le_refl _) _
                        have HW2 : Hid ((L 10 = false → RfP w C (w'.alloc (.cells #[.int .i64 pa', .int .i64 rg', .slice b1 n1 c1, .slice b2 n2 c2, .slice b3 n3 c3, .slice b4 n4 c4] 27)) bx pa rg (.slice ua lu0.length uc) (.slice ia lc0.length ic) (.slice ka lk0.length kc) (.slice qa lp0.length qc) (.slice ua lu0.length uc) (.slice ia lc0.length ic) (.slice ka lk0.length kc) (.slice qa lp0.length qc) lu0 lc0 lk0 lp0 y0 ∧ (w'.alloc (.cells #[.int .i64 pa', .int .i64 rg', .slice b1 n1 c1, .slice b2 n2 c2, .slice b3 n3 c3, .slice b4 n4 c4] 27)).heap[w.heap.size]? = some (.cells #[.int .i64 k, .int .u64 n, .string s, .slice a l.length cap] 33 (0, 0))) ∧ (true = true → L 10 = false → RdG (fun b => bx + 1 ≤ b ∧ some b ≠ (Value.slice qa lp0.length qc).ownBlock) (w'.alloc (.cells #[.int .i64 pa', .int .i64 rg', .slice b1 n1 c1, .slice b2 n2 c2, .slice b3 n3 c3, .slice b4 n4 c4] 27)) r0 (Value.slice (some ⟨w'.heap.size, 0, none⟩) 1 1)) ∧ (L 10 = true → L 12 = false → ∃ y1, RfP w C (w'.alloc (.cells #[.int .i64 pa', .int .i64 rg', .slice b1 n1 c1, .slice b2 n2 c2, .slice b3 n3 c3, .slice b4 n4 c4] 27)) bx pa rg (.slice ua lu0.length uc) (.slice ia lc0.length ic) (.slice ka lk0.length kc) (.slice qa lp0.length qc) (.slice ua lu0.length uc) (.slice ia lc0.length ic) (.slice ka lk0.length kc) v130 lu0 lc0 lk0 lp1 y1) ∧ (L 12 = true → ∃ y1, RfP w C (w'.alloc (.cells #[.int .i64 pa', .int .i64 rg', .slice b1 n1 c1, .slice b2 n2 c2, .slice b3 n3 c3, .slice b4 n4 c4] 27)) bx pa rg (.slice ua lu0.length uc) (.slice ia lc0.length ic) (.slice ka lk0.length kc) v130 (.slice ua lu0.length uc) (.slice ia lc0.length ic) (.slice ka lk0.length kc) v130 lu0 lc0 lk0 lp1 y1) ∧ (L 8 = true → true = false → RdV (fun b => bx + 1 ≤ b ∧ some b ≠ (Value.slice qa lp0.length qc).ownBlock) (w'.alloc (.cells #[.int .i64 pa', .int .i64 rg', .slice b1 n1 c1, .slice b2 n2 c2, .slice b3 n3 c3, .slice b4 n4 c4] 27)) r0 (Value.agg #[.int .i64 pa', .int .i64 rg', .slice b1 n1 c1, .slice b2 n2 c2, .slice b3 n3 c3, .slice b4 n4 c4]))) := ⟨fun _ => ⟨h.below hb, (hb.block _ (blk_lt h2)).trans h2⟩, fun _ _ => ⟨_, _, _, _, _, _, _, _, _, _, _, _, _, _, _, rfl, heap_alloc_new _ _, PRS.below hb (Nat.le_refl _) _ _ hprs⟩, fun q => absurd q (by rw [n10]; decide), fun q => absurd ((m12 q).1) (by rw [n10]; decide), fun _ q => (by cases q)⟩
                        clear F G
                        go_simp
                        refine hK 9 129 _ _ rfl ⟨_, _, _, _, _, _, _, _, _, _, _, _, rfl, d0, d1, d2, d3, d4, d5, d6, d7, d11, (fun q => laterT (m1 q)), (fun q => laterT (m3 q)), (fun q => ⟨laterT (m5 q).1, laterT (m5 q).2⟩), (fun q => laterT (m7 q)), (fun q => ⟨laterT (m8 q).1, laterT (m8 q).2⟩), (fun _ => laterT p8), (fun q => ⟨laterT (m10 q).1, laterT (m10 q).2.1, laterT (m10 q).2.2⟩), (fun q => ⟨laterT (m12 q).1, laterT (m12 q).2⟩), HW2⟩
                      · rintro A L vs w' F G ⟨v120, v121, v122, v123, v124, v125, v126, v127, v128, v129, v130, v131, rfl, d0, d1, d2, d3, d4, d5, d6, d7, d11, m1, m3, m5, m7, m8, m9, m10, m12, HW⟩ hL hdep K' hK hK0
                        have p1 : L 1 = true := hdep { on := 1, ground := Ground.data } (by simp) rfl
                        have p9 : L 9 = true := hdep { on := 9, ground := Ground.data } (by simp) rfl
                        have p8 : L 8 = true := hdep { on := 8, ground := Ground.chain } (by simp) rfl
                        have n12 : L 12 = false := not_yet hL (fun q => (m12 q).1)
                        have h := (HW.out.1 hL).1
                        have h2 := (HW.out.1 hL).2
                        obtain ⟨g9, pa', rg', b1, n1, c1, b2, n2, c2, b3, n3, c3, b4, n4, c4, e129, hg, hprs⟩ := HW.out.2.1 p9 hL
                        subst e129
                        have q := d1 p1
                        subst q
                        have hB := h.sz
                        refine step_append_src w' rfl (.tmp 121) (.tmp 129) 25 rfl (bx + 1) 27 ip0 _ 6 112 Tryd.underlying25 ip1 ip2 ip3 ip4 rfl (by decide) (.slice qa lp0.length qc) lp0.length _ (F 1 121 _ rfl rfl) h.pw.own (.slice (some ⟨g9, 0, none⟩) 1 1) 1 _ (F 9 129 _ rfl rfl) (src_one hg rfl (by intro u hu; simp at hu; rcases hu with rfl | rfl | rfl | rfl | rfl | rfl <;> rfl)) (by unfold maxLen; omega) (by omega) hB ?_
                        intro a' c' w2 q1 q2 q3
                        obtain ⟨y1, h4⟩ := h.app (x := ⟨pa', rg', .slice b1 n1 c1, .slice b2 n2 c2, .slice b3 n3 c3, .slice b4 n4 c4⟩) hprs q1 q2 q3
                        rw [← HL1.out] at h4
                        have HW2 : Hid ((true = false → RfP w C w2 bx pa rg (.slice ua lu0.length uc) (.slice ia lc0.length ic) (.slice ka lk0.length kc) (.slice qa lp0.length qc) (.slice ua lu0.length uc) (.slice ia lc0.length ic) (.slice ka lk0.length kc) (.slice qa lp0.length qc) lu0 lc0 lk0 lp0 y0 ∧ w2.heap[w.heap.size]? = some (.cells #[.int .i64 k, .int .u64 n, .string s, .slice a l.length cap] 33 (0, 0))) ∧ (L 9 = true → true = false → RdG (fun b => bx + 1 ≤ b ∧ some b ≠ (Value.slice qa lp0.length qc).ownBlock) w2 r0 (Value.slice (some ⟨g9, 0, none⟩) 1 1)) ∧ (true = true → L 12 = false → ∃ y1, RfP w C w2 bx pa rg (.slice ua lu0.length uc) (.slice ia lc0.length ic) (.slice ka lk0.length kc) (.slice qa lp0.length qc) (.slice ua lu0.length uc) (.slice ia lc0.length ic) (.slice ka lk0.length kc) (Value.slice a' (lp0.length + 1) c') lu0 lc0 lk0 lp1 y1) ∧ (L 12 = true → ∃ y1, RfP w C w2 bx pa rg (.slice ua lu0.length uc) (.slice ia lc0.length ic) (.slice ka lk0.length kc) (Value.slice a' (lp0.length + 1) c') (.slice ua lu0.length uc) (.slice ia lc0.length ic) (.slice ka lk0.length kc) (Value.slice a' (lp0.length + 1) c') lu0 lc0 lk0 lp1 y1) ∧ (L 8 = true → L 9 = false → RdV (fun b => bx + 1 ≤ b ∧ some b ≠ (Value.slice qa lp0.length qc).ownBlock) w2 r0 v128)) := ⟨fun q => (by cases q), fun _ q => (by cases q), fun _ _ => ⟨y1, h4⟩, fun q => absurd q (by rw [n12]; decide), fun _ q => absurd q (by rw [p9]; decide)⟩
                        refine hK 10 130 _ w2 rfl ⟨_, _, _, _, _, _, _, _, _, _, _, _, rfl, d0, d1, d2, d3, d4, d5, d6, d7, d11, (fun q => laterT (m1 q)), (fun q => laterT (m3 q)), (fun q => ⟨laterT (m5 q).1, laterT (m5 q).2⟩), (fun q => laterT (m7 q)), (fun q => ⟨laterT (m8 q).1, laterT (m8 q).2⟩), (fun q => laterT (m9 q)), (fun _ => ⟨laterT p1, laterT p8, laterT p9⟩), (fun q => ⟨laterT (m12 q).1, laterT (m12 q).2⟩), HW2⟩
                      · rintro A L vs w' F G ⟨v120, v121, v122, v123, v124, v125, v126, v127, v128, v129, v130, v131, rfl, d0, d1, d2, d3, d4, d5, d6, d7, d11, m1, m3, m5, m7, m8, m9, m10, m12, HW⟩ hL hdep K' hK hK0
                        have g5 : A.tmps[5]?.getD undef = .pointer (some ⟨bx, 0, none⟩) := evT ((G 5 (by decide)).trans rfl)
                        clear F G
                        go_simp
                        refine hK 11 131 _ w' rfl ⟨_, _, _, _, _, _, _, _, _, _, _, _, rfl, d0, d1, d2, d3, d4, d5, d6, d7, (fun _ => rfl), (fun q => laterT (m1 q)), (fun q => laterT (m3 q)), (fun q => ⟨laterT (m5 q).1, laterT (m5 q).2⟩), (fun q => laterT (m7 q)), (fun q => ⟨laterT (m8 q).1, laterT (m8 q).2⟩), (fun q => laterT (m9 q)), (fun q => ⟨laterT (m10 q).1, laterT (m10 q).2.1, laterT (m10 q).2.2⟩), (fun q => ⟨laterT (m12 q).1, laterT (m12 q).2⟩), HW⟩
                      · rintro A L vs w' F G ⟨v120, v121, v122, v123, v124, v125, v126, v127, v128, v129, v130, v131, rfl, d0, d1, d2, d3, d4, d5, d6, d7, d11, m1, m3, m5, m7, m8, m9, m10, m12, HW⟩ hL hdep K' hK hK0
                        have p11 : L 11 = true := hdep { on := 11, ground := Ground.data } (by simp) rfl
                        have p10 : L 10 = true := hdep { on := 10, ground := Ground.data } (by simp) rfl
                        obtain ⟨y1, h⟩ := HW.out.2.2.1 p10 hL
                        obtain ⟨ax, cx, ex⟩ := owns_form h.pw.own
                        subst ex
                        have p9 : L 9 = true := (m10 p10).2.2
                        have cc : ∃ u, w'.cell? ⟨bx, 5, none⟩ = some u := ⟨_, by rw [Lib.cell_of_heap h.blk]; rfl⟩
                        obtain ⟨uu, cc⟩ := cc
                        have fz := Lib.frozen_of_heap h.blk 5
                        have HW2 : Hid ((L 10 = false → RfP w C (w'.setCell ⟨bx, 5, none⟩ (Value.slice ax lp1.length cx)) bx pa rg (.slice ua lu0.length uc) (.slice ia lc0.length ic) (.slice ka lk0.length kc) (.slice qa lp0.length qc) (.slice ua lu0.length uc) (.slice ia lc0.length ic) (.slice ka lk0.length kc) (.slice qa lp0.length qc) lu0 lc0 lk0 lp0 y0 ∧ (w'.setCell ⟨bx, 5, none⟩ (Value.slice ax lp1.length cx)).heap[w.heap.size]? = some (.cells #[.int .i64 k, .int .u64 n, .string s, .slice a l.length cap] 33 (0, 0))) ∧ (L 9 = true → L 10 = false → RdG (fun b => bx + 1 ≤ b ∧ some b ≠ (Value.slice qa lp0.length qc).ownBlock) (w'.setCell ⟨bx, 5, none⟩ (Value.slice ax lp1.length cx)) r0 v129) ∧ (L 10 = true → true = false → ∃ y1, RfP w C (w'.setCell ⟨bx, 5, none⟩ (Value.slice ax lp1.length cx)) bx pa rg (.slice ua lu0.length uc) (.slice ia lc0.length ic) (.slice ka lk0.length kc) (.slice qa lp0.length qc) (.slice ua lu0.length uc) (.slice ia lc0.length ic) (.slice ka lk0.length kc) (Value.slice ax lp1.length cx) lu0 lc0 lk0 lp1 y1) ∧ (true = true → ∃ y1, RfP w C (w'.setCell ⟨bx, 5, none⟩ (Value.slice ax lp1.length cx)) bx pa rg (.slice ua lu0.length uc) (.slice ia lc0.length ic) (.slice ka lk0.length kc) (Value.slice ax lp1.length cx) (.slice ua lu0.length uc) (.slice ia lc0.length ic) (.slice ka lk0.length kc) (Value.slice ax lp1.length cx) lu0 lc0 lk0 lp1 y1) ∧ (L 8 = true → L 9 = false → RdV (fun b => bx + 1 ≤ b ∧ some b ≠ (Value.slice qa lp0.length qc).ownBlock) (w'.setCell ⟨bx, 5, none⟩ (Value.slice ax lp1.length cx)) r0 v128)) := ⟨fun q => absurd q (by rw [p10]; decide), fun _ q => absurd q (by rw [p10]; decide), fun _ q => (by cases q), fun _ => ⟨y1, h.st _⟩, fun _ q => absurd q (by rw [p9]; decide)⟩
                        have q := d11 p11
                        subst q
                        have g131 := evT (F 11 131 _ rfl rfl)
                        have gv := evT (F 10 130 _ rfl rfl)
                        clear F G
                        go_simp
                        refine hK0 _ ⟨_, _, _, _, _, _, _, _, _, _, _, _, rfl, d0, d1, d2, d3, d4, d5, d6, d7, d11, (fun q => laterT (m1 q)), (fun q => laterT (m3 q)), (fun q => ⟨laterT (m5 q).1, laterT (m5 q).2⟩), (fun q => laterT (m7 q)), (fun q => ⟨laterT (m8 q).1, laterT (m8 q).2⟩), (fun q => laterT (m9 q)), (fun q => ⟨laterT (m10 q).1, laterT (m10 q).2.1, laterT (m10 q).2.2⟩), (fun _ => ⟨laterT p10, laterT p11⟩), HW2⟩
                      · rintro L vs w' hall ⟨v120, v121, v122, v123, v124, v125, v126, v127, v128, v129, v130, v131, rfl, d0, d1, d2, d3, d4, d5, d6, d7, d11, m1, m3, m5, m7, m8, m9, m10, m12, HW⟩
                        obtain ⟨y1, h⟩ := HW.out.2.2.2.1 (hall 12 (by decide))
                        obtain ⟨ax, cx, ex⟩ := owns_form h.pw.own
                        subst ex
                        have HRF := hide_p h
                        clear d0 d1 d2 d3 d4 d5 d6 d7 d11 m1 m3 m5 m7 m8 m9 m10 m12 HW h
                        simp only [puts]
                        go_simp
                        go_wp2
                        go_roundw
                        case rel => exact ⟨i + 1, ax, cx, lp1, y1, by omega, by go_num, HLN, HRF⟩
                        case measure => simp [intOf]; omega

                    · have e : i = N5 := by omega
                      have HFL5 : Hid (lp0 = (manyL a5).map (rdT m')) := by
                        show _ = _
                        rw [HLL.out, List.take_of_length_le (by have := HN5.out; omega)]
                      have hrr : Hid (r = .mk pa rg lu0 lc0 lk0 lp0) := by
                        show _ = _
                        rw [HRD.out, hm', HPA.out.1, HPA.out.2, HFL2.out, HFL3.out, HFL4.out, HFL5.out, HAJ2.out, HAJ3.out, HAJ4.out, HAJ5.out]
                        rfl
                      have hlpn : Hid (lp0.length ≤ 1000000) := by show _ ≤ _; rw [HFL5.out, List.length_map]; have := HN5.out; omega
                      clear HLL HF x0 x1 x2 x3
                      have HF0 := HF5
                      clear HF5
                      obtain ⟨z0, z1, z2, z3, z4, z5⟩ := block6 HF0.out.blk
                      obtain ⟨y0', y1', y2', y3', y4', y5'⟩ := block6 HF0.out.rf.rs
                      have hfz := Lib.frozen_of_heap HF0.out.rf.rs
                      have f0 := hfz 0
                      have f1 := hfz 1
                      have f2 := hfz 2
                      have f3 := hfz 3
                      have f4 := hfz 4
                      have f5 := hfz 5
                      have HE : Hid (∀ W, W = ((((((w5.setCell ⟨w.heap.size + 1, 0, none⟩ (.int .i64 pa)).setCell ⟨w.heap.size + 1, 1, none⟩ (.int .i64 rg)).setCell ⟨w.heap.size + 1, 2, none⟩ (.slice ua lu0.length uc)).setCell ⟨w.heap.size + 1, 3, none⟩ (.slice ia lc0.length ic)).setCell ⟨w.heap.size + 1, 4, none⟩ (.slice ka lk0.length kc)).setCell ⟨w.heap.size + 1, 5, none⟩ (.slice qa lp0.length qc)) → W.heap[w.heap.size + 1]? = some (.cells #[.int .i64 pa, .int .i64 rg, .slice ua lu0.length uc, .slice ia lc0.length ic, .slice ka lk0.length kc, .slice qa lp0.length qc] 27 (0, 0)) ∧ Below w.heap.size w W ∧ PRS (fun k => w.heap.size ≤ k) W r ⟨pa, rg, .slice ua lu0.length uc, .slice ia lc0.length ic, .slice ka lk0.length kc, .slice qa lp0.length qc⟩) := by
                        intro W hW
                        have h := HF0.out
                        have hh := h.rf.hbx
                        have hoth : ∀ k, k ≠ w.heap.size + 1 → W.heap[k]? = w5.heap[k]? := fun k hk => by rw [hW]; exact set6_other hk _ _ _ _ _ _
                        refine ⟨by rw [hW]; exact set6_block h.rf.rs _ _ _ _ _ _, by rw [hW]; exact set_low (set_low (set_low (set_low (set_low (set_low h.bel (by omega)) (by omega)) (by omega)) (by omega)) (by omega)) (by omega), ?_⟩
                        have hlu : lu0.length ≤ 1000000 := by rw [HFL2.out, List.length_map]; have := HN2.out; omega
                        have hlc : lc0.length ≤ 1000000 := by rw [HFL3.out, List.length_map]; have := HN3.out; omega
                        have hlk : lk0.length ≤ 1000000 := by rw [HFL4.out, List.length_map]; have := HN4.out; omega
                        have hlp : lp0.length ≤ 1000000 := hlpn.out
                        have s1 : SL w5 (.slice ua lu0.length uc) lu0.length 2 (uppF lu0) := SL.of_owns h.rf.ru (by unfold far; omega) (fun i j hi _ => uppC_F j hi)
                        have s2 : SL w5 (.slice ia lc0.length ic) lc0.length 4 (insF lc0) := SL.of_owns h.rf.rc (by unfold far; omega) (fun i j hi _ => insC_F j hi)
                        have s3 : SL w5 (.slice ka lk0.length kc) lk0.length 4 (vlF lk0) := SL.of_owns h.rf.rk (by unfold far; omega) (fun i j hi _ => vlC_F j hi)
                        have s4 := h.pw.sl (by unfold far; omega)
                        have b1 := InB.own h.rf.ru
                        have b2 := InB.own h.rf.rc
                        have b3 := InB.own h.rf.rk
                        have b4 := InB.own h.pw.own
                        rw [hrr.out, PRS_mk]
                        refine ⟨rfl, rfl, HI64.out.1, HI64.out.2, ⟨⟨s1.move (by decide) b1 (fun k h1 _ => hoth k (by omega)), ?_⟩, b1.widen (fun k hk => by omega)⟩, ⟨⟨s2.move (by decide) b2 (fun k h1 _ => hoth k (by omega)), ?_⟩, b2.widen (fun k hk => by omega)⟩, ⟨⟨s3.move (by decide) b3 (fun k h1 _ => hoth k (by omega)), ?_⟩, b3.widen (fun k hk => by omega)⟩, _, ⟨s4.move (by decide) b4 (fun k h1 _ => hoth k (by omega)), b4.widen (fun k hk => by omega)⟩, fun i hi => PRS.widen (fun k hk => by omega) _ _ (PRS.same (w' := W) (fun k hk => hoth k (by omega)) _ _ (h.pw.kid i hi))⟩
                        · intro x hx
                          rw [HFL2.out] at hx
                          obtain ⟨z, -, rfl⟩ := List.mem_map.1 hx
                          exact rUp_ok z
                        · intro x hx
                          rw [HFL3.out] at hx
                          obtain ⟨z, -, rfl⟩ := List.mem_map.1 hx
                          exact rIns_ok z
                        · intro x hx
                          rw [HFL4.out] at hx
                          obtain ⟨z, hz, rfl⟩ := List.mem_map.1 hx
                          exact rVl_ok z (HVK.out z hz).1 (HVK.out z hz).2
                      clear hfz
                      go_wp2
                      obtain ⟨y1, y2, y3⟩ := HE.out _ rfl
                      exact bodyPost_ret (results_cell_row rfl _ _ (w.heap.size + 1) _ _ _ _ rfl y1 Tryd.underlying27 rfl szPr) rfl ⟨_, _, _, _, _, _, _, _, _, _, _, _, _, _, rfl, y2, y3⟩






end Go.Proofs.YtcblknghkgihcaaDoor
namespace Go.Proofs.YtcblknghkgihcaaDoor
set_option maxRecDepth 100000
open Go.RowKit Crc Txt Pg

def zP : Pr := .mk 0 0 [] [] [] []
def errE (O : Bool) : Int := if O = true then 0 else 4
def outP (O : Bool) (r : Pr) : Pr := if O = true then r else zP
theorem pr_zero (w : World) : PR w zP ⟨0, 0, .slice none 0 0, .slice none 0 0, .slice none 0 0, .slice none 0 0⟩ := by
  have h : ∀ (z : Nat) (F : Nat → Nat → Value → Prop), SL w (.slice none 0 0) 0 z F := fun z F => ⟨none, 0, rfl, Nat.le_refl _, by decide, Nat.zero_le _, fun _ => ⟨rfl, rfl⟩, fun x e => by cases e⟩
  unfold zP
  rw [PR_mk]
  exact ⟨rfl, rfl, ⟨by decide, by decide⟩, ⟨by decide, by decide⟩, ⟨h _ _, fun x hx => by cases hx⟩, ⟨h _ _, fun x hx => by cases hx⟩, ⟨h _ _, fun x hx => by cases hx⟩, fun _ => ⟨0, 0, .slice none 0 0, .slice none 0 0, .slice none 0 0, .slice none 0 0⟩, h _ _, fun i hi => absurd hi (Nat.not_lt_zero _)⟩
/-- What FromCell tells. -/
def FcR (w : World) (O : Bool) (r : Pr) (e : Ending) (w' : World) : Prop :=
  ∃ (pa rg : Int) (a1 : Option Addr) (n1 c1 : Nat) (a2 : Option Addr) (n2 c2 : Nat) (a3 : Option Addr) (n3 c3 : Nat) (a4 : Option Addr) (n4 c4 : Nat), e = .returned (.tuple #[.agg #[.int .i64 pa, .int .i64 rg, .slice a1 n1 c1, .slice a2 n2 c2, .slice a3 n3 c3, .slice a4 n4 c4], .int .i64 (errE O)]) ∧ Below w.heap.size w w' ∧ PR w' (outP O r) ⟨pa, rg, .slice a1 n1 c1, .slice a2 n2 c2, .slice a3 n3 c3, .slice a4 n4 c4⟩

set_option maxHeartbeats 4000000 in
theorem fromCell_any (D : Nat) (t : Tr) (v : Value) (w : World) (h : CR w t v) (hst : Stx t) (hdep : t.dep < D) (hcnt : t.cnt ≤ 1000000) (hfc : fcF D t ≤ 4096) (hT : Ot w) :
    Calls Tryd.prog 11 #[v] w (FcR w (okF D t && decide (chkB (rdT D t) = 0)) (rdT D t)) := by
  obtain ⟨a, cap, rfl⟩ := h.shape
  have HC := hide_p h
  have HT := hide_p hT
  have h00 := hT.1
  have HFN : Hid (∀ w' b, Below w.heap.size w w' → w.heap.size ≤ b → Cn w' b 0 → Calls Tryd.prog 35 #[.pointer (some ⟨b, 0, none⟩), cellV t.k t.n t.s (.slice a t.l.length cap)] w' (FnR w' b 0 (okF D t) (fcF D t) (rdT D t))) := by
    intro w' b hb hbb hc
    refine function_any D t _ w' b 0 ?_ hst hdep hcnt hc (by omega)
    exact (HC.out.cs.kept (w' := w') (fun k hk => hb.block k hk)).widen (fun k hk => Nat.lt_of_lt_of_le hk hbb)
  obtain ⟨r, hr⟩ : ∃ r, r = rdT D t := ⟨_, rfl⟩
  obtain ⟨O, hO⟩ : ∃ O, O = okF D t := ⟨_, rfl⟩
  obtain ⟨m, hm⟩ : ∃ m, m = fcF D t := ⟨_, rfl⟩
  rw [← hr, ← hO, ← hm] at HFN
  rw [← hr, ← hO]
  have HCK : Hid (∀ (x : Six) w', PR w' r x → Ot w' → Calls Tryd.prog 20 #[x.v] w' fun e w'' => e = .returned (.int .i64 (chkB r)) ∧ Below w'.heap.size w' w'') := fun x w' hp ht => check_any r x w' hp ht
  clear h hT hst hdep hcnt hfc hr hO hm HC
  generalize t.k = k at *
  generalize t.n = n at *
  generalize t.s = s at *
  generalize t.l = l at *
  obtain ⟨q, hq⟩ : ∃ q, q = decide (chkB r = 0) := ⟨_, rfl⟩
  rw [← hq]
  have HQ := hide_p hq
  clear hq
  unfold cellV at HFN ⊢
  obtain ⟨w1, hw1⟩ : ∃ w1, w1 = ((w.alloc (.cells #[.int .i64 k, .int .u64 n, .string s, .slice a l.length cap] 33)).alloc (.cells #[.int .i64 0, .int .i64 0, .slice none 0 0, .slice none 0 0, .slice none 0 0, .slice none 0 0] 27)).alloc (.cells #[.int .i64 0] 70) := ⟨_, rfl⟩
  have HB1 : Hid (Below w.heap.size w w1) := by show Below _ _ _; rw [hw1]; exact (((Below.refl _ _).alloc (Nat.le_refl _) _).alloc (by simp) _).alloc (by simp; omega) _
  have HS1 : Hid (w1.heap.size = w.heap.size + 3) := by show _ = _; rw [hw1]; simp
  have HA1 : Hid (w1.heap[w.heap.size]? = some (.cells #[.int .i64 k, .int .u64 n, .string s, .slice a l.length cap] 33 (0, 0)) ∧ w1.heap[w.heap.size + 1]? = some (.cells #[.int .i64 0, .int .i64 0, .slice none 0 0, .slice none 0 0, .slice none 0 0, .slice none 0 0] 27 (0, 0)) ∧ w1.heap[w.heap.size + 2]? = some (.cells #[.int .i64 0] 70 (0, 0))) := by
    show _ ∧ _ ∧ _
    rw [hw1]
    refine ⟨?_, ?_, heap_alloc_at _ _ _ (by simp)⟩
    · rw [Below.heap_alloc _ _ _ (by simp; omega), Below.heap_alloc _ _ _ (by simp)]
      exact heap_alloc_new _ _
    · rw [Below.heap_alloc _ _ _ (by simp)]
      exact heap_alloc_at _ _ _ (by simp)
  have HC1 : Hid (Cn w1 (w.heap.size + 2) 0) := ⟨by rw [Lib.cell_of_heap HA1.out.2.2]; rfl, Lib.frozen_of_heap HA1.out.2.2 0⟩
  obtain ⟨x0, x1, x2, x3⟩ := block4 HA1.out.1
  have hs1 := HS1.out
  go_enter Tryd.func11, Tryd.ntmps11
  go_upto_region 2 with fail
  rw [← hw1]
  clear hw1
  go_wp2_with fail
  refine (HFN.out w1 (w.heap.size + 2) HB1.out (by omega) HC1.out).mono ?_
  rintro e w2 ⟨pa, rg, a1, n1, c1, a2, n2, c2, a3, n3, c3, a4, n4, c4, f', rfl, hkb, -, -, hok⟩
  have HK := hide_p hkb
  have hsz2 := hkb.size
  have HB2 : Hid (Below w.heap.size w w2) := HB1.out.trans (hkb.below (by omega) (by omega))
  have HZ : Hid (∀ wq, Below w2.heap.size w2 wq → (∀ j, wq.frozen? ⟨w.heap.size + 1, j, none⟩ = false) ∧ wq.heap[w.heap.size + 1]? = some (.cells #[.int .i64 0, .int .i64 0, .slice none 0 0, .slice none 0 0, .slice none 0 0, .slice none 0 0] 27 (0, 0)) ∧ Below w.heap.size w wq) := by
    intro wq hq
    have e2 := ((hq.block (w.heap.size + 1) (by omega)).trans (HK.out.block _ (by omega) (by omega))).trans HA1.out.2.1
    exact ⟨fun j => Lib.frozen_of_heap e2 j, e2, HB2.out.trans (hq.mono HB2.out.size)⟩
  have HBAD : Hid (∀ wq, Below w2.heap.size w2 wq → ∀ W, W = ((((((wq.setCell ⟨w.heap.size + 1, 0, none⟩ (.int .i64 0)).setCell ⟨w.heap.size + 1, 1, none⟩ (.int .i64 0)).setCell ⟨w.heap.size + 1, 2, none⟩ (.slice none 0 0)).setCell ⟨w.heap.size + 1, 3, none⟩ (.slice none 0 0)).setCell ⟨w.heap.size + 1, 4, none⟩ (.slice none 0 0)).setCell ⟨w.heap.size + 1, 5, none⟩ (.slice none 0 0)) → W.heap[w.heap.size + 1]? = some (.cells #[.int .i64 0, .int .i64 0, .slice none 0 0, .slice none 0 0, .slice none 0 0, .slice none 0 0] 27 (0, 0)) ∧ Below w.heap.size w W) := by
    intro wq hq W hW
    obtain ⟨-, e2, e4⟩ := HZ.out wq hq
    rw [hW]
    exact ⟨set6_block e2 _ _ _ _ _ _, (((((e4.setCell (Nat.le_succ _) _).setCell (Nat.le_succ _) _).setCell (Nat.le_succ _) _).setCell (Nat.le_succ _) _).setCell (Nat.le_succ _) _).setCell (Nat.le_succ _) _⟩
  have hs2 : w.heap.size + 1 < w2.heap.size := by omega
  have hs2n : ¬ w2.heap.size = w.heap.size + 1 := by omega
  clear x0 x1 x2 x3 hkb
  cases O with
  | false =>
    obtain ⟨hfz, e2, -⟩ := HZ.out w2 (Below.refl _ _)
    obtain ⟨y0', y1', y2', y3', y4', y5'⟩ := block6 e2
    have f0 := hfz 0
    have f1 := hfz 1
    have f2 := hfz 2
    have f3 := hfz 3
    have f4 := hfz 4
    have f5 := hfz 5
    have HE : Hid (∀ ob W, W = ((((((w2.setCell ⟨w.heap.size + 1, 0, none⟩ (.int .i64 0)).setCell ⟨w.heap.size + 1, 1, none⟩ (.int .i64 0)).setCell ⟨w.heap.size + 1, 2, none⟩ (.slice none 0 0)).setCell ⟨w.heap.size + 1, 3, none⟩ (.slice none 0 0)).setCell ⟨w.heap.size + 1, 4, none⟩ (.slice none 0 0)).setCell ⟨w.heap.size + 1, 5, none⟩ (.slice none 0 0)).alloc ob → W.heap[w.heap.size + 1]? = some (.cells #[.int .i64 0, .int .i64 0, .slice none 0 0, .slice none 0 0, .slice none 0 0, .slice none 0 0] 27 (0, 0)) ∧ Below w.heap.size w W) := by
      intro ob W hW
      obtain ⟨z1, z2⟩ := HBAD.out w2 (Below.refl _ _) _ rfl
      rw [hW]
      exact ⟨(Below.heap_alloc _ _ _ (by simp only [World.size_setCell]; omega)).trans z1, z2.alloc z2.size _⟩
    clear hfz e2 hok
    go_wp2
    obtain ⟨y1, y2⟩ := HE.out _ _ rfl
    exact bodyPost_ret (results_cell_tmp rfl _ _ (w.heap.size + 1) _ _ _ _ rfl y1 Tryd.underlying27 rfl szPr) rfl ⟨_, _, _, _, _, _, _, _, _, _, _, _, _, _, rfl, y2, pr_zero _⟩
  | true =>
    have HPR : Hid (∀ wq, Below w2.heap.size w2 wq → PR wq r ⟨pa, rg, .slice a1 n1 c1, .slice a2 n2 c2, .slice a3 n3 c3, .slice a4 n4 c4⟩) := fun wq hq => PR.kept hq (Nat.le_refl _) _ _ (PRS.pr _ _ (hok rfl))
    have HBA : Hid (∀ ob, Below w2.heap.size w2 (w2.alloc ob)) := fun ob => (Below.refl _ _).alloc (Nat.le_refl _) ob
    have hck := fun ob => HCK.out ⟨pa, rg, .slice a1 n1 c1, .slice a2 n2 c2, .slice a3 n3 c3, .slice a4 n4 c4⟩ (w2.alloc ob) (HPR.out _ (HBA.out ob)) (HT.out.below (HB2.out.trans ((HBA.out ob).mono HB2.out.size)) h00)
    unfold Six.v at hck
    simp only at hck
    have HPRS := hide_p (hok rfl)
    clear hok HCK HFN
    go_wp2_with fail
    refine (hck _).mono ?_
    rintro e w3 ⟨rfl, hb3⟩
    have hq3 : Below w2.heap.size w2 w3 := (HBA.out _).trans (hb3.mono (by simp))
    have HQ3 := hide_p hq3
    have hz3 := hb3.size
    simp only [World.size_alloc] at hz3
    have hblk := (hb3.block w2.heap.size (by simp)).trans (heap_alloc_new w2 _)
    obtain ⟨z0, z1, z2, z3, z4, z5⟩ := block6 hblk
    obtain ⟨hfz, e2, -⟩ := HZ.out w3 hq3
    obtain ⟨y0', y1', y2', y3', y4', y5'⟩ := block6 e2
    have f0 := hfz 0
    have f1 := hfz 1
    have f2 := hfz 2
    have f3 := hfz 3
    have f4 := hfz 4
    have f5 := hfz 5
    have HE2 := hide_p e2
    clear hck hb3 hblk hfz e2 hq3
    cases q with
    | false =>
      have hne : ¬ chkB r = 0 := by have := HQ.out; intro e; simp [e] at this
      have hneb : (chkB r != 0) = true := by simpa using hne
      have HE := hide_p (HBAD.out w3 HQ3.out)
      clear HQ
      generalize chkB r = c at *
      go_wp2
      obtain ⟨y1, y2⟩ := HE.out _ rfl
      exact bodyPost_ret (results_cell_tmp rfl _ _ (w.heap.size + 1) _ _ _ _ rfl y1 Tryd.underlying27 rfl szPr) rfl ⟨_, _, _, _, _, _, _, _, _, _, _, _, _, _, rfl, y2, pr_zero _⟩
    | true =>
      have hne : chkB r = 0 := by have := HQ.out; simpa using this.symm
      have HE : Hid (∀ W, W = ((((((w3.setCell ⟨w.heap.size + 1, 0, none⟩ (.int .i64 pa)).setCell ⟨w.heap.size + 1, 1, none⟩ (.int .i64 rg)).setCell ⟨w.heap.size + 1, 2, none⟩ (.slice a1 n1 c1)).setCell ⟨w.heap.size + 1, 3, none⟩ (.slice a2 n2 c2)).setCell ⟨w.heap.size + 1, 4, none⟩ (.slice a3 n3 c3)).setCell ⟨w.heap.size + 1, 5, none⟩ (.slice a4 n4 c4)) → W.heap[w.heap.size + 1]? = some (.cells #[.int .i64 pa, .int .i64 rg, .slice a1 n1 c1, .slice a2 n2 c2, .slice a3 n3 c3, .slice a4 n4 c4] 27 (0, 0)) ∧ Below w.heap.size w W ∧ PR W r ⟨pa, rg, .slice a1 n1 c1, .slice a2 n2 c2, .slice a3 n3 c3, .slice a4 n4 c4⟩) := by
        intro W hW
        obtain ⟨-, -, e4⟩ := HZ.out w3 HQ3.out
        have hoth : ∀ k, k ≠ w.heap.size + 1 → W.heap[k]? = w3.heap[k]? := by
          intro k hk
          rw [hW]
          exact set6_other hk _ _ _ _ _ _
        refine ⟨?_, ?_, ?_⟩
        · rw [hW]
          exact set6_block HE2.out _ _ _ _ _ _
        · rw [hW]
          exact (((((e4.setCell (Nat.le_succ _) _).setCell (Nat.le_succ _) _).setCell (Nat.le_succ _) _).setCell (Nat.le_succ _) _).setCell (Nat.le_succ _) _).setCell (Nat.le_succ _) _
        · refine PRS.pr _ _ (PRS.same (w' := W) (fun k hk => ?_) _ _ (PRS.lt _ _ HPRS.out))
          rw [hoth k (by omega)]
          exact HQ3.out.block k hk.2
      clear HQ HBAD HZ
      generalize chkB r = c at *
      subst hne
      go_wp2
      obtain ⟨y1, y2, y3⟩ := HE.out _ rfl
      exact bodyPost_ret (results_cell_tmp rfl _ _ (w.heap.size + 1) _ _ _ _ rfl y1 Tryd.underlying27 rfl szPr) rfl ⟨_, _, _, _, _, _, _, _, _, _, _, _, _, _, rfl, y2, y3⟩

end Go.Proofs.YtcblknghkgihcaaDoor
namespace Go.Proofs.YtcblknghkgihcaaDoor
set_option maxRecDepth 100000
open Go.RowKit Txt Pg

def opnd (x : Ins) (k : Nat) : Int := if k = 0 then x.a else if k = 1 then x.b else x.c
/-- How many a letter's operand is one of. -/
def rngL (L : Lens) (c : UInt8) : Int := if c = 82 then L.rg else if c = 75 then L.nk else if c = 85 then L.nu else if c = 80 then L.np else if c = 79 then L.nc else if c = 78 then 31 else 0
def letB (L : Lens) (x : Ins) (u : List UInt8) : Bool := (List.range u.length).all fun k => inB (opnd x k) (rngL L (u.getD k 0))
def canB (L : Lens) (x : Ins) : Bool := isOp x.op && letB L x (usesT x.op) && (!(x.op == 32) || decide (x.b < L.rg - x.a)) && (!(x.op == 36 || x.op == 37) || decide (x.a < L.rg - 2))

theorem uses_len (op : Int) : (usesT op).length ≤ 3 := by
  have h : ∀ u ∈ usesL, u.length ≤ 3 := by decide
  unfold usesT
  rw [List.getD_eq_getElem?_getD]
  cases e : usesL[op.toNat]? with
  | none => simp
  | some s => exact h s (List.mem_of_getElem? e)
theorem uses_let (op : Int) : ∀ c ∈ usesT op, c = 82 ∨ c = 75 ∨ c = 85 ∨ c = 80 ∨ c = 79 ∨ c = 78 := by
  have h : ∀ u ∈ usesL, ∀ c ∈ u, c = 82 ∨ c = 75 ∨ c = 85 ∨ c = 80 ∨ c = 79 ∨ c = 78 := by decide
  unfold usesT
  rw [List.getD_eq_getElem?_getD]
  cases e : usesL[op.toNat]? with
  | none => intro c hc; cases hc
  | some s => exact h s (List.mem_of_getElem? e)

/-- The two say the same. -/
theorem can_ord (L : Lens) (x : Ins) (h : 0 ≤ L.rg) : canB L x = ordB L x := by
  obtain ⟨op, a, b, c⟩ := x
  obtain ⟨rg, nu, nc, nk, np⟩ := L
  by_cases ho : isOp op = true
  · have hc : op = 0 ∨ op = 1 ∨ op = 2 ∨ op = 3 ∨ op = 4 ∨ op = 5 ∨ op = 6 ∨ op = 7 ∨ op = 8 ∨ op = 9 ∨ op = 10 ∨ op = 11 ∨ op = 12 ∨ op = 13 ∨ op = 14 ∨ op = 15 ∨ op = 16 ∨ op = 17 ∨ op = 18 ∨ op = 19 ∨ op = 20 ∨ op = 21 ∨ op = 22 ∨ op = 23 ∨ op = 24 ∨ op = 25 ∨ op = 26 ∨ op = 27 ∨ op = 28 ∨ op = 29 ∨ op = 30 ∨ op = 31 ∨ op = 32 ∨ op = 33 ∨ op = 34 ∨ op = 35 ∨ op = 36 ∨ op = 37 := by
      unfold isOp at ho
      simp at ho
      omega
    clear ho
    rw [Bool.eq_iff_iff]
    simp only at h
    rcases hc with rfl | rfl | rfl | rfl | rfl | rfl | rfl | rfl | rfl | rfl | rfl | rfl | rfl | rfl | rfl | rfl | rfl | rfl | rfl | rfl | rfl | rfl | rfl | rfl | rfl | rfl | rfl | rfl | rfl | rfl | rfl | rfl | rfl | rfl | rfl | rfl | rfl | rfl
    all_goals
      simp [canB, ordB, letB, usesT, usesL, rowOf, ordL, okO, isOp, opnd, rngL, rngZ, inB, List.range, List.range.loop]
      try omega
  · have h1 : isOp op = false := by simpa using ho
    unfold canB ordB
    simp [h1]

set_option maxHeartbeats 1000000 in
theorem operand_any (op a b c : Int) (k : Nat) (w : World) (hk : k < 3) : Calls Tryd.prog 81 #[.agg #[.int .i64 op, .int .i64 a, .int .i64 b, .int .i64 c], .int .i64 k] w fun e w' => e = .returned (.int .i64 (opnd ⟨op, a, b, c⟩ k)) ∧ Below w.heap.size w w' := by
  have hB : Hid (∀ o, Below w.heap.size w (w.alloc o)) := fun o => (Below.refl _ _).alloc (Nat.le_refl _) _
  have h3 : k = 0 ∨ k = 1 ∨ k = 2 := by omega
  clear hk
  rcases h3 with rfl | rfl | rfl
  · rw [show ((0 : Nat) : Int) = 0 from rfl, show opnd ⟨op, a, b, c⟩ 0 = a from rfl]
    go_enter Tryd.func81, Tryd.ntmps81
    go_wp2
    go_ret
    exact ⟨rfl, hB.out _⟩
  · rw [show ((1 : Nat) : Int) = 1 from rfl, show opnd ⟨op, a, b, c⟩ 1 = b from rfl]
    go_enter Tryd.func81, Tryd.ntmps81
    go_wp2
    go_ret
    exact ⟨rfl, hB.out _⟩
  · rw [show ((2 : Nat) : Int) = 2 from rfl, show opnd ⟨op, a, b, c⟩ 2 = c from rfl]
    go_enter Tryd.func81, Tryd.ntmps81
    go_wp2
    go_ret
    exact ⟨rfl, hB.out _⟩

theorem letB_no (L : Lens) (x : Ins) (u : List UInt8) (k : Nat) (hk : k < u.length) (h : inB (opnd x k) (rngL L (u.getD k 0)) = false) : letB L x u = false := by
  unfold letB
  rw [Bool.eq_false_iff]
  intro e
  have := List.all_eq_true.1 e k (by simpa using hk)
  rw [h] at this
  cases this
theorem letB_yes (L : Lens) (x : Ins) (u : List UInt8) (h : ∀ k, k < u.length → inB (opnd x k) (rngL L (u.getD k 0)) = true) : letB L x u = true := by
  unfold letB
  exact List.all_eq_true.2 fun k hk => h k (by simpa using hk)

set_option maxHeartbeats 8000000 in
theorem can_any (op a b c : Int) (pa rg : Int) (au ac ak ap : Option Addr) (nu cu nc cc nk ck np cp : Nat) (w : World) (h0 : 0 ≤ rg) (hg : i64 rg) (ha : i64 a) :
    Calls Tryd.prog 72 #[.agg #[.int .i64 pa, .int .i64 rg, .slice au nu cu, .slice ac nc cc, .slice ak nk ck, .slice ap np cp], .agg #[.int .i64 op, .int .i64 a, .int .i64 b, .int .i64 c]] w fun e w' => e = .returned (.bool (canB ⟨rg, nu, nc, nk, np⟩ ⟨op, a, b, c⟩)) ∧ Below w.heap.size w w' := by
  have hR : canB ⟨rg, nu, nc, nk, np⟩ ⟨op, a, b, c⟩ = (isOp op && letB ⟨rg, nu, nc, nk, np⟩ ⟨op, a, b, c⟩ (usesT op) && (!(op == 32) || decide (b < rg - a)) && (!(op == 36 || op == 37) || decide (a < rg - 2))) := rfl
  rw [hR]
  clear hR
  unfold i64 at hg ha
  have hI := fun w => ris_any op w
  obtain ⟨w0, hw0⟩ : ∃ w0, w0 = (w.alloc (.cells #[.int .i64 pa, .int .i64 rg, .slice au nu cu, .slice ac nc cc, .slice ak nk ck, .slice ap np cp] 27)).alloc (.cells #[.int .i64 op, .int .i64 a, .int .i64 b, .int .i64 c] 58) := ⟨_, rfl⟩
  have HB0 : Hid (Below w.heap.size w w0) := by rw [hw0]; exact ((Below.refl _ w).alloc (Nat.le_refl _) _).alloc (by simp) _
  have HA : Hid (∀ j, w0.cell? ⟨w.heap.size, j, none⟩ = (#[.int .i64 pa, .int .i64 rg, .slice au nu cu, .slice ac nc cc, .slice ak nk ck, .slice ap np cp] : Array Value)[j]?) := by
    intro j
    rw [hw0, World.cell?_alloc_lt _ _ _ (by simp), World.cell?_alloc_new]
  have HD : Hid (∀ j, w0.cell? ⟨w.heap.size + 1, j, none⟩ = (#[.int .i64 op, .int .i64 a, .int .i64 b, .int .i64 c] : Array Value)[j]?) := by
    intro j
    rw [hw0, World.cell?_alloc_at _ _ _ _ (by simp)]
  have d0 : w0.cell? ⟨w.heap.size + 1, 0, none⟩ = some (.int .i64 op) := HD.out 0
  by_cases ho : isOp op = true
  · have hus := fun w => uses_any op w ho
    have HUL := hide_p (uses_len op)
    have HUC := hide_p (uses_let op)
    rw [ho]
    rw [ho] at hI
    obtain ⟨u, hu⟩ : ∃ u, u = usesT op := ⟨_, rfl⟩
    rw [← hu] at hus HUL HUC ⊢
    have hul := HUL.out
    have hsz := bs_size u
    have HU := hide_p hu
    have HSG : Hid (∀ k (h : k < u.length) (h' : k < (bs u).size), (bs u)[k]'h' = u[k]'h) := fun k h h' => bs_get u k h'
    generalize bs u = S at *
    clear hu ho
    go_enter Tryd.func72, Tryd.ntmps72
    go_upto_region 1 with fail
    rw [← hw0]
    clear hw0
    go_wp2_with fail
    refine (hI _).mono ?_
    rintro e w1 ⟨rfl, rfl⟩
    go_wp2_with fail
    refine (hus _).mono ?_
    rintro e w2 ⟨rfl, rfl⟩
    go_wp2_with fail
    clear hI hus d0
    go_loopw [6, 7, 8] (fun t6 t7 t8 wr => ∃ (k : Nat), k ≤ u.length ∧ t6 = .int .i64 k ∧ Hid (∀ j, j < k → inB (opnd ⟨op, a, b, c⟩ j) (rngL ⟨rg, nu, nc, nk, np⟩ (u.getD j 0)) = true) ∧ Hid (Below w2.heap.size w2 wr)) (fun t6 _ _ _ => u.length - (intOf t6).toNat)
    case atStart => exact ⟨0, Nat.zero_le _, rfl, fun j h => absurd h (Nat.not_lt_zero _), Below.refl _ _⟩
    case round =>
      obtain ⟨k, hk, rfl, HJ, HB⟩ := hrel
      have HBw : Hid (Below w.heap.size w wr) := HB0.out.trans (HB.out.mono HB0.out.size)
      have r1 : wr.cell? ⟨w.heap.size, 1, none⟩ = some (.int .i64 rg) := box6 HA.out HB.out (Nat.le_refl _) rfl
      have e0 : wr.cell? ⟨w.heap.size + 1, 0, none⟩ = some (.int .i64 op) := box6 HD.out HB.out (Nat.le_refl _) rfl
      have e1 : wr.cell? ⟨w.heap.size + 1, 1, none⟩ = some (.int .i64 a) := box6 HD.out HB.out (Nat.le_refl _) rfl
      have e2 : wr.cell? ⟨w.heap.size + 1, 2, none⟩ = some (.int .i64 b) := box6 HD.out HB.out (Nat.le_refl _) rfl
      by_cases ck2 : k < u.length
      · have e3 : wr.cell? ⟨w.heap.size + 1, 3, none⟩ = some (.int .i64 c) := box6 HD.out HB.out (Nat.le_refl _) rfl
        have hop := operand_any op a b c k wr (by omega)
        have HNO := hide_p (letB_no ⟨rg, nu, nc, nk, np⟩ ⟨op, a, b, c⟩ u k ck2)
        have hcl := HUC.out (u.getD k 0) (by rw [List.getD_eq_getElem?_getD, List.getElem?_eq_getElem ck2]; exact List.getElem_mem ck2)
        have hkk : k < S.size := by omega
        have hgk : S[k] = u.getD k 0 := by rw [HSG.out k ck2 hkk, List.getD_eq_getElem?_getD, List.getElem?_eq_getElem ck2]; rfl
        have HJ2 : Hid (inB (opnd ⟨op, a, b, c⟩ k) (rngL ⟨rg, nu, nc, nk, np⟩ (u.getD k 0)) = true → ∀ j, j < k + 1 → inB (opnd ⟨op, a, b, c⟩ j) (rngL ⟨rg, nu, nc, nk, np⟩ (u.getD j 0)) = true) := by
          intro e j hj
          by_cases e2 : j = k
          · subst e2; exact e
          · exact HJ.out j (by omega)
        generalize u.getD k 0 = cl at *
        generalize opnd ⟨op, a, b, c⟩ k = xo at *
        have ck3 : (k : Int) < (u.length : Int) := by omega
        have r2 : wr.cell? ⟨w.heap.size, 2, none⟩ = some (.slice au nu cu) := box6 HA.out HB.out (Nat.le_refl _) rfl
        have r3 : wr.cell? ⟨w.heap.size, 3, none⟩ = some (.slice ac nc cc) := box6 HA.out HB.out (Nat.le_refl _) rfl
        have r4 : wr.cell? ⟨w.heap.size, 4, none⟩ = some (.slice ak nk ck) := box6 HA.out HB.out (Nat.le_refl _) rfl
        have r5 : wr.cell? ⟨w.heap.size, 5, none⟩ = some (.slice ap np cp) := box6 HA.out HB.out (Nat.le_refl _) rfl
        have hlt : w.heap.size + 1 < wr.heap.size := World.block_lt_of_cell? wr _ e0
        rcases hcl with rfl | rfl | rfl | rfl | rfl | rfl
        · have hb : (S[k].toNat : Int) = 82 := by rw [hgk]; rfl
          have hr : rngL ⟨rg, nu, nc, nk, np⟩ 82 = rg := rfl
          rw [hr] at HNO HJ2
          clear hr hgk HUC
          go_wp2_with fail
          refine hop.mono ?_
          rintro e w3 ⟨rfl, hb3⟩
          have HB3 : Hid (Below w2.heap.size w2 w3) := HB.out.trans (hb3.mono HB.out.size)
          have HB3w : Hid (Below w.heap.size w w3) := HBw.out.trans (hb3.mono HBw.out.size)
          have s1 : w3.cell? ⟨w.heap.size, 1, none⟩ = some (.int .i64 rg) := cell_kept hb3 (Nat.le_refl _) r1
          have s2 : w3.cell? ⟨w.heap.size, 2, none⟩ = some (.slice au nu cu) := cell_kept hb3 (Nat.le_refl _) r2
          have s3 : w3.cell? ⟨w.heap.size, 3, none⟩ = some (.slice ac nc cc) := cell_kept hb3 (Nat.le_refl _) r3
          have s4 : w3.cell? ⟨w.heap.size, 4, none⟩ = some (.slice ak nk ck) := cell_kept hb3 (Nat.le_refl _) r4
          have s5 : w3.cell? ⟨w.heap.size, 5, none⟩ = some (.slice ap np cp) := cell_kept hb3 (Nat.le_refl _) r5
          clear hb3 hop r1 r2 r3 r4 r5 e0 e1 e2 e3
          by_cases x0 : xo < 0
          · have HN := hide_p (HNO.out (by unfold inB; simp; omega))
            clear HNO HJ2
            go_wp2
            go_ret
            exact ⟨by rw [HN.out]; simp, HB3w.out⟩
          · by_cases x1 : xo ≥ rg
            · have HN := hide_p (HNO.out (by unfold inB; simp; omega))
              clear HNO HJ2
              go_wp2
              go_ret
              exact ⟨by rw [HN.out]; simp, HB3w.out⟩
            · have HY := hide_p (HJ2.out (by unfold inB; simp; omega))
              clear HNO HJ2
              go_wp2
              go_roundw
              case rel => exact ⟨k + 1, by omega, by go_num, HY, HB3⟩
              case measure => simp [intOf]; omega
        · have hb : (S[k].toNat : Int) = 75 := by rw [hgk]; rfl
          have hr : rngL ⟨rg, nu, nc, nk, np⟩ 75 = (nk : Int) := rfl
          rw [hr] at HNO HJ2
          clear hr hgk HUC
          go_wp2_with fail
          refine hop.mono ?_
          rintro e w3 ⟨rfl, hb3⟩
          have HB3 : Hid (Below w2.heap.size w2 w3) := HB.out.trans (hb3.mono HB.out.size)
          have HB3w : Hid (Below w.heap.size w w3) := HBw.out.trans (hb3.mono HBw.out.size)
          have s1 : w3.cell? ⟨w.heap.size, 1, none⟩ = some (.int .i64 rg) := cell_kept hb3 (Nat.le_refl _) r1
          have s2 : w3.cell? ⟨w.heap.size, 2, none⟩ = some (.slice au nu cu) := cell_kept hb3 (Nat.le_refl _) r2
          have s3 : w3.cell? ⟨w.heap.size, 3, none⟩ = some (.slice ac nc cc) := cell_kept hb3 (Nat.le_refl _) r3
          have s4 : w3.cell? ⟨w.heap.size, 4, none⟩ = some (.slice ak nk ck) := cell_kept hb3 (Nat.le_refl _) r4
          have s5 : w3.cell? ⟨w.heap.size, 5, none⟩ = some (.slice ap np cp) := cell_kept hb3 (Nat.le_refl _) r5
          clear hb3 hop r1 r2 r3 r4 r5 e0 e1 e2 e3
          by_cases x0 : xo < 0
          · have HN := hide_p (HNO.out (by unfold inB; simp; omega))
            clear HNO HJ2
            go_wp2
            go_ret
            exact ⟨by rw [HN.out]; simp, HB3w.out⟩
          · by_cases x1 : xo ≥ (nk : Int)
            · have HN := hide_p (HNO.out (by unfold inB; simp; omega))
              clear HNO HJ2
              go_wp2
              go_ret
              exact ⟨by rw [HN.out]; simp, HB3w.out⟩
            · have HY := hide_p (HJ2.out (by unfold inB; simp; omega))
              clear HNO HJ2
              go_wp2
              go_roundw
              case rel => exact ⟨k + 1, by omega, by go_num, HY, HB3⟩
              case measure => simp [intOf]; omega
        · have hb : (S[k].toNat : Int) = 85 := by rw [hgk]; rfl
          have hr : rngL ⟨rg, nu, nc, nk, np⟩ 85 = (nu : Int) := rfl
          rw [hr] at HNO HJ2
          clear hr hgk HUC
          go_wp2_with fail
          refine hop.mono ?_
          rintro e w3 ⟨rfl, hb3⟩
          have HB3 : Hid (Below w2.heap.size w2 w3) := HB.out.trans (hb3.mono HB.out.size)
          have HB3w : Hid (Below w.heap.size w w3) := HBw.out.trans (hb3.mono HBw.out.size)
          have s1 : w3.cell? ⟨w.heap.size, 1, none⟩ = some (.int .i64 rg) := cell_kept hb3 (Nat.le_refl _) r1
          have s2 : w3.cell? ⟨w.heap.size, 2, none⟩ = some (.slice au nu cu) := cell_kept hb3 (Nat.le_refl _) r2
          have s3 : w3.cell? ⟨w.heap.size, 3, none⟩ = some (.slice ac nc cc) := cell_kept hb3 (Nat.le_refl _) r3
          have s4 : w3.cell? ⟨w.heap.size, 4, none⟩ = some (.slice ak nk ck) := cell_kept hb3 (Nat.le_refl _) r4
          have s5 : w3.cell? ⟨w.heap.size, 5, none⟩ = some (.slice ap np cp) := cell_kept hb3 (Nat.le_refl _) r5
          clear hb3 hop r1 r2 r3 r4 r5 e0 e1 e2 e3
          by_cases x0 : xo < 0
          · have HN := hide_p (HNO.out (by unfold inB; simp; omega))
            clear HNO HJ2
            go_wp2
            go_ret
            exact ⟨by rw [HN.out]; simp, HB3w.out⟩
          · by_cases x1 : xo ≥ (nu : Int)
            · have HN := hide_p (HNO.out (by unfold inB; simp; omega))
              clear HNO HJ2
              go_wp2
              go_ret
              exact ⟨by rw [HN.out]; simp, HB3w.out⟩
            · have HY := hide_p (HJ2.out (by unfold inB; simp; omega))
              clear HNO HJ2
              go_wp2
              go_roundw
              case rel => exact ⟨k + 1, by omega, by go_num, HY, HB3⟩
              case measure => simp [intOf]; omega
        · have hb : (S[k].toNat : Int) = 80 := by rw [hgk]; rfl
          have hr : rngL ⟨rg, nu, nc, nk, np⟩ 80 = (np : Int) := rfl
          rw [hr] at HNO HJ2
          clear hr hgk HUC
          go_wp2_with fail
          refine hop.mono ?_
          rintro e w3 ⟨rfl, hb3⟩
          have HB3 : Hid (Below w2.heap.size w2 w3) := HB.out.trans (hb3.mono HB.out.size)
          have HB3w : Hid (Below w.heap.size w w3) := HBw.out.trans (hb3.mono HBw.out.size)
          have s1 : w3.cell? ⟨w.heap.size, 1, none⟩ = some (.int .i64 rg) := cell_kept hb3 (Nat.le_refl _) r1
          have s2 : w3.cell? ⟨w.heap.size, 2, none⟩ = some (.slice au nu cu) := cell_kept hb3 (Nat.le_refl _) r2
          have s3 : w3.cell? ⟨w.heap.size, 3, none⟩ = some (.slice ac nc cc) := cell_kept hb3 (Nat.le_refl _) r3
          have s4 : w3.cell? ⟨w.heap.size, 4, none⟩ = some (.slice ak nk ck) := cell_kept hb3 (Nat.le_refl _) r4
          have s5 : w3.cell? ⟨w.heap.size, 5, none⟩ = some (.slice ap np cp) := cell_kept hb3 (Nat.le_refl _) r5
          clear hb3 hop r1 r2 r3 r4 r5 e0 e1 e2 e3
          by_cases x0 : xo < 0
          · have HN := hide_p (HNO.out (by unfold inB; simp; omega))
            clear HNO HJ2
            go_wp2
            go_ret
            exact ⟨by rw [HN.out]; simp, HB3w.out⟩
          · by_cases x1 : xo ≥ (np : Int)
            · have HN := hide_p (HNO.out (by unfold inB; simp; omega))
              clear HNO HJ2
              go_wp2
              go_ret
              exact ⟨by rw [HN.out]; simp, HB3w.out⟩
            · have HY := hide_p (HJ2.out (by unfold inB; simp; omega))
              clear HNO HJ2
              go_wp2
              go_roundw
              case rel => exact ⟨k + 1, by omega, by go_num, HY, HB3⟩
              case measure => simp [intOf]; omega
        · have hb : (S[k].toNat : Int) = 79 := by rw [hgk]; rfl
          have hr : rngL ⟨rg, nu, nc, nk, np⟩ 79 = (nc : Int) := rfl
          rw [hr] at HNO HJ2
          clear hr hgk HUC
          go_wp2_with fail
          refine hop.mono ?_
          rintro e w3 ⟨rfl, hb3⟩
          have HB3 : Hid (Below w2.heap.size w2 w3) := HB.out.trans (hb3.mono HB.out.size)
          have HB3w : Hid (Below w.heap.size w w3) := HBw.out.trans (hb3.mono HBw.out.size)
          have s1 : w3.cell? ⟨w.heap.size, 1, none⟩ = some (.int .i64 rg) := cell_kept hb3 (Nat.le_refl _) r1
          have s2 : w3.cell? ⟨w.heap.size, 2, none⟩ = some (.slice au nu cu) := cell_kept hb3 (Nat.le_refl _) r2
          have s3 : w3.cell? ⟨w.heap.size, 3, none⟩ = some (.slice ac nc cc) := cell_kept hb3 (Nat.le_refl _) r3
          have s4 : w3.cell? ⟨w.heap.size, 4, none⟩ = some (.slice ak nk ck) := cell_kept hb3 (Nat.le_refl _) r4
          have s5 : w3.cell? ⟨w.heap.size, 5, none⟩ = some (.slice ap np cp) := cell_kept hb3 (Nat.le_refl _) r5
          clear hb3 hop r1 r2 r3 r4 r5 e0 e1 e2 e3
          by_cases x0 : xo < 0
          · have HN := hide_p (HNO.out (by unfold inB; simp; omega))
            clear HNO HJ2
            go_wp2
            go_ret
            exact ⟨by rw [HN.out]; simp, HB3w.out⟩
          · by_cases x1 : xo ≥ (nc : Int)
            · have HN := hide_p (HNO.out (by unfold inB; simp; omega))
              clear HNO HJ2
              go_wp2
              go_ret
              exact ⟨by rw [HN.out]; simp, HB3w.out⟩
            · have HY := hide_p (HJ2.out (by unfold inB; simp; omega))
              clear HNO HJ2
              go_wp2
              go_roundw
              case rel => exact ⟨k + 1, by omega, by go_num, HY, HB3⟩
              case measure => simp [intOf]; omega
        · have hb : (S[k].toNat : Int) = 78 := by rw [hgk]; rfl
          have hr : rngL ⟨rg, nu, nc, nk, np⟩ 78 = 31 := rfl
          rw [hr] at HNO HJ2
          clear hr hgk HUC
          go_wp2_with fail
          refine hop.mono ?_
          rintro e w3 ⟨rfl, hb3⟩
          have HB3 : Hid (Below w2.heap.size w2 w3) := HB.out.trans (hb3.mono HB.out.size)
          have HB3w : Hid (Below w.heap.size w w3) := HBw.out.trans (hb3.mono HBw.out.size)
          have s1 : w3.cell? ⟨w.heap.size, 1, none⟩ = some (.int .i64 rg) := cell_kept hb3 (Nat.le_refl _) r1
          have s2 : w3.cell? ⟨w.heap.size, 2, none⟩ = some (.slice au nu cu) := cell_kept hb3 (Nat.le_refl _) r2
          have s3 : w3.cell? ⟨w.heap.size, 3, none⟩ = some (.slice ac nc cc) := cell_kept hb3 (Nat.le_refl _) r3
          have s4 : w3.cell? ⟨w.heap.size, 4, none⟩ = some (.slice ak nk ck) := cell_kept hb3 (Nat.le_refl _) r4
          have s5 : w3.cell? ⟨w.heap.size, 5, none⟩ = some (.slice ap np cp) := cell_kept hb3 (Nat.le_refl _) r5
          clear hb3 hop r1 r2 r3 r4 r5 e0 e1 e2 e3
          by_cases x0 : xo < 0
          · have HN := hide_p (HNO.out (by unfold inB; simp; omega))
            clear HNO HJ2
            go_wp2
            go_ret
            exact ⟨by rw [HN.out]; simp, HB3w.out⟩
          · by_cases x1 : xo ≥ 31
            · have HN := hide_p (HNO.out (by unfold inB; simp; omega))
              clear HNO HJ2
              go_wp2
              go_ret
              exact ⟨by rw [HN.out]; simp, HB3w.out⟩
            · have HY := hide_p (HJ2.out (by unfold inB; simp; omega))
              clear HNO HJ2
              go_wp2
              go_roundw
              case rel => exact ⟨k + 1, by omega, by go_num, HY, HB3⟩
              case measure => simp [intOf]; omega
      · have e : k = u.length := by omega
        have HL : Hid (letB ⟨rg, nu, nc, nk, np⟩ ⟨op, a, b, c⟩ u = true) := letB_yes _ _ _ (fun j hj => HJ.out j (by omega))
        have HA0 : Hid (op = 32 → 0 ≤ a ∧ a < rg) := by
          intro e32
          have h1 := HJ.out 0 (by rw [e, HU.out, e32]; decide)
          rw [HU.out, e32] at h1
          have e4 : rngL ⟨rg, nu, nc, nk, np⟩ ((usesT 32).getD 0 0) = rg := rfl
          rw [e4] at h1
          unfold inB opnd at h1
          simp at h1
          omega
        clear HUC
        by_cases o32 : op = 32
        · subst o32
          have hA0 := HA0.out rfl
          by_cases x1 : b ≥ rg - a
          · go_wp2
            go_ret
            exact ⟨by rw [HL.out]; simp; omega, HBw.out⟩
          · go_wp2
            go_ret
            refine ⟨?_, HBw.out⟩
            rw [HL.out]
            simp
        · have q32 : (op == 32) = false := by simp [o32]
          by_cases o36 : op = 36
          · subst o36
            go_wp2
            go_ret
            exact ⟨by rw [HL.out]; simp, HBw.out⟩
          · by_cases o37 : op = 37
            · subst o37
              go_wp2
              go_ret
              exact ⟨by rw [HL.out]; simp, HBw.out⟩
            · have q36 : (op != 36) = true := by simp [o36]
              have q37 : (op != 37) = true := by simp [o37]
              go_wp2
              go_ret
              exact ⟨by rw [HL.out]; simp [o32, o36, o37], HBw.out⟩
  · have h1 : isOp op = false := by simpa using ho
    rw [h1]
    rw [h1] at hI
    go_enter Tryd.func72, Tryd.ntmps72
    go_upto_region 1 with fail
    rw [← hw0]
    clear hw0
    go_wp2_with fail
    refine (hI _).mono ?_
    rintro e w1 ⟨rfl, rfl⟩
    go_wp2
    go_ret
    exact ⟨by simp, HB0.out⟩

end Go.Proofs.YtcblknghkgihcaaDoor
namespace Go.Proofs.YtcblknghkgihcaaDoor
set_option maxRecDepth 100000
open Go.RowKit Txt Pg Flo

/-- What is wrong with a function by itself, and its ups. -/
def badB (t : Pr) (arg : Int) (anu : Nat) (top : Bool) : Bool := !(soundB t) || (top && decide (t.us.length > 0)) || !(findB t.us arg anu)

theorem sound_of (pa rg : Int) (us : List Upp) (cs : List Ins) (ks : List Vl) (ps : List Pr) : soundB (.mk pa rg us cs ks ps) = (inB pa 31 && decide (pa ≤ rg) && !(ks.any noC) && endB cs && cs.all (ordB ⟨rg, us.length, cs.length, ks.length, ps.length⟩)) := rfl

set_option maxHeartbeats 16000000 in
theorem alone_any (t : Pr) (x : Six) (pa' rg' : Int) (au' : Option Addr) (nu' cu' : Nat) (vc' vk' vp' : Value) (top : Bool) (w : World) (h : PR w t x) :
    Calls Tryd.prog 59 #[x.v, .agg #[.int .i64 pa', .int .i64 rg', .slice au' nu' cu', vc', vk', vp'], .bool top] w fun e w' => e = .returned (.int .i64 (if badB t rg' nu' top then 1 else 0)) ∧ Below w.heap.size w w' := by
  obtain ⟨pa, rg, us, cs, ks, ps⟩ := t
  rw [PR_mk] at h
  obtain ⟨xpa, xrg, vu, vc, vk, vp⟩ := x
  simp only at h
  obtain ⟨rfl, rfl, hpa, hrg, hu, hc, hk, f, hp, -⟩ := h
  obtain ⟨au, cu, rfl, hul, huc, lu⟩ := hu.1.val
  obtain ⟨ac, cc, rfl, hcl, hcc, lc⟩ := hc.1.val
  obtain ⟨ak, ck, rfl, hkl, hkc, lk⟩ := hk.1.val
  obtain ⟨ap, cp, rfl, -, -, lp⟩ := hp.val
  unfold Six.v
  simp only
  have HBAD : Hid (badB (.mk xpa xrg us cs ks ps) rg' nu' top = (!(inB xpa 31 && decide (xpa ≤ xrg) && !(ks.any noC) && endB cs && cs.all (ordB ⟨xrg, us.length, cs.length, ks.length, ps.length⟩)) || (top && decide (us.length > 0)) || !(findB us rg' nu'))) := rfl
  rw [HBAD.out]
  obtain ⟨nu, hnu⟩ : ∃ n, n = us.length := ⟨_, rfl⟩
  obtain ⟨nc, hnc⟩ : ∃ n, n = cs.length := ⟨_, rfl⟩
  obtain ⟨nk, hnk⟩ : ∃ n, n = ks.length := ⟨_, rfl⟩
  obtain ⟨np, hnp⟩ : ∃ n, n = ps.length := ⟨_, rfl⟩
  have HN : Hid (nu = us.length ∧ nc = cs.length ∧ nk = ks.length) := ⟨hnu, hnc, hnk⟩
  have HSU : Hid (SU w (.slice au nu cu) us) := by rw [hnu]; exact hu
  have HSC : Hid (SI w (.slice ac nc cc) cs) := by rw [hnc]; exact hc
  have HSK : Hid (SV w (.slice ak nk ck) ks) := by rw [hnk]; exact hk
  rw [← hnu, ← hnc, ← hnk, ← hnp]
  rw [← hnu] at hul lu
  rw [← hnc] at hcl lc
  rw [← hnk] at hkl lk
  unfold far at lu lc lk
  clear hu hc hk hp hnu hnc hnk hnp lp HBAD
  have HRG := hide_p hrg
  unfold i64 at hrg hpa
  obtain ⟨w0, hw0⟩ : ∃ w0, w0 = (w.alloc (.cells #[.int .i64 xpa, .int .i64 xrg, .slice au nu cu, .slice ac nc cc, .slice ak nk ck, .slice ap np cp] 27)).alloc (.cells #[.int .i64 pa', .int .i64 rg', .slice au' nu' cu', vc', vk', vp'] 27) := ⟨_, rfl⟩
  have HB0 : Hid (Below w.heap.size w w0) := by rw [hw0]; exact ((Below.refl _ w).alloc (Nat.le_refl _) _).alloc (by simp) _
  have HA : Hid (∀ j, w0.cell? ⟨w.heap.size, j, none⟩ = (#[.int .i64 xpa, .int .i64 xrg, .slice au nu cu, .slice ac nc cc, .slice ak nk ck, .slice ap np cp] : Array Value)[j]?) := by
    intro j
    rw [hw0, World.cell?_alloc_lt _ _ _ (by simp), World.cell?_alloc_new]
  have HD : Hid (∀ j, w0.cell? ⟨w.heap.size + 1, j, none⟩ = (#[.int .i64 pa', .int .i64 rg', .slice au' nu' cu', vc', vk', vp'] : Array Value)[j]?) := by
    intro j
    rw [hw0, World.cell?_alloc_at _ _ _ _ (by simp)]
  have HS0 : Hid (w0.heap.size = w.heap.size + 2) := by show _ = _; rw [hw0]; simp
  have q0 : w0.cell? ⟨w.heap.size, 0, none⟩ = some (.int .i64 xpa) := HA.out 0
  have q1 : w0.cell? ⟨w.heap.size, 1, none⟩ = some (.int .i64 xrg) := HA.out 1
  have q2 : w0.cell? ⟨w.heap.size, 2, none⟩ = some (.slice au nu cu) := HA.out 2
  have q3 : w0.cell? ⟨w.heap.size, 3, none⟩ = some (.slice ac nc cc) := HA.out 3
  obtain ⟨R, hR⟩ : ∃ R : Int, R = if (!(inB xpa 31 && decide (xpa ≤ xrg) && !(ks.any noC) && endB cs && cs.all (ordB ⟨xrg, nu, nc, nk, np⟩)) || (top && decide (nu > 0)) || !(findB us rg' nu')) = true then 1 else 0 := ⟨_, rfl⟩
  rw [← hR]
  have HR := hide_p hR
  clear hR
  go_enter Tryd.func59, Tryd.ntmps59
  go_upto_region 1 with fail
  rw [← hw0]
  clear hw0
  by_cases c1 : xpa < 0
  · have HF : Hid (R = 1) := by show _ = _; rw [HR.out, show inB xpa 31 = false by unfold inB; simp; omega]; simp
    go_wp2
    go_ret
    exact ⟨by rw [HF.out]; rfl, HB0.out⟩
  by_cases c2 : xpa > 30
  · have HF : Hid (R = 1) := by show _ = _; rw [HR.out, show inB xpa 31 = false by unfold inB; simp; omega]; simp
    go_wp2
    go_ret
    exact ⟨by rw [HF.out]; rfl, HB0.out⟩
  have HIN : Hid (inB xpa 31 = true) := by show _ = _; unfold inB; simp; omega
  by_cases c3 : xpa > xrg
  · have HF : Hid (R = 1) := by show _ = _; rw [HR.out, show decide (xpa ≤ xrg) = false by simp; omega]; simp
    go_wp2
    go_ret
    exact ⟨by rw [HF.out]; rfl, HB0.out⟩
  have HPR : Hid (decide (xpa ≤ xrg) = true) := by show _ = _; simp; omega
  by_cases c4 : nc = 0
  · have HF : Hid (R = 1) := by
      have : cs = [] := List.eq_nil_of_length_eq_zero (by have := HN.out; omega)
      show _ = _
      rw [HR.out, this, show endB [] = false from rfl]
      simp
    subst c4
    go_wp2
    go_ret
    exact ⟨by rw [HF.out]; rfl, HB0.out⟩
  have c5 : ¬ (nc : Int) = 0 := by omega
  have c6 : ((nc : Int) == 0) = false := by simp; omega
  by_cases c7 : top = true ∧ 0 < nu
  · obtain ⟨rfl, c8⟩ := c7
    have HF : Hid (R = 1) := by show _ = _; rw [HR.out, show decide (nu > 0) = true by simp; omega]; simp
    have c9 : (nu : Int) > 0 := by omega
    go_wp2
    go_ret
    exact ⟨by rw [HF.out]; rfl, HB0.out⟩
  have HTP : Hid ((top && decide (nu > 0)) = false) := by
    show _ = _
    cases top with
    | false => rfl
    | true => simp at c7 ⊢; omega
  have HNO : Hid (∀ z : Bool, ks.any noC = z ∨ True → True) := fun _ _ => trivial
  clear HNO
  have hrg0 : 0 ≤ xrg := by omega
  go_cut [43] (fun t43 wx => t43 = .bool false ∧ wx = w0)
  case first =>
    cases top with
    | false =>
      go_wp2_with fail
      go_meet
      exact ⟨rfl, rfl⟩
    | true =>
      have c8 : ¬ (nu : Int) > 0 := by simp at c7; omega
      go_wp2_with fail
      go_meet
      exact ⟨by rw [show decide (0 < nu) = false by simp; omega], rfl⟩
  case rest =>
    obtain ⟨rfl, hwc⟩ := hcut
    have hwc2 := hwc.symm
    clear hwc
    subst hwc2
    clear q0 q1 q2 q3 c7 c5 c6
    go_wp2_with fail
    go_loopw [7, 8] (fun t7 t8 wr => ∃ (i : Nat), i ≤ nk ∧ t7 = .int .i64 i ∧ Hid ((ks.take i).any noC = false) ∧ Hid (Below w0.heap.size w0 wr)) (fun t7 _ _ => nk - (intOf t7).toNat)
    case atStart => exact ⟨0, Nat.zero_le _, rfl, rfl, Below.refl _ _⟩
    case round =>
      obtain ⟨i, hi, rfl, HJ, HB⟩ := hrel
      have HBw : Hid (Below w.heap.size w wr) := HB0.out.trans (HB.out.mono HB0.out.size)
      have r4 : wr.cell? ⟨w.heap.size, 4, none⟩ = some (.slice ak nk ck) := box6 HA.out HB.out (Nat.le_refl _) rfl
      by_cases c : i < nk
      · have i1 : i < ks.length := by have := HN.out; omega
        obtain ⟨-, g, o, rfl, K, N, S, O, hl, ⟨b1, b2, b3, b4⟩, e0, e1, e2, e3⟩ := (HSK.out.kept HBw.out (Nat.le_refl _)).get i1
        have HT1 : Hid ((ks.take (i + 1)).any noC = noC ⟨K, N, S, O⟩) := by
          show _ = _
          rw [List.take_succ_eq_append_getElem i1, List.any_append, HJ.out, hl]
          simp
        have HT2 : Hid (noC ⟨K, N, S, O⟩ = true → R = 1) := by
          intro e
          have : ks.any noC = true := List.any_eq_true.2 ⟨ks[i], List.getElem_mem i1, by rw [hl]; exact e⟩
          rw [HR.out, this]
          simp
        obtain ⟨bv, hbv⟩ : ∃ bv, bv = wr.heap.size := ⟨_, rfl⟩
        obtain ⟨wv, hwv⟩ : ∃ wv, wv = wr.alloc (.cells #[.int .i64 K, .int .u64 N, .string S, .int .i64 O] 63) := ⟨_, rfl⟩
        have HBv : Hid (Below wr.heap.size wr wv) := by rw [hwv]; exact (Below.refl _ _).alloc (Nat.le_refl _) _
        have p0 : ∀ p : BelowOf wv, p.u.cell? ⟨bv, 0, none⟩ = some (.int .i64 K) := fun p => cell_kept p.h (Nat.le_refl _) (by rw [hwv, hbv]; simp)
        have p1 : ∀ p : BelowOf wv, p.u.cell? ⟨bv, 1, none⟩ = some (.int .u64 N) := fun p => cell_kept p.h (Nat.le_refl _) (by rw [hwv, hbv]; simp)
        have p2 : ∀ p : BelowOf wv, p.u.cell? ⟨bv, 2, none⟩ = some (.string S) := fun p => cell_kept p.h (Nat.le_refl _) (by rw [hwv, hbv]; simp)
        have p3 : ∀ p : BelowOf wv, p.u.cell? ⟨bv, 3, none⟩ = some (.int .i64 O) := fun p => cell_kept p.h (Nat.le_refl _) (by rw [hwv, hbv]; simp)
        have HNm : Hid (∀ w, Calls Tryd.prog 71 #[.agg #[.int .i64 K, .int .u64 N, .string S, .int .i64 O]] w fun e w' => e = .returned (.agg #[.int .i64 (nK K), .int .u64 (nN K N), .string (nS K S), .int .i64 (nO K O)]) ∧ Below w.heap.size w w') := fun w => refNormal_any K N S O w ⟨b2.1, b2.2⟩
        have HQ := fun w => neqV (nK K) K (nN K N) N (nS K S) S (nO K O) O w
        have HM : Hid (((nK K == K) && (nN K N == N) && ((nS K S).toList == S.toList) && (nO K O == O)) = normB K N S O) := rfl
        rw [HM.out] at HQ
        have hInh : Inhabited (BelowOf wv) := ⟨⟨wv, Below.refl _ _⟩⟩
        have HC : Hid (noC ⟨K, N, S, O⟩ = (!(inB K 5) || !(normB K N S O))) := rfl
        have HNXT : Hid (∀ wq, Below wv.heap.size wv wq → Below w0.heap.size w0 wq) := fun wq hq => HB.out.trans ((HBv.out.mono HB.out.size).trans (hq.mono (Nat.le_trans HB.out.size HBv.out.size)))
        clear hl
        go_upto_region 7 with fail
        rw [← hbv, ← hwv]
        clear hbv hwv e0 e1 e2 e3
        generalize normB K N S O = zn at *
        generalize nK K = K' at *
        generalize nN K N = N' at *
        generalize nS K S = S' at *
        generalize nO K O = O' at *
        by_cases k1 : K < 0
        · have hd1 : decide (K < 0) = true := by simp [k1]
          have HF : Hid (R = 1) := HT2.out (by rw [HC.out, show inB K 5 = false by unfold inB; simp; omega]; rfl)
          refine wp_region_below (by kernel_rfl) (by kernel_rfl) ?_
          repeat (quiet_step (fail))
          refine wpQuiet_nil ?_
          intro wq hw'
          obtain ⟨⟨w9, hwq⟩, hw''⟩ := hw'
          subst hw''
          have HBq := hide_p (HNXT.out _ hwq)
          clear p0 p1 p2 p3 hwq
          go_wp2
          go_ret
          exact ⟨by rw [HF.out]; rfl, HB0.out.trans (HBq.out.mono HB0.out.size)⟩
        · have hd1 : decide (K < 0) = false := by simp; omega
          by_cases k2 : K > 4
          · have hd2 : decide (K > 4) = true := by simp; omega
            have HF : Hid (R = 1) := HT2.out (by rw [HC.out, show inB K 5 = false by unfold inB; simp; omega]; rfl)
            refine wp_region_below (by kernel_rfl) (by kernel_rfl) ?_
            repeat (quiet_step (fail))
            refine wpQuiet_nil ?_
            intro wq hw'
            obtain ⟨⟨w9, hwq⟩, hw''⟩ := hw'
            subst hw''
            have HBq := hide_p (HNXT.out _ hwq)
            clear p0 p1 p2 p3 hwq
            go_wp2
            go_ret
            exact ⟨by rw [HF.out]; rfl, HB0.out.trans (HBq.out.mono HB0.out.size)⟩
          · have hd2 : decide (K > 4) = false := by simp; omega
            have HC2 : Hid (noC ⟨K, N, S, O⟩ = !zn) := by show _ = _; rw [HC.out, show inB K 5 = true by unfold inB; simp; omega]; rfl
            rw [HC2.out] at HT1 HT2
            refine wp_region_below (by kernel_rfl) (by kernel_rfl) ?_
            repeat (quiet_step (fail))
            quiet_step ((go_at_call 71; exact below_of (HNm.out _)))
            repeat (quiet_step (fail))
            refine wpQuiet_nil ?_
            intro wq hw'
            obtain ⟨⟨w9, hwq⟩, hw''⟩ := hw'
            subst hw''
            have HBq := hide_p (HNXT.out _ hwq)
            clear p0 p1 p2 p3 hwq HQ HNm
            cases zn with
            | false =>
              have HF : Hid (R = 1) := HT2.out rfl
              go_wp2
              go_ret
              exact ⟨by rw [HF.out]; rfl, HB0.out.trans (HBq.out.mono HB0.out.size)⟩
            | true =>
              have HT3 : Hid ((ks.take (i + 1)).any noC = false) := HT1.out
              go_wp2
              go_roundw
              case rel => exact ⟨i + 1, by omega, by go_num, HT3, HBq⟩
              case measure => simp [intOf]; omega
      · have e : i = nk := by omega
        have HKS : Hid (ks.any noC = false) := by
          have := HJ.out
          rw [List.take_of_length_le (by have := HN.out; omega)] at this
          exact this
        subst e
        obtain ⟨l1, hl1⟩ : ∃ l, l + 1 = nc := ⟨nc - 1, by omega⟩
        have i1 : l1 < cs.length := by have := HN.out; omega
        obtain ⟨-, g, o, rfl, op, xa, xb, xc, hl, -, e0, -, -, -⟩ := (HSC.out.kept HBw.out (Nat.le_refl _)).get i1
        have HEN : Hid (endB cs = ((op == 29) || (op == 33) || (op == 34))) := by
          show _ = _
          unfold endB
          rw [List.getLast?_eq_getElem?, show cs.length - 1 = l1 by have := HN.out; omega, List.getElem?_eq_getElem i1, hl]
        have r3 : wr.cell? ⟨w.heap.size, 3, none⟩ = some (.slice (some ⟨g, o, none⟩) nc cc) := box6 HA.out HB.out (Nat.le_refl _) rfl
        have hm1 : (nc : Int) - 1 = (l1 : Int) := by omega
        have hm2 : (l1 : Int) < (nc : Int) := by omega
        clear hl HJ
        obtain ⟨ze, HZE⟩ : ∃ z, Hid (endB cs = z) := ⟨_, rfl⟩
        rw [HZE.out] at HEN
        go_upto_region 10 with fail
        go_cut [88] (fun t88 wx => t88 = .bool (!ze) ∧ wx = wr)
        case first =>
          by_cases d1 : op = 29
          · subst d1
            have hz : ze = true := HEN.out
            subst hz
            go_wp2_with fail
            go_meet
            exact ⟨rfl, rfl⟩
          · have m1 : (op != 29) = true := by simp [d1]
            by_cases d2 : op = 33
            · subst d2
              have hz : ze = true := HEN.out
              subst hz
              go_wp2_with fail
              go_meet
              exact ⟨rfl, rfl⟩
            · have m2 : (op != 33) = true := by simp [d2]
              have hz : ze = (op == 34) := by rw [HEN.out]; simp [d1, d2]
              subst hz
              go_wp2_with fail
              go_meet
              exact ⟨rfl, rfl⟩
        case rest =>
          obtain ⟨rfl, rfl⟩ := hcut
          clear e0 r3 r4 hm1 hm2 hl1 i1
          cases ze with
          | false =>
            have HF : Hid (R = 1) := by show _ = _; rw [HR.out, HZE.out]; simp
            go_wp2
            go_ret
            exact ⟨by rw [HF.out]; rfl, HBw.out⟩
          | true =>
            go_wp2_with fail
            go_loopw [10, 11, 12] (fun t10 t11 t12 wr => ∃ (j : Nat), j ≤ nu ∧ t10 = .int .i64 j ∧ Hid (findB (us.take j) rg' nu' = true) ∧ Hid (Below w0.heap.size w0 wr)) (fun t10 _ _ _ => nu - (intOf t10).toNat)
            case atStart => exact ⟨0, Nat.zero_le _, rfl, rfl, HB⟩
            case round =>
              obtain ⟨j, hj, rfl, HJ, HB2⟩ := hrel
              have HB2w : Hid (Below w.heap.size w wr) := HB0.out.trans (HB2.out.mono HB0.out.size)
              have r2 : wr.cell? ⟨w.heap.size, 2, none⟩ = some (.slice au nu cu) := box6 HA.out HB2.out (Nat.le_refl _) rfl
              by_cases cj : j < nu
              · have j1 : j < us.length := by have := HN.out; omega
                obtain ⟨-, g2, o2, rfl, own, pl, hl, -, e0, e1⟩ := (HSU.out.kept HB2w.out (Nat.le_refl _)).get j1
                have HT1 : Hid (findB (us.take (j + 1)) rg' nu' = inB pl (if own then rg' else nu')) := by
                  show _ = _
                  unfold findB
                  rw [List.take_succ_eq_append_getElem j1, List.all_append]
                  have := HJ.out
                  unfold findB at this
                  rw [this, hl]
                  simp
                have HT2 : Hid (inB pl (if own then rg' else nu') = false → R = 1) := by
                  intro e
                  have : findB us rg' nu' = false := by
                    rw [Bool.eq_false_iff]
                    intro e2
                    have := List.all_eq_true.1 e2 _ (List.getElem_mem j1)
                    rw [hl] at this
                    simp only at this
                    rw [e] at this
                    cases this
                  rw [HR.out, this]
                  simp
                have s2 : wr.cell? ⟨w.heap.size + 1, 2, none⟩ = some (.slice au' nu' cu') := box6 HD.out HB2.out (Nat.le_refl _) rfl
                have s1 : wr.cell? ⟨w.heap.size + 1, 1, none⟩ = some (.int .i64 rg') := box6 HD.out HB2.out (Nat.le_refl _) rfl
                have hszr : w.heap.size + 2 ≤ wr.heap.size := by have := HB2.out.size; have := HS0.out; omega
                have HB3 : Hid (Below w0.heap.size w0 ((wr.alloc (.cells #[.bool own, .int .i64 pl] 54)).drew)) := (HB2.out.alloc HB2.out.size _).drew
                clear hl
                go_wp2_with fail
                go_region_held3 (fun w' => w'.cell? ⟨w.heap.size, 2, none⟩ = some (.slice (some ⟨g2, o2, none⟩) nu cu) ∧ w'.cell? ⟨g2, o2 + j * 2, none⟩ = some (.bool own) ∧ w'.cell? ⟨g2, o2 + j * 2 + 1, none⟩ = some (.int .i64 pl) ∧ w'.cell? ⟨w.heap.size + 1, 2, none⟩ = some (.slice au' nu' cu')) (go_keep) (fail)
                rename_i hHeld
                clear hHeld
                obtain ⟨w7, hw7⟩ : ∃ w7, w7 = (wr.alloc (.cells #[.bool own, .int .i64 pl] 54)).drew := ⟨_, rfl⟩
                rw [← hw7] at HB3 ⊢
                have z0 : w7.cell? ⟨wr.heap.size, 0, none⟩ = some (.bool own) := by rw [hw7]; simp
                have z1 : w7.cell? ⟨wr.heap.size, 1, none⟩ = some (.int .i64 pl) := by rw [hw7]; simp
                have z2 : w7.cell? ⟨w.heap.size + 1, 1, none⟩ = some (.int .i64 rg') := by
                  have hb : Below wr.heap.size wr w7 := by rw [hw7]; exact ((Below.refl _ _).alloc (Nat.le_refl _) _).drew
                  exact cell_kept hb (Nat.le_refl _) s1
                clear hw7 e0 e1 r2 s1 s2
                cases own
                case false =>
                  simp only [Bool.false_eq_true, if_false] at HT1 HT2
                  by_cases y1 : pl < 0
                  · have HF : Hid (R = 1) := HT2.out (by unfold inB; simp; omega)
                    go_wp2
                    go_ret
                    exact ⟨by rw [HF.out]; rfl, HB0.out.trans (HB3.out.mono HB0.out.size)⟩
                  · by_cases y2 : pl ≥ (nu' : Int)
                    · have HF : Hid (R = 1) := HT2.out (by unfold inB; simp; omega)
                      go_wp2
                      go_ret
                      exact ⟨by rw [HF.out]; rfl, HB0.out.trans (HB3.out.mono HB0.out.size)⟩
                    · have HT3 : Hid (findB (us.take (j + 1)) rg' nu' = true) := by show _ = _; rw [HT1.out]; unfold inB; simp; omega
                      go_wp2
                      go_roundw
                      case rel => first | exact ⟨j + 1, by omega, by go_num, HT3, HB3⟩ | exact ⟨j + 1, by omega, by omega, HT3⟩
                      case measure => simp [intOf]; omega
                case true =>
                  simp only [if_true] at HT1 HT2
                  by_cases y1 : pl < 0
                  · have HF : Hid (R = 1) := HT2.out (by unfold inB; simp; omega)
                    go_wp2
                    go_ret
                    exact ⟨by rw [HF.out]; rfl, HB0.out.trans (HB3.out.mono HB0.out.size)⟩
                  · by_cases y2 : pl ≥ rg'
                    · have HF : Hid (R = 1) := HT2.out (by unfold inB; simp; omega)
                      go_wp2
                      go_ret
                      exact ⟨by rw [HF.out]; rfl, HB0.out.trans (HB3.out.mono HB0.out.size)⟩
                    · have HT3 : Hid (findB (us.take (j + 1)) rg' nu' = true) := by show _ = _; rw [HT1.out]; unfold inB; simp; omega
                      go_wp2
                      go_roundw
                      case rel => first | exact ⟨j + 1, by omega, by go_num, HT3, HB3⟩ | exact ⟨j + 1, by omega, by omega, HT3⟩
                      case measure => simp [intOf]; omega
              · have e : j = nu := by omega
                have HFU : Hid (findB us rg' nu' = true) := by
                  have := HJ.out
                  rw [List.take_of_length_le (by have := HN.out; omega)] at this
                  exact this
                subst e
                clear HJ
                go_wp2_with fail
                clear r2
                go_loopw [13] (fun t13 wr => ∃ (k : Nat), k ≤ nc ∧ t13 = .int .i64 k ∧ Hid ((cs.take k).all (ordB ⟨xrg, j, nc, i, np⟩) = true) ∧ Hid (Below w0.heap.size w0 wr)) (fun t13 _ => nc - (intOf t13).toNat)
                case atStart => exact ⟨0, Nat.zero_le _, rfl, rfl, HB2⟩
                case round =>
                  obtain ⟨k, hk, rfl, HJ, HB4⟩ := hrel
                  have HB4w : Hid (Below w.heap.size w wr) := HB0.out.trans (HB4.out.mono HB0.out.size)
                  have r3 : wr.cell? ⟨w.heap.size, 3, none⟩ = some (.slice (some ⟨g, o, none⟩) nc cc) := box6 HA.out HB4.out (Nat.le_refl _) rfl
                  by_cases ck5 : k < nc
                  · have k1 : k < cs.length := by have := HN.out; omega
                    obtain ⟨-, g5, o5, hgo, op5, ya, yb, yc, hl, hok, f0, f1, f2, f3⟩ := (HSC.out.kept HB4w.out (Nat.le_refl _)).get k1
                    injection hgo with hgo
                    injection hgo with hg1 hg2
                    subst hg1 hg2
                    have HT1 : Hid ((cs.take (k + 1)).all (ordB ⟨xrg, j, nc, i, np⟩) = ordB ⟨xrg, j, nc, i, np⟩ ⟨op5, ya, yb, yc⟩) := by
                      show _ = _
                      rw [List.take_succ_eq_append_getElem k1, List.all_append, HJ.out, hl]
                      simp
                    have HT2 : Hid (ordB ⟨xrg, j, nc, i, np⟩ ⟨op5, ya, yb, yc⟩ = false → R = 1) := by
                      intro e
                      have : cs.all (ordB ⟨xrg, j, nc, i, np⟩) = false := by
                        rw [Bool.eq_false_iff]
                        intro e2
                        have := List.all_eq_true.1 e2 _ (List.getElem_mem k1)
                        rw [hl, e] at this
                        cases this
                      rw [HR.out, this]
                      simp
                    have HCA : Hid (∀ w, Calls Tryd.prog 72 #[.agg #[.int .i64 xpa, .int .i64 xrg, .slice au j cu, .slice (some ⟨g, o, none⟩) nc cc, .slice ak i ck, .slice ap np cp], .agg #[.int .i64 op5, .int .i64 ya, .int .i64 yb, .int .i64 yc]] w fun e w' => e = .returned (.bool (ordB ⟨xrg, j, nc, i, np⟩ ⟨op5, ya, yb, yc⟩)) ∧ Below w.heap.size w w') := fun w => by
                      have := can_any op5 ya yb yc xpa xrg au (some ⟨g, o, none⟩) ak ap j cu nc cc i ck np cp w hrg0 HRG.out hok.2.1
                      rw [can_ord _ _ hrg0] at this
                      exact this
                    have p0 : ∀ p : BelowOf wr, p.u.cell? ⟨w.heap.size, 0, none⟩ = some (.int .i64 xpa) := fun p => cell_kept p.h (Nat.le_refl _) (box6 HA.out HB4.out (Nat.le_refl _) rfl)
                    have p1 : ∀ p : BelowOf wr, p.u.cell? ⟨w.heap.size, 1, none⟩ = some (.int .i64 xrg) := fun p => cell_kept p.h (Nat.le_refl _) (box6 HA.out HB4.out (Nat.le_refl _) rfl)
                    have p2 : ∀ p : BelowOf wr, p.u.cell? ⟨w.heap.size, 2, none⟩ = some (.slice au j cu) := fun p => cell_kept p.h (Nat.le_refl _) (box6 HA.out HB4.out (Nat.le_refl _) rfl)
                    have p3 : ∀ p : BelowOf wr, p.u.cell? ⟨w.heap.size, 3, none⟩ = some (.slice (some ⟨g, o, none⟩) nc cc) := fun p => cell_kept p.h (Nat.le_refl _) r3
                    have p4 : ∀ p : BelowOf wr, p.u.cell? ⟨w.heap.size, 4, none⟩ = some (.slice ak i ck) := fun p => cell_kept p.h (Nat.le_refl _) (box6 HA.out HB4.out (Nat.le_refl _) rfl)
                    have p5 : ∀ p : BelowOf wr, p.u.cell? ⟨w.heap.size, 5, none⟩ = some (.slice ap np cp) := fun p => cell_kept p.h (Nat.le_refl _) (box6 HA.out HB4.out (Nat.le_refl _) rfl)
                    have t0 : ∀ p : BelowOf wr, p.u.cell? ⟨g, o + k * 4, none⟩ = some (.int .i64 op5) := fun p => cell_kept p.h (Nat.le_refl _) f0
                    have t1 : ∀ p : BelowOf wr, p.u.cell? ⟨g, o + k * 4 + 1, none⟩ = some (.int .i64 ya) := fun p => cell_kept p.h (Nat.le_refl _) f1
                    have t2 : ∀ p : BelowOf wr, p.u.cell? ⟨g, o + k * 4 + 2, none⟩ = some (.int .i64 yb) := fun p => cell_kept p.h (Nat.le_refl _) f2
                    have t3 : ∀ p : BelowOf wr, p.u.cell? ⟨g, o + k * 4 + 3, none⟩ = some (.int .i64 yc) := fun p => cell_kept p.h (Nat.le_refl _) f3
                    have hInh : Inhabited (BelowOf wr) := ⟨⟨wr, Below.refl _ _⟩⟩
                    generalize ordB ⟨xrg, j, nc, i, np⟩ ⟨op5, ya, yb, yc⟩ = zo at *
                    clear hl hok f0 f1 f2 f3
                    go_wp2_with fail
                    refine wp_region_below (by kernel_rfl) (by kernel_rfl) ?_
                    repeat (quiet_step (fail))
                    quiet_step ((go_at_call 72; exact below_of (HCA.out _)))
                    repeat (quiet_step (fail))
                    refine wpQuiet_nil ?_
                    intro wq hw'
                    obtain ⟨⟨w9, hwq⟩, hw''⟩ := hw'
                    subst hw''
                    have HBq : Hid (Below w0.heap.size w0 wq) := HB4.out.trans (hwq.mono HB4.out.size)
                    clear p0 p1 p2 p3 p4 p5 t0 t1 t2 t3 hwq HCA r3
                    cases zo with
                    | false =>
                      have HF : Hid (R = 1) := HT2.out rfl
                      go_wp2
                      go_ret
                      exact ⟨by rw [HF.out]; rfl, HB0.out.trans (HBq.out.mono HB0.out.size)⟩
                    | true =>
                      have HT3 : Hid ((cs.take (k + 1)).all (ordB ⟨xrg, j, nc, i, np⟩) = true) := HT1.out
                      go_wp2
                      go_roundw
                      case rel => first | exact ⟨k + 1, by omega, by go_num, HT3, HBq⟩ | exact ⟨_, _, _, _, _, _, _, _, _, _, _, _, _, _, _, _, _, ⟨k + 1, by omega, by go_num, HT3, HBq⟩, rfl⟩
                      case measure => simp [intOf]; omega
                  · have e : k = nc := by omega
                    have HF : Hid (R = 0) := by
                      have h1 := HJ.out
                      rw [List.take_of_length_le (by have := HN.out; omega)] at h1
                      show _ = _
                      rw [HR.out, HIN.out, HPR.out, HKS.out, HZE.out, h1, HTP.out, HFU.out]
                      simp
                    subst e
                    go_wp2
                    go_ret
                    exact ⟨by rw [HF.out]; rfl, HB4w.out⟩

end Go.Proofs.YtcblknghkgihcaaDoor
namespace Go.Proofs.YtcblknghkgihcaaDoor
set_option maxRecDepth 100000
open Go.RowKit Txt Pg Flo

theorem chkL_le : ∀ (ps : List Pr) (rg : Int) (nu d n m : Nat), (∀ q ∈ ps, ∀ n' m', chkT q rg nu d n' = (m', 0) → m' ≤ 4096) → n ≤ 4096 → chkL rg nu d n ps = (m, 0) → m ≤ 4096
  | [], _, _, _, n, m, _, hn, h => by
    have : (n, (0 : Int)) = (m, 0) := h
    injection this with h1 _
    omega
  | p :: ps, rg, nu, d, n, m, hq, hn, h => by
    have h1 : chkL rg nu d n (p :: ps) = ps.foldl (fun r q => if r.2 = 0 then chkT q rg nu d r.1 else r) (chkT p rg nu d n) := rfl
    rw [h1] at h
    by_cases c : (chkT p rg nu d n).2 = 0
    · obtain ⟨n1, hn1⟩ : ∃ n1, chkT p rg nu d n = (n1, 0) := ⟨(chkT p rg nu d n).1, Prod.ext rfl c⟩
      rw [hn1] at h
      exact chkL_le ps rg nu d n1 m (fun q hq' => hq q (List.mem_cons_of_mem _ hq')) (hq p List.mem_cons_self n n1 hn1) h
    · rw [fold_bad (fun r q h => if_neg h) _ _ c] at h
      rw [h] at c
      exact absurd rfl c
theorem chkT_le : ∀ (t : Pr) (rg : Int) (nu d n m : Nat), chkT t rg nu d n = (m, 0) → m ≤ 4096 := by
  refine Pr.ind' fun pa rg us cs ks ps ih => ?_
  intro arg anu d n m h
  rw [chkT_mk] at h
  split at h
  · cases h
  · split at h
    · cases h
    · next c1 c2 =>
      simp only [Bool.or_eq_true, decide_eq_true_eq, not_or] at c1
      exact chkL_le ps _ _ _ _ _ (fun q hq n' m' h' => ih q hq _ _ _ _ _ h') (by omega) h

/-- The same, also for a whole script. -/
def chkG (t : Pr) (arg : Int) (anu deep n : Nat) : Nat × Int :=
  if (longB t.rg t.cs.length t.ks.length t.us.length || decide (deep > 100) || decide (n + 1 > 4096)) = true then (n + 1, 2)
  else if badB t arg anu (decide (deep = 0)) = true then (n + 1, 1)
  else chkL t.rg t.us.length (deep + 1) (n + 1) t.ps
theorem chkG_T (t : Pr) (arg : Int) (anu deep n : Nat) (h : 0 < deep) : chkG t arg anu deep n = chkT t arg anu deep n := by
  obtain ⟨pa, rg, us, cs, ks, ps⟩ := t
  rw [chkT_mk]
  unfold chkG badB
  rw [show decide (deep = 0) = false by simp; omega]
  simp
theorem chkG_B (t : Pr) : (chkG t 0 0 0 0).2 = chkB t := by
  obtain ⟨pa, rg, us, cs, ks, ps⟩ := t
  unfold chkG chkB badB
  simp only [Nat.zero_add, show decide ((0 : Nat) > 100) = false from rfl, show decide ((1 : Nat) > 4096) = false from rfl, Bool.or_false, decide_true, Bool.true_and]
  by_cases c1 : longB rg cs.length ks.length us.length = true
  · rw [if_pos c1, if_pos c1]
  · rw [if_neg c1, if_neg c1]
    cases us with
    | nil => simp [findB]; split <;> rfl
    | cons u us => simp

set_option maxHeartbeats 1000000 in
theorem rcheck_any : ∀ (t : Pr) (x : Six) (pa' rg' : Int) (au' : Option Addr) (nu' cu' : Nat) (vc' vk' vp' : Value) (deep n : Nat) (w : World), PR w t x → deep ≤ 101 → n ≤ 4096 →
    Calls Tryd.prog 37 #[x.v, .agg #[.int .i64 pa', .int .i64 rg', .slice au' nu' cu', vc', vk', vp'], .int .i64 deep, .int .i64 n] w fun e w' => e = .returned (.tuple #[.int .i64 (chkG t rg' nu' deep n).1, .int .i64 (chkG t rg' nu' deep n).2]) ∧ Below w.heap.size w w' := by
  refine Pr.ind' fun pa rg us cs ks ps ih => ?_
  intro x pa' rg' au' nu' cu' vc' vk' vp' deep n w h hdeep hn
  have HPR := hide_p h
  rw [PR_mk] at h
  obtain ⟨xpa, xrg, vu, vc, vk, vp⟩ := x
  simp only at h
  obtain ⟨rfl, rfl, hpa, hrg, hu, hc, hk, f, hp, hch⟩ := h
  obtain ⟨au, cu, rfl, -, -, lu⟩ := hu.1.val
  obtain ⟨ac, cc, rfl, -, -, lc⟩ := hc.1.val
  obtain ⟨ak, ck, rfl, -, -, lk⟩ := hk.1.val
  obtain ⟨ap, cp, rfl, hpl, hpc, lp⟩ := hp.val
  have HAL : Hid (∀ w', Below w.heap.size w w' → Calls Tryd.prog 59 #[.agg #[.int .i64 xpa, .int .i64 xrg, .slice au us.length cu, .slice ac cs.length cc, .slice ak ks.length ck, .slice ap ps.length cp], .agg #[.int .i64 pa', .int .i64 rg', .slice au' nu' cu', vc', vk', vp'], .bool (decide ((deep : Int) = 0))] w' fun e w'' => e = .returned (.int .i64 (if badB (.mk xpa xrg us cs ks ps) rg' nu' (decide (deep = 0)) then 1 else 0)) ∧ Below w'.heap.size w' w'') := fun w' hb => by
    have := alone_any (.mk xpa xrg us cs ks ps) _ pa' rg' au' nu' cu' vc' vk' vp' (decide (deep = 0)) w' (PR.kept hb (Nat.le_refl _) _ _ HPR.out)
    simp only [Six.v] at this
    rw [show decide ((deep : Int) = 0) = decide (deep = 0) by simp]
    exact this
  have HG : Hid (chkG (.mk xpa xrg us cs ks ps) rg' nu' deep n = if (longB xrg cs.length ks.length us.length || decide (deep > 100) || decide (n + 1 > 4096)) = true then (n + 1, 2)
      else if badB (.mk xpa xrg us cs ks ps) rg' nu' (decide (deep = 0)) = true then (n + 1, 1)
      else chkL xrg us.length (deep + 1) (n + 1) ps) := rfl
  obtain ⟨zb, HZB⟩ : ∃ z, Hid (badB (.mk xpa xrg us cs ks ps) rg' nu' (decide (deep = 0)) = z) := ⟨_, rfl⟩
  rw [HZB.out] at HG HAL
  obtain ⟨⟨m0, e0⟩, hr0⟩ : ∃ r, r = chkG (.mk xpa xrg us cs ks ps) rg' nu' deep n := ⟨_, rfl⟩
  rw [← hr0] at HG ⊢
  clear hr0
  unfold Six.v
  simp only
  have HI : Hid _ := ih
  have HCH := (show Hid (∀ i (h : i < ps.length), PR w ps[i] (f i)) from hch)
  obtain ⟨nu, hnu⟩ : ∃ n, n = us.length := ⟨_, rfl⟩
  obtain ⟨nc, hnc⟩ : ∃ n, n = cs.length := ⟨_, rfl⟩
  obtain ⟨nk, hnk⟩ : ∃ n, n = ks.length := ⟨_, rfl⟩
  obtain ⟨np, hnp⟩ : ∃ n, n = ps.length := ⟨_, rfl⟩
  have HNP := hide_p hnp
  have HSP : Hid (SL w (.slice ap np cp) ps.length 6 (fun i j u => u = (f i).at j)) := by rw [hnp]; exact hp
  rw [← hnu, ← hnc, ← hnk] at HG
  rw [← hnu, ← hnc, ← hnk, ← hnp] at HAL ⊢
  rw [← hnp] at hpl lp
  unfold far at lp
  clear hu hc hk hp hch ih hnu hnc hnk hnp lu lc lk
  obtain ⟨w0, hw0⟩ : ∃ w0, w0 = (w.alloc (.cells #[.int .i64 xpa, .int .i64 xrg, .slice au nu cu, .slice ac nc cc, .slice ak nk ck, .slice ap np cp] 27)).alloc (.cells #[.int .i64 pa', .int .i64 rg', .slice au' nu' cu', vc', vk', vp'] 27) := ⟨_, rfl⟩
  have HB0 : Hid (Below w.heap.size w w0) := by rw [hw0]; exact ((Below.refl _ w).alloc (Nat.le_refl _) _).alloc (by simp) _
  have HA : Hid (∀ j, w0.cell? ⟨w.heap.size, j, none⟩ = (#[.int .i64 xpa, .int .i64 xrg, .slice au nu cu, .slice ac nc cc, .slice ak nk ck, .slice ap np cp] : Array Value)[j]?) := by
    intro j
    rw [hw0, World.cell?_alloc_lt _ _ _ (by simp), World.cell?_alloc_new]
  have HD : Hid (∀ j, w0.cell? ⟨w.heap.size + 1, j, none⟩ = (#[.int .i64 pa', .int .i64 rg', .slice au' nu' cu', vc', vk', vp'] : Array Value)[j]?) := by
    intro j
    rw [hw0, World.cell?_alloc_at _ _ _ _ (by simp)]
  have q0 : w0.cell? ⟨w.heap.size, 0, none⟩ = some (.int .i64 xpa) := HA.out 0
  have q1 : w0.cell? ⟨w.heap.size, 1, none⟩ = some (.int .i64 xrg) := HA.out 1
  have q2 : w0.cell? ⟨w.heap.size, 2, none⟩ = some (.slice au nu cu) := HA.out 2
  have q3 : w0.cell? ⟨w.heap.size, 3, none⟩ = some (.slice ac nc cc) := HA.out 3
  have q4 : w0.cell? ⟨w.heap.size, 4, none⟩ = some (.slice ak nk ck) := HA.out 4
  have q5 : w0.cell? ⟨w.heap.size, 5, none⟩ = some (.slice ap np cp) := HA.out 5
  have s0 : w0.cell? ⟨w.heap.size + 1, 0, none⟩ = some (.int .i64 pa') := HD.out 0
  have s1 : w0.cell? ⟨w.heap.size + 1, 1, none⟩ = some (.int .i64 rg') := HD.out 1
  have s2 : w0.cell? ⟨w.heap.size + 1, 2, none⟩ = some (.slice au' nu' cu') := HD.out 2
  have s3 : w0.cell? ⟨w.heap.size + 1, 3, none⟩ = some vc' := HD.out 3
  have s4 : w0.cell? ⟨w.heap.size + 1, 4, none⟩ = some vk' := HD.out 4
  have s5 : w0.cell? ⟨w.heap.size + 1, 5, none⟩ = some vp' := HD.out 5
  obtain ⟨zl, HZL⟩ : ∃ z, Hid ((longB xrg nc nk nu || decide (deep > 100) || decide (n + 1 > 4096)) = z) := ⟨_, rfl⟩
  rw [HZL.out] at HG
  go_enter Tryd.func37, Tryd.ntmps37
  go_upto_region 2 with fail
  rw [← hw0]
  clear hw0
  go_cut [44] (fun t44 wx => t44 = .bool zl ∧ wx = w0)
  case first =>
    by_cases d1 : xrg > 4096
    · have hz : zl = true := by rw [← HZL.out]; simp [longB]; omega
      subst hz
      go_wp2_with fail
      go_meet
      exact ⟨rfl, rfl⟩
    by_cases d2 : (nc : Int) > 131072
    · have hz : zl = true := by rw [← HZL.out]; simp [longB]; omega
      subst hz
      go_wp2_with fail
      go_meet
      exact ⟨rfl, rfl⟩
    by_cases d3 : (nk : Int) > 131072
    · have hz : zl = true := by rw [← HZL.out]; simp [longB]; omega
      subst hz
      go_wp2_with fail
      go_meet
      exact ⟨rfl, rfl⟩
    by_cases d4 : (nu : Int) > 60
    · have hz : zl = true := by rw [← HZL.out]; simp [longB]; omega
      subst hz
      go_wp2_with fail
      go_meet
      exact ⟨rfl, rfl⟩
    by_cases d5 : (deep : Int) > 100
    · have hz : zl = true := by rw [← HZL.out]; simp [longB]; omega
      subst hz
      go_wp2_with fail
      go_meet
      exact ⟨rfl, rfl⟩
    by_cases d6 : (n : Int) + 1 > 4096
    · have hz : zl = true := by rw [← HZL.out]; simp [longB]; omega
      subst hz
      go_wp2_with fail
      go_meet
      exact ⟨rfl, rfl⟩
    · have hz : zl = false := by rw [← HZL.out]; simp [longB]; omega
      subst hz
      go_wp2_with fail
      go_meet
      exact ⟨rfl, rfl⟩
  case rest =>
    obtain ⟨rfl, hwc⟩ := hcut
    have hwc2 := hwc.symm
    clear hwc
    subst hwc2
    cases zl with
    | true =>
      have HE : Hid (m0 = n + 1 ∧ e0 = 2) := by
        have := HG.out
        rw [if_pos rfl] at this
        injection this with h1 h2
        exact ⟨h1, h2⟩
      go_wp2
      go_ret2
      exact ⟨by rw [HE.out.1, HE.out.2]; rfl, HB0.out⟩
    | false =>
      have HL4 : Hid (deep ≤ 100 ∧ n + 1 ≤ 4096) := by
        have := HZL.out
        simp only [Bool.or_eq_false_iff, decide_eq_false_iff_not] at this
        show _ ∧ _
        omega
      have hl4 := HL4.out
      obtain ⟨zi, hzi⟩ : ∃ zi : Int, zi = if zb = true then 1 else 0 := ⟨_, rfl⟩
      rw [← hzi] at HAL
      have HZI := hide_p hzi
      clear hzi
      go_upto_region 4 with fail
      go_cut [10] (fun t10 wx => t10 = .int .i64 zi ∧ Hid (Below w0.heap.size w0 wx))
      case first =>
        have hal := HAL.out w0 HB0.out
        rcases Nat.eq_zero_or_pos deep with hd | hd
        · subst hd
          rw [show decide (((0 : Nat) : Int) = 0) = true from rfl] at hal
          go_wp2_with fail
          refine hal.mono ?_
          rintro e w1 ⟨rfl, hb1⟩
          have HB1 := hide_p hb1
          clear hal hb1
          go_wp2_with fail
          go_meet
          exact ⟨rfl, HB1⟩
        · have hne : ¬ (deep : Int) = 0 := by omega
          have hne2 : ((deep : Int) == 0) = false := by simp; omega
          rw [show decide ((deep : Int) = 0) = false by simp; omega] at hal
          go_wp2_with fail
          refine hal.mono ?_
          rintro e w1 ⟨rfl, hb1⟩
          have HB1 := hide_p hb1
          clear hal hb1
          go_wp2_with fail
          go_meet
          exact ⟨rfl, HB1⟩
      case rest =>
        obtain ⟨rfl, HB1⟩ := hcut
        clear q0 q1 q2 q3 q4 q5 s0 s1 s2 s3 s4 s5 HAL
        cases zb with
        | true =>
          obtain rfl : zi = 1 := HZI.out
          have HE : Hid (m0 = n + 1 ∧ e0 = 1) := by
            have := HG.out
            rw [if_neg (by simp), if_pos rfl] at this
            injection this with h1 h2
            exact ⟨h1, h2⟩
          go_wp2
          go_ret2
          exact ⟨by rw [HE.out.1, HE.out.2]; rfl, HB0.out.trans (HB1.out.mono HB0.out.size)⟩
        | false =>
          obtain rfl : zi = 0 := HZI.out
          have HG2 : Hid ((m0, e0) = chkL xrg nu (deep + 1) (n + 1) ps) := by
            have := HG.out
            rw [if_neg (by simp), if_neg (by simp)] at this
            exact this
          clear HG
          go_wp2_with fail
          go_loopw [3, 11, 12, 13] (fun t3 t11 t12 t13 wr => ∃ (i m : Nat), i ≤ np ∧ t11 = .int .i64 i ∧ t3 = .int .i64 m ∧ m ≤ 4096 ∧ Hid (chkL xrg nu (deep + 1) (n + 1) (ps.take i) = (m, 0)) ∧ Hid (Below w0.heap.size w0 wr)) (fun _ t11 _ _ _ => np - (intOf t11).toNat)
          case atStart => exact ⟨0, n + 1, Nat.zero_le _, rfl, by simp, by omega, rfl, HB1⟩
          case round =>
            obtain ⟨i, m, hi, rfl, rfl, hm, HL, HB⟩ := hrel
            have HBw : Hid (Below w.heap.size w wr) := HB0.out.trans (HB.out.mono HB0.out.size)
            have r5 : wr.cell? ⟨w.heap.size, 5, none⟩ = some (.slice ap np cp) := box6 HA.out HB.out (Nat.le_refl _) rfl
            by_cases c : i < np
            · have i1 : i < ps.length := by rw [← HNP.out]; exact c
              obtain ⟨-, g, o, rfl, f0, f1, f2, f3, f4, f5⟩ := SP.get (HSP.out.kept HBw.out (Nat.le_refl _)) i1
              have HTK : Hid (chkL xrg nu (deep + 1) (n + 1) (ps.take (i + 1)) = chkT ps[i] xrg nu (deep + 1) m) := chkL_take xrg nu (deep + 1) (n + 1) ps i i1 m HL.out
              have HST : Hid (∀ r, chkT ps[i] xrg nu (deep + 1) m = r → r.2 ≠ 0 → chkL xrg nu (deep + 1) (n + 1) ps = r) := fun r e hr => chkL_stop xrg nu (deep + 1) (n + 1) ps (i + 1) r (HTK.out.trans e) hr
              have HLE : Hid (∀ m', chkT ps[i] xrg nu (deep + 1) m = (m', 0) → m' ≤ 4096) := fun m' e => chkT_le _ _ _ _ _ _ e
              have HC : Hid (∀ p : BelowOf wr, Calls Tryd.prog 37 #[(f i).v, .agg #[.int .i64 xpa, .int .i64 xrg, .slice au nu cu, .slice ac nc cc, .slice ak nk ck, .slice (some ⟨g, o, none⟩) np cp], .int .i64 ((deep + 1 : Nat) : Int), .int .i64 m] p.u fun e w' => e = .returned (.tuple #[.int .i64 (chkT ps[i] xrg nu (deep + 1) m).1, .int .i64 (chkT ps[i] xrg nu (deep + 1) m).2]) ∧ Below p.u.heap.size p.u w') := fun p => by
                have := HI.out ps[i] (List.getElem_mem i1) (f i) xpa xrg au nu cu (.slice ac nc cc) (.slice ak nk ck) (.slice (some ⟨g, o, none⟩) np cp) (deep + 1) m p.u (PR.kept (HBw.out.trans (p.h.mono HBw.out.size)) (Nat.le_refl _) _ _ (HCH.out i i1)) (by omega) hm
                rw [chkG_T _ _ _ _ _ (by omega)] at this
                exact this
              generalize hrr : chkT ps[i] xrg nu (deep + 1) m = rr at *
              obtain ⟨m2, e2⟩ := rr
              clear hrr
              unfold Six.v at HC
              generalize f i = y at *
              obtain ⟨ypa, yrg, yu, yc, yk, yp⟩ := y
              simp only at f0 f1 f2 f3 f4 f5 HC
              rw [show ((deep + 1 : Nat) : Int) = (deep : Int) + 1 by omega] at HC
              have p0 : ∀ p : BelowOf wr, p.u.cell? ⟨w.heap.size, 0, none⟩ = some (.int .i64 xpa) := fun p => cell_kept p.h (Nat.le_refl _) (box6 HA.out HB.out (Nat.le_refl _) rfl)
              have p1 : ∀ p : BelowOf wr, p.u.cell? ⟨w.heap.size, 1, none⟩ = some (.int .i64 xrg) := fun p => cell_kept p.h (Nat.le_refl _) (box6 HA.out HB.out (Nat.le_refl _) rfl)
              have p2 : ∀ p : BelowOf wr, p.u.cell? ⟨w.heap.size, 2, none⟩ = some (.slice au nu cu) := fun p => cell_kept p.h (Nat.le_refl _) (box6 HA.out HB.out (Nat.le_refl _) rfl)
              have p3 : ∀ p : BelowOf wr, p.u.cell? ⟨w.heap.size, 3, none⟩ = some (.slice ac nc cc) := fun p => cell_kept p.h (Nat.le_refl _) (box6 HA.out HB.out (Nat.le_refl _) rfl)
              have p4 : ∀ p : BelowOf wr, p.u.cell? ⟨w.heap.size, 4, none⟩ = some (.slice ak nk ck) := fun p => cell_kept p.h (Nat.le_refl _) (box6 HA.out HB.out (Nat.le_refl _) rfl)
              have p5 : ∀ p : BelowOf wr, p.u.cell? ⟨w.heap.size, 5, none⟩ = some (.slice (some ⟨g, o, none⟩) np cp) := fun p => cell_kept p.h (Nat.le_refl _) r5
              have t0 : ∀ p : BelowOf wr, p.u.cell? ⟨g, o + i * 6, none⟩ = some (.int .i64 ypa) := fun p => cell_kept p.h (Nat.le_refl _) f0
              have t1 : ∀ p : BelowOf wr, p.u.cell? ⟨g, o + i * 6 + 1, none⟩ = some (.int .i64 yrg) := fun p => cell_kept p.h (Nat.le_refl _) f1
              have t2 : ∀ p : BelowOf wr, p.u.cell? ⟨g, o + i * 6 + 2, none⟩ = some yu := fun p => cell_kept p.h (Nat.le_refl _) f2
              have t3 : ∀ p : BelowOf wr, p.u.cell? ⟨g, o + i * 6 + 3, none⟩ = some yc := fun p => cell_kept p.h (Nat.le_refl _) f3
              have t4 : ∀ p : BelowOf wr, p.u.cell? ⟨g, o + i * 6 + 4, none⟩ = some yk := fun p => cell_kept p.h (Nat.le_refl _) f4
              have t5 : ∀ p : BelowOf wr, p.u.cell? ⟨g, o + i * 6 + 5, none⟩ = some yp := fun p => cell_kept p.h (Nat.le_refl _) f5
              have hInh : Inhabited (BelowOf wr) := ⟨⟨wr, Below.refl _ _⟩⟩
              have hwr : IntKind.i64.wrap ((deep : Int) + 1) = (deep : Int) + 1 := by rw [IntKind.wrap_i64]; omega
              clear f0 f1 f2 f3 f4 f5
              go_wp2_with fail
              refine wp_region_below (by kernel_rfl) (by kernel_rfl) ?_
              repeat (quiet_step (fail))
              quiet_step ((go_at_call 37; exact below_of (HC.out _)))
              repeat (quiet_step (fail))
              refine wpQuiet_nil ?_
              intro wq hw'
              obtain ⟨⟨w9, hwq⟩, hw''⟩ := hw'
              subst hw''
              have HBq : Hid (Below w0.heap.size w0 wq) := HB.out.trans (hwq.mono HB.out.size)
              clear p0 p1 p2 p3 p4 p5 t0 t1 t2 t3 t4 t5 hwq HC r5
              by_cases d3 : e2 = 0
              · subst d3
                have hm6 : m2 ≤ 4096 := HLE.out m2 rfl
                have HTK2 : Hid (chkL xrg nu (deep + 1) (n + 1) (ps.take (i + 1)) = (m2, 0)) := HTK.out
                clear HST HLE HTK
                go_wp2
                go_roundw
                case rel => first | exact ⟨i + 1, m2, by omega, by go_num, rfl, hm6, HTK2, HBq⟩ | exact ⟨i + 1, m2, by omega, by go_num, by go_num, hm6, HTK2, HBq⟩
                case measure => simp [intOf]; omega
              · have d4 : (e2 != 0) = true := by simp [d3]
                have HE : Hid (m0 = m2 ∧ e0 = e2) := by
                  have h1 := HST.out (m2, e2) rfl d3
                  have h2 := HG2.out
                  rw [h1] at h2
                  injection h2 with h3 h4
                  exact ⟨h3, h4⟩
                clear HST HLE HTK
                go_wp2
                go_ret2
                exact ⟨by rw [HE.out.1, HE.out.2]; rfl, HB0.out.trans (HBq.out.mono HB0.out.size)⟩
            · have e : i = np := by omega
              have HE : Hid (m0 = m ∧ e0 = 0) := by
                have h1 := HL.out
                rw [List.take_of_length_le (by rw [← HNP.out]; omega)] at h1
                have h2 := HG2.out
                rw [h1] at h2
                injection h2 with h3 h4
                exact ⟨h3, h4⟩
              subst e
              go_wp2
              go_ret2
              exact ⟨by rw [HE.out.1, HE.out.2]; rfl, HBw.out⟩

set_option maxHeartbeats 2000000 in
theorem rCheck_any (t : Pr) (x : Six) (w : World) (h : PR w t x) :
    Calls Tryd.prog 14 #[x.v] w fun e w' => e = .returned (.int .i64 (chkB t)) ∧ Below w.heap.size w w' := by
  have HP := hide_p h
  obtain ⟨a1, n1, c1, a2, n2, c2, a3, n3, c3, a4, n4, c4, h1, h2, h3, h4⟩ := six_form (PR.prs _ _ h)
  obtain ⟨pa, rg, vu, vc, vk, vp⟩ := x
  simp only at h1 h2 h3 h4
  subst h1 h2 h3 h4
  have hc := rcheck_any t _ 0 0 none 0 0 (.slice none 0 0) (.slice none 0 0) (.slice none 0 0) 0 0 (w.alloc (.cells #[.int .i64 pa, .int .i64 rg, .slice a1 n1 c1, .slice a2 n2 c2, .slice a3 n3 c3, .slice a4 n4 c4] 27)) (PR.kept ((Below.refl _ _).alloc (Nat.le_refl _) _) (Nat.le_refl _) _ _ HP.out) (by decide) (by decide)
  rw [chkG_B] at hc
  unfold Six.v at hc ⊢
  simp only at hc ⊢
  rw [show ((0 : Nat) : Int) = 0 from rfl] at hc
  generalize (chkG t 0 0 0 0).1 = m0 at *
  clear h
  go_enter Tryd.func14, Tryd.ntmps14
  go_wp2_with fail
  refine hc.mono ?_
  rintro e w1 ⟨rfl, hb⟩
  have HB : Hid (Below w.heap.size w w1) := ((Below.refl _ w).alloc (Nat.le_refl _) _).trans (hb.mono (by simp))
  clear hc hb
  go_wp2
  go_ret
  exact ⟨rfl, HB.out⟩

end Go.Proofs.YtcblknghkgihcaaDoor
namespace Go.Proofs.YtcblknghkgihcaaDoor
set_option maxRecDepth 100000
open Go.RowKit Crc Txt Pg

/-- The reference's read, of any tree. -/
theorem rread_any : ∀ (m : Nat), m ≤ 100 → ∀ (t : Tr) (v : Value) (w : World), CR w t v → Stx t → t.cnt ≤ 1000000 → Calls Tryd.prog 36 #[v, .int .i64 (100 - (m : Int))] w (RdR w (rdT m t)) := by
  intro m
  induction m with
  | zero => exact fun hm t v w h1 h2 h3 => read_of 0 hm (fun m' e => by omega) t v w h1 h2 h3
  | succ m ih =>
    intro hm t v w h1 h2 h3
    refine read_of (m + 1) hm (fun m' e => ?_) t v w h1 h2 h3
    have : m' = m := by omega
    subst this
    exact ih (by omega)

theorem many_cnt (t : Tr) : (manyL t).length + 1 ≤ t.cnt := by
  obtain ⟨k, n, s, l⟩ := t
  rw [Tr.cnt_mk]
  have := tlen_cnts l
  unfold manyL
  simp only
  split <;> simp <;> omega
theorem many_cnts (t : Tr) : cnts (manyL t) + 1 ≤ t.cnt := by
  obtain ⟨k, n, s, l⟩ := t
  rw [Tr.cnt_mk]
  unfold manyL
  simp only
  split
  · omega
  · rw [cnts_nil]; omega
theorem pcnts_map {f : Tr → Pr} {l : List Tr} (h : ∀ x ∈ l, (f x).cnt ≤ x.cnt) : pcnts (l.map f) ≤ cnts l := by
  induction l with
  | nil => simp [pcnts_nil]
  | cons a l ih =>
    rw [List.map_cons, pcnts_cons, cnts_cons]
    have h1 := h a List.mem_cons_self
    have h2 := ih (fun x hx => h x (List.mem_cons_of_mem _ hx))
    omega
/-- What four of its parts have of a tree's. -/
theorem four_cnt (t : Tr) : (manyL (atT t 2)).length + (manyL (atT t 3)).length + (manyL (atT t 4)).length + cnts (manyL (atT t 5)) + 1 ≤ t.cnt := by
  obtain ⟨k, n, s, l⟩ := t
  rw [Tr.cnt_mk]
  have hz : manyL zT = [] := rfl
  by_cases hk : k = 2
  · subst hk
    match l with
    | [] => simp [atT_mk, hz, cnts_nil]
    | [_] => simp [atT_mk, hz, cnts_nil]
    | [_, _] => simp [atT_mk, hz, cnts_nil]
    | [_, _, c] =>
      have := many_cnt c
      simp [atT_mk, hz, cnts_nil, cnts_cons]; omega
    | [_, _, c, d] =>
      have := many_cnt c
      have := many_cnt d
      simp [atT_mk, hz, cnts_nil, cnts_cons]; omega
    | [_, _, c, d, e] =>
      have := many_cnt c
      have := many_cnt d
      have := many_cnt e
      simp [atT_mk, hz, cnts_nil, cnts_cons]; omega
    | _ :: _ :: c :: d :: e :: f :: r =>
      have := many_cnt c
      have := many_cnt d
      have := many_cnt e
      have := many_cnts f
      simp [atT_mk, cnts_cons]; omega
  · have e : ∀ i, atT (.mk k n s l) i = zT := fun i => by unfold atT; rw [if_neg hk]
    rw [e, e, e, e, hz, cnts_nil]
    simp
theorem rd_cnt : ∀ (m : Nat) (t : Tr), (rdT m t).cnt ≤ t.cnt
  | 0, t => by
    rw [rdT, Pr.cnt_mk, pcnts_nil]
    simp only [List.length_map]
    have := four_cnt t
    omega
  | m + 1, t => by
    rw [rdT, Pr.cnt_mk]
    simp only [List.length_map]
    have h1 := four_cnt t
    have h2 := pcnts_map (f := rdT m) (l := manyL (atT t 5)) (fun x _ => rd_cnt m x)
    omega

theorem keep10 {W w' : World} {B C : Nat} {u0 u1 u2 u3 u4 u5 z0 z1 z2 z3 : Value} (h : W.cell? ⟨B, 0, none⟩ = some u0 ∧ W.cell? ⟨B, 1, none⟩ = some u1 ∧ W.cell? ⟨B, 2, none⟩ = some u2 ∧ W.cell? ⟨B, 3, none⟩ = some u3 ∧ W.cell? ⟨B, 4, none⟩ = some u4 ∧ W.cell? ⟨B, 5, none⟩ = some u5 ∧ W.cell? ⟨C, 0, none⟩ = some z0 ∧ W.cell? ⟨C, 1, none⟩ = some z1 ∧ W.cell? ⟨C, 2, none⟩ = some z2 ∧ W.cell? ⟨C, 3, none⟩ = some z3) (k : Below W.heap.size W w') :
    w'.cell? ⟨B, 0, none⟩ = some u0 ∧ w'.cell? ⟨B, 1, none⟩ = some u1 ∧ w'.cell? ⟨B, 2, none⟩ = some u2 ∧ w'.cell? ⟨B, 3, none⟩ = some u3 ∧ w'.cell? ⟨B, 4, none⟩ = some u4 ∧ w'.cell? ⟨B, 5, none⟩ = some u5 ∧ w'.cell? ⟨C, 0, none⟩ = some z0 ∧ w'.cell? ⟨C, 1, none⟩ = some z1 ∧ w'.cell? ⟨C, 2, none⟩ = some z2 ∧ w'.cell? ⟨C, 3, none⟩ = some z3 := by
  obtain ⟨h0, h1, h2, h3, h4, h5, g0, g1, g2, g3⟩ := h
  exact ⟨cell_kept k (Nat.le_refl _) h0, cell_kept k (Nat.le_refl _) h1, cell_kept k (Nat.le_refl _) h2, cell_kept k (Nat.le_refl _) h3, cell_kept k (Nat.le_refl _) h4, cell_kept k (Nat.le_refl _) h5, cell_kept k (Nat.le_refl _) g0, cell_kept k (Nat.le_refl _) g1, cell_kept k (Nat.le_refl _) g2, cell_kept k (Nat.le_refl _) g3⟩

set_option maxHeartbeats 8000000 in
theorem rfromCell_any (t : Tr) (v : Value) (w : World) (h : CR w t v) (hst : Stx t) (hcnt : t.cnt ≤ 100000) :
    Calls Tryd.prog 12 #[v] w (FcR w (decide (chkB (rdT 100 t) = 0) && sameT (cellT (rdT 100 t)) t) (rdT 100 t)) := by
  have HC := hide_p h
  have hrc := rd_cnt 100 t
  obtain ⟨r, hr⟩ : ∃ r, r = rdT 100 t := ⟨_, rfl⟩
  obtain ⟨Q, hQ⟩ : ∃ Q, Q = sameT (cellT r) t := ⟨_, rfl⟩
  rw [← hr] at hrc ⊢
  rw [← hQ]
  have HRE : Hid (∀ w', Below w.heap.size w w' → Calls Tryd.prog 36 #[v, .int .i64 0] w' (RdR w' r)) := by
    intro w' hb
    have := rread_any 100 (Nat.le_refl _) t v w' (HC.out.kept hb (Nat.le_refl _)) hst (by omega)
    rw [← hr] at this
    exact this
  have HCK : Hid (∀ (x : Six) w', PR w' r x → Calls Tryd.prog 14 #[x.v] w' fun e w'' => e = .returned (.int .i64 (chkB r)) ∧ Below w'.heap.size w' w'') := fun x w' hp => rCheck_any r x w' hp
  have HTS : Hid (∀ (x : Six) w', PR w' r x → Below w.heap.size w w' → Calls Tryd.prog 10 #[x.v] w' fun e w'' => ∃ u, e = .returned u ∧ Below w'.heap.size w' w'' ∧ Hid (∀ w3, Below w''.heap.size w'' w3 → Calls Tryd.prog 9 #[u, v] w3 fun e w4 => e = .returned (.bool Q) ∧ Below w3.heap.size w3 w4)) := by
    intro x w' hp hb
    refine (rtoCell_any r x w' w' hp (Below.refl _ _) (by omega)).mono ?_
    rintro e w'' ⟨u, rfl, hc, hb2⟩
    refine ⟨u, rfl, hb2, fun w3 hb3 => ?_⟩
    rw [hQ]
    exact same_any ((cellT r).dep + 1) _ _ _ _ _ (by omega) (hc.cr.kept hb3 (Nat.le_refl _)) (HC.out.kept (hb.trans ((hb2.mono hb.size).trans (hb3.mono (Nat.le_trans hb.size hb2.size)))) (Nat.le_refl _))
  obtain ⟨a, cap, rfl⟩ := h.shape
  clear h hst hcnt hr hQ hrc HC
  generalize t.k = k at *
  generalize t.n = n at *
  generalize t.s = s at *
  generalize t.l = l at *
  obtain ⟨c0, hc0⟩ : ∃ c0, c0 = chkB r := ⟨_, rfl⟩
  rw [← hc0] at HCK ⊢
  unfold cellV at HRE HTS ⊢
  obtain ⟨w1, hw1⟩ : ∃ w1, w1 = (w.alloc (.cells #[.int .i64 k, .int .u64 n, .string s, .slice a l.length cap] 33)).alloc (.cells #[.int .i64 0, .int .i64 0, .slice none 0 0, .slice none 0 0, .slice none 0 0, .slice none 0 0] 27) := ⟨_, rfl⟩
  have HB1 : Hid (Below w.heap.size w w1) := by show Below _ _ _; rw [hw1]; exact ((Below.refl _ _).alloc (Nat.le_refl _) _).alloc (by simp) _
  have HS1 : Hid (w1.heap.size = w.heap.size + 2) := by show _ = _; rw [hw1]; simp
  have HA1 : Hid (w1.heap[w.heap.size]? = some (.cells #[.int .i64 k, .int .u64 n, .string s, .slice a l.length cap] 33 (0, 0)) ∧ w1.heap[w.heap.size + 1]? = some (.cells #[.int .i64 0, .int .i64 0, .slice none 0 0, .slice none 0 0, .slice none 0 0, .slice none 0 0] 27 (0, 0))) := by
    show _ ∧ _
    rw [hw1]
    refine ⟨?_, heap_alloc_at _ _ _ (by simp)⟩
    rw [Below.heap_alloc _ _ _ (by simp)]
    exact heap_alloc_new _ _
  obtain ⟨x0, x1, x2, x3⟩ := block4 HA1.out.1
  have hs1 := HS1.out
  clear hc0
  go_enter Tryd.func12, Tryd.ntmps12
  go_upto_region 1 with fail
  rw [← hw1]
  clear hw1
  go_wp2_with fail
  refine (HRE.out w1 HB1.out).mono ?_
  rintro e w2 ⟨pa, rg, a1, n1, c1, a2, n2, c2, a3, n3, c3, a4, n4, c4, rfl, hb2, hprs⟩
  have HB2 := hide_p hb2
  have hsz2 := hb2.size
  have HB2w : Hid (Below w.heap.size w w2) := HB1.out.trans (hb2.mono HB1.out.size)
  have HP2 := hide_p hprs
  obtain ⟨w3, hw3⟩ : ∃ w3, w3 = w2.alloc (.cells #[.int .i64 pa, .int .i64 rg, .slice a1 n1 c1, .slice a2 n2 c2, .slice a3 n3 c3, .slice a4 n4 c4] 27) := ⟨_, rfl⟩
  have HB3 : Hid (Below w2.heap.size w2 w3 ∧ w3.heap[w2.heap.size]? = some (.cells #[.int .i64 pa, .int .i64 rg, .slice a1 n1 c1, .slice a2 n2 c2, .slice a3 n3 c3, .slice a4 n4 c4] 27 (0, 0))) := by
    show _ ∧ _
    rw [hw3]
    exact ⟨(Below.refl _ _).alloc (Nat.le_refl _) _, heap_alloc_new _ _⟩
  have HZ : Hid (∀ wq, Below w2.heap.size w2 wq → (∀ j, wq.frozen? ⟨w.heap.size + 1, j, none⟩ = false) ∧ wq.heap[w.heap.size + 1]? = some (.cells #[.int .i64 0, .int .i64 0, .slice none 0 0, .slice none 0 0, .slice none 0 0, .slice none 0 0] 27 (0, 0)) ∧ Below w.heap.size w wq) := by
    intro wq hq
    have e2 := ((hq.block (w.heap.size + 1) (by omega)).trans (HB2.out.block _ (by omega))).trans HA1.out.2
    exact ⟨fun j => Lib.frozen_of_heap e2 j, e2, HB2w.out.trans (hq.mono HB2w.out.size)⟩
  have HBX : Hid (∀ wq, Below w2.heap.size w2 wq → wq.heap[w.heap.size]? = some (.cells #[.int .i64 k, .int .u64 n, .string s, .slice a l.length cap] 33 (0, 0))) := fun wq hq => ((hq.block _ (by omega)).trans (HB2.out.block _ (by omega))).trans HA1.out.1
  have HBAD : Hid (∀ wq, Below w2.heap.size w2 wq → ∀ W, W = ((((((wq.setCell ⟨w.heap.size + 1, 0, none⟩ (.int .i64 0)).setCell ⟨w.heap.size + 1, 1, none⟩ (.int .i64 0)).setCell ⟨w.heap.size + 1, 2, none⟩ (.slice none 0 0)).setCell ⟨w.heap.size + 1, 3, none⟩ (.slice none 0 0)).setCell ⟨w.heap.size + 1, 4, none⟩ (.slice none 0 0)).setCell ⟨w.heap.size + 1, 5, none⟩ (.slice none 0 0)) → W.heap[w.heap.size + 1]? = some (.cells #[.int .i64 0, .int .i64 0, .slice none 0 0, .slice none 0 0, .slice none 0 0, .slice none 0 0] 27 (0, 0)) ∧ Below w.heap.size w W) := by
    intro wq hq W hW
    obtain ⟨-, e2, e4⟩ := HZ.out wq hq
    rw [hW]
    exact ⟨set6_block e2 _ _ _ _ _ _, set_low (set_low (set_low (set_low (set_low (set_low e4 (by omega)) (by omega)) (by omega)) (by omega)) (by omega)) (by omega)⟩
  have HPR : Hid (∀ wq, Below w2.heap.size w2 wq → PR wq r ⟨pa, rg, .slice a1 n1 c1, .slice a2 n2 c2, .slice a3 n3 c3, .slice a4 n4 c4⟩) := fun wq hq => PR.kept hq (Nat.le_refl _) _ _ (PRS.pr _ _ HP2.out)
  have HGOOD : Hid (∀ wq, Below w2.heap.size w2 wq → ∀ W, W = ((((((wq.setCell ⟨w.heap.size + 1, 0, none⟩ (.int .i64 pa)).setCell ⟨w.heap.size + 1, 1, none⟩ (.int .i64 rg)).setCell ⟨w.heap.size + 1, 2, none⟩ (.slice a1 n1 c1)).setCell ⟨w.heap.size + 1, 3, none⟩ (.slice a2 n2 c2)).setCell ⟨w.heap.size + 1, 4, none⟩ (.slice a3 n3 c3)).setCell ⟨w.heap.size + 1, 5, none⟩ (.slice a4 n4 c4)) → W.heap[w.heap.size + 1]? = some (.cells #[.int .i64 pa, .int .i64 rg, .slice a1 n1 c1, .slice a2 n2 c2, .slice a3 n3 c3, .slice a4 n4 c4] 27 (0, 0)) ∧ Below w.heap.size w W ∧ PR W r ⟨pa, rg, .slice a1 n1 c1, .slice a2 n2 c2, .slice a3 n3 c3, .slice a4 n4 c4⟩) := by
    intro wq hq W hW
    obtain ⟨-, e2, e4⟩ := HZ.out wq hq
    have hoth : ∀ k, k ≠ w.heap.size + 1 → W.heap[k]? = wq.heap[k]? := fun k hk => by rw [hW]; exact set6_other hk _ _ _ _ _ _
    refine ⟨by rw [hW]; exact set6_block e2 _ _ _ _ _ _, by rw [hW]; exact set_low (set_low (set_low (set_low (set_low (set_low e4 (by omega)) (by omega)) (by omega)) (by omega)) (by omega)) (by omega), ?_⟩
    refine PRS.pr _ _ (PRS.same (w' := W) (fun k hk => ?_) _ _ (PRS.lt _ _ HP2.out))
    rw [hoth k (by omega)]
    exact hq.block k hk.2
  clear x0 x1 x2 x3 hb2 hprs HRE
  go_upto_region 2 with fail
  rw [← hw3]
  have HW3 := hide_p hw3
  clear hw3
  obtain ⟨z0, z1, z2, z3, z4, z5⟩ := block6 HB3.out.2
  obtain ⟨x0, x1, x2, x3⟩ := block4 (HBX.out w3 HB3.out.1)
  have HCX : Hid (∀ w', Below w3.heap.size w3 w' → Calls Tryd.prog 14 #[.agg #[.int .i64 pa, .int .i64 rg, .slice a1 n1 c1, .slice a2 n2 c2, .slice a3 n3 c3, .slice a4 n4 c4]] w' fun e w'' => e = .returned (.int .i64 c0) ∧ Below w'.heap.size w' w'') := fun w' hb => HCK.out ⟨pa, rg, .slice a1 n1 c1, .slice a2 n2 c2, .slice a3 n3 c3, .slice a4 n4 c4⟩ w' (HPR.out w' (HB3.out.1.trans (hb.mono HB3.out.1.size)))
  have HTX : Hid (∀ w', Below w3.heap.size w3 w' → Calls Tryd.prog 10 #[.agg #[.int .i64 pa, .int .i64 rg, .slice a1 n1 c1, .slice a2 n2 c2, .slice a3 n3 c3, .slice a4 n4 c4]] w' fun e w'' => ∃ u, e = .returned u ∧ Below w'.heap.size w' w'' ∧ Hid (∀ w3, Below w''.heap.size w'' w3 → Calls Tryd.prog 9 #[u, .agg #[.int .i64 k, .int .u64 n, .string s, .slice a l.length cap]] w3 fun e w4 => e = .returned (.bool Q) ∧ Below w3.heap.size w3 w4)) := fun w' hb => HTS.out ⟨pa, rg, .slice a1 n1 c1, .slice a2 n2 c2, .slice a3 n3 c3, .slice a4 n4 c4⟩ w' (HPR.out w' (HB3.out.1.trans (hb.mono HB3.out.1.size))) ((HB2w.out.trans (HB3.out.1.mono HB2w.out.size)).trans (hb.mono (Nat.le_trans HB2w.out.size HB3.out.1.size)))
  have hs3 := HB3.out.1.size
  clear HCK HTS
  by_cases hc : c0 = 0
  · subst hc
    have hq0 : Below w3.heap.size w3 w3.drew := (Below.refl _ _).drew
    go_region_held3 (fun w' => w'.cell? ⟨w2.heap.size, 0, none⟩ = some (.int .i64 pa) ∧ w'.cell? ⟨w2.heap.size, 1, none⟩ = some (.int .i64 rg) ∧ w'.cell? ⟨w2.heap.size, 2, none⟩ = some (.slice a1 n1 c1) ∧ w'.cell? ⟨w2.heap.size, 3, none⟩ = some (.slice a2 n2 c2) ∧ w'.cell? ⟨w2.heap.size, 4, none⟩ = some (.slice a3 n3 c3) ∧ w'.cell? ⟨w2.heap.size, 5, none⟩ = some (.slice a4 n4 c4) ∧ w'.cell? ⟨w.heap.size, 0, none⟩ = some (.int .i64 k) ∧ w'.cell? ⟨w.heap.size, 1, none⟩ = some (.int .u64 n) ∧ w'.cell? ⟨w.heap.size, 2, none⟩ = some (.string s) ∧ w'.cell? ⟨w.heap.size, 3, none⟩ = some (.slice a l.length cap))
      (first
        | exact keep10 (by assumption) hbS
        | go_keep)
      (first
        | (go_at_call 9; refine (hsm.out _ (Below.refl _ _)).mono ?_; rintro e w6 ⟨rfl, hbS⟩; have hq6 := hq5.trans (hbS.mono hq5.size))
        | (go_at_call 10; refine (HTX.out _ hq4).mono ?_; rintro e w5 ⟨u5, rfl, hbS, hsm⟩; have hq5 := hq4.trans (hbS.mono hq4.size))
        | (go_at_call 14; refine (HCX.out _ hq0).mono ?_; rintro e w4 ⟨rfl, hbS⟩; have hq4 := hq0.trans (hbS.mono hq0.size)))
    have HQ6 : Hid (Below w2.heap.size w2 w6) := HB3.out.1.trans (hq6.mono HB3.out.1.size)
    obtain ⟨hfz, e2, -⟩ := HZ.out w6 HQ6.out
    obtain ⟨y0', y1', y2', y3', y4', y5'⟩ := block6 e2
    have f0 := hfz 0
    have f1 := hfz 1
    have f2 := hfz 2
    have f3 := hfz 3
    have f4 := hfz 4
    have f5 := hfz 5
    clear hfz e2
    have hblk := (hq6.block _ (blk_lt HB3.out.2)).trans HB3.out.2
    obtain ⟨v0, v1, v2, v3, v4, v5⟩ := block6 hblk
    clear hblk hsm
    cases Q with
    | false =>
      have HE := hide_p (HBAD.out w6 HQ6.out)
      go_wp2
      obtain ⟨y1, y2⟩ := HE.out _ rfl
      exact bodyPost_ret (results_cell_tmp rfl _ _ (w.heap.size + 1) _ _ _ _ rfl y1 Tryd.underlying27 rfl szPr) rfl ⟨_, _, _, _, _, _, _, _, _, _, _, _, _, _, rfl, y2, pr_zero _⟩
    | true =>
      have HE := hide_p (HGOOD.out w6 HQ6.out)
      go_wp2
      obtain ⟨y1, y2, y3⟩ := HE.out _ rfl
      exact bodyPost_ret (results_cell_tmp rfl _ _ (w.heap.size + 1) _ _ _ _ rfl y1 Tryd.underlying27 rfl szPr) rfl ⟨_, _, _, _, _, _, _, _, _, _, _, _, _, _, rfl, y2, y3⟩
  · have hcb : ((c0 : Int) != 0) = true := by simpa using hc
    have hO : (decide (c0 = 0) && Q) = false := by simp [hc]
    have HO := hide_p hO
    have hk0 : ∀ p : BelowOf w3, p.u.cell? ⟨w2.heap.size, 0, none⟩ = some (.int .i64 pa) := fun p => cell_kept p.h (Nat.le_refl _) z0
    have hk1 : ∀ p : BelowOf w3, p.u.cell? ⟨w2.heap.size, 1, none⟩ = some (.int .i64 rg) := fun p => cell_kept p.h (Nat.le_refl _) z1
    have hk2 : ∀ p : BelowOf w3, p.u.cell? ⟨w2.heap.size, 2, none⟩ = some (.slice a1 n1 c1) := fun p => cell_kept p.h (Nat.le_refl _) z2
    have hk3 : ∀ p : BelowOf w3, p.u.cell? ⟨w2.heap.size, 3, none⟩ = some (.slice a2 n2 c2) := fun p => cell_kept p.h (Nat.le_refl _) z3
    have hk4 : ∀ p : BelowOf w3, p.u.cell? ⟨w2.heap.size, 4, none⟩ = some (.slice a3 n3 c3) := fun p => cell_kept p.h (Nat.le_refl _) z4
    have hk5 : ∀ p : BelowOf w3, p.u.cell? ⟨w2.heap.size, 5, none⟩ = some (.slice a4 n4 c4) := fun p => cell_kept p.h (Nat.le_refl _) z5
    clear hO
    refine wp_region_below (by kernel_rfl) (by kernel_rfl) ?_
    repeat (go_big_quiet_step (rfl))
    quiet_step ((go_at_call 14; exact below_of (HCX.out _ (BelowOf.h _))))
    repeat (go_big_quiet_step (rfl))
    refine wpQuiet_nil ?_
    intro wq hw'
    obtain ⟨⟨w6, hq6⟩, hw''⟩ := hw'
    subst hw''
    have HQ6 := hide_p (HB3.out.1.trans (hq6.mono HB3.out.1.size))
    obtain ⟨hfz, e2, -⟩ := HZ.out _ HQ6.out
    obtain ⟨y0', y1', y2', y3', y4', y5'⟩ := block6 e2
    have f0 := hfz 0
    have f1 := hfz 1
    have f2 := hfz 2
    have f3 := hfz 3
    have f4 := hfz 4
    have f5 := hfz 5
    clear hfz e2
    have HE := hide_p (HBAD.out _ HQ6.out)
    clear hk0 hk1 hk2 hk3 hk4 hk5
    go_wp2
    obtain ⟨y1, y2⟩ := HE.out _ rfl
    exact bodyPost_ret (results_cell_tmp rfl _ _ (w.heap.size + 1) _ _ _ _ rfl y1 Tryd.underlying27 rfl szPr) rfl ⟨_, _, _, _, _, _, _, _, _, _, _, _, _, _, by first | rfl | (rw [HO.out]; rfl), y2, by first | exact pr_zero _ | (rw [HO.out]; exact pr_zero _)⟩

end Go.Proofs.YtcblknghkgihcaaDoor
