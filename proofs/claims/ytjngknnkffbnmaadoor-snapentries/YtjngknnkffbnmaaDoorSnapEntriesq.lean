/-
  SnapEntries: entries become cells and come back, walked.
-/
import Derived.Test.YtjngknnkffbnmaaDoorSnLivesq
import Derived.Test.YtjngknnkffbnmaaDoorSnLand7q
import Derived.Test.YtjngknnkffbnmaaDoorSnLand8q
import Derived.Test.YtjngknnkffbnmaaDoorSnPlain2q
import Derived.Test.YtjngknnkffbnmaaDoorSnSmallq
namespace Go.Proofs.YtjngknnkffbnmaaDoor
set_option maxRecDepth 100000
open Go.RowKit Crc Sn

set_option maxHeartbeats 8000000 in
theorem snapEntries_walk (x : Ent) (mv : Value) (t : Tr) (v : Value) (w : World) (hm : NR w mv x.ms) (htm : x.tm < 18446744073709551616) (hdt : x.dt.size ≤ 9223372036854775807) (h : CR w t v) (hT : Tb w) (h0 : 0 < w.heap.size) :
    Calls Tryd.prog 6 #[.agg #[.int .u64 x.tm, .int .i64 x.kd, .string x.dt, mv], v] w fun e w' => e = .returned (.bool true) ∧ Below w.heap.size w w' := by
  have HLV : Hid (∀ w', Below w.heap.size w w' → Calls Tryd.prog 8 #[] w' fun e w'' => e = .returned (.bool true) ∧ Below w'.heap.size w' w'') := fun w' hb => slives_any w' (hT.below hb h0) (Nat.lt_of_lt_of_le h0 hb.size)
  have HSM : Hid (∀ w', Below w.heap.size w w' → Calls Tryd.prog 7 #[v] w' fun e w'' => ∃ ok : Bool, e = .returned (.bool ok) ∧ (ok = true → t.cnt ≤ 2000 ∧ t.dep ≤ 100) ∧ Below w'.heap.size w' w'') := fun w' hb => lawSmall19_any t v w' (h.kept hb (Nat.le_refl _))
  have HEC : Hid (∀ w', Below w.heap.size w w' → Calls Tryd.prog 17 #[.agg #[.int .u64 x.tm, .int .i64 x.kd, .string x.dt, mv]] w' (EcR w' x)) := fun w' hb => lEntryCell_any x mv w' (hm.kept hb (Nat.le_refl _)) htm hdt
  have HRC : Hid (x.ms.length ≤ 1000 → ∀ w', Below w.heap.size w w' → Calls Tryd.prog 18 #[.agg #[.int .u64 x.tm, .int .i64 x.kd, .string x.dt, mv]] w' (EcR w' x)) := fun hl w' hb => rEntryCell_any x mv w' (hm.kept hb (Nat.le_refl _)) htm hdt (by omega)
  have HSA : Hid (∀ (u u' : Value) w', CR w' (entT x) u → CR w' (entT x) u' → Calls Tryd.prog 19 #[u, u'] w' fun e w'' => e = .returned (.bool true) ∧ Below w'.heap.size w' w'') := by
    intro u u' w' h1 h2
    have := same_any ((entT x).dep + 1) _ _ _ _ w' (Nat.lt_succ_self _) h1 h2
    rw [same_self] at this
    exact this
  have HOW : Hid (t.cnt ≤ 2000 → ∀ w', Below w.heap.size w w' → Calls Tryd.prog 21 #[v] w' (Copd t w')) := fun hc w' hb => own_cell (t.dep + 1) t v w' (Nat.lt_succ_self _) (by omega) (h.kept hb (Nat.le_refl _))
  have hln : t.cnt ≤ 2000 → (atT t 2).l.length ≤ 2000 := fun hc => Nat.le_trans (len_cnt _) (Nat.le_trans (at_cnt t 2) hc)
  obtain ⟨Y, hY⟩ : ∃ Y, Y = (if feO t = true then readE t else zE) := ⟨_, rfl⟩
  obtain ⟨EY, hEY⟩ : ∃ EY : Int, EY = (if feO t = true then 0 else 4) := ⟨_, rfl⟩
  have HFE : Hid (t.cnt ≤ 2000 → ∀ v' w', CR w' t v' → Calls Tryd.prog 20 #[v'] w' (FeP w' Y EY)) := by
    intro hc v' w' hcr
    have := lFromEntry_any t v' w' hcr (by have := hln hc; omega)
    unfold FeR at this
    rw [← hY, ← hEY] at this
    exact this
  have HRF : Hid (t.cnt ≤ 2000 → ∀ w', Below w.heap.size w w' → Calls Tryd.prog 22 #[v] w' (FeP w' Y EY)) := by
    intro hc w' hb
    have := rFromEntry_any t v w' (h.kept hb (Nat.le_refl _)) (by have := hln hc; omega)
    unfold FeR at this
    rw [← hY, ← hEY] at this
    exact this
  have HYL : Hid (t.cnt ≤ 2000 → Y.ms.length ≤ 2000) := by
    intro hc
    rw [hY]
    split
    · show (if kdT t = 2 then numsL (atT t 2) else []).length ≤ 2000
      split
      · unfold numsL
        split
        · rw [List.length_map]; exact hln hc
        · simp
      · simp
    · exact Nat.zero_le _
  have HSE : Hid (∀ (y : Ent) (u u' : Value) w', y.ms.length ≤ 2000 → NR w' u y.ms → NR w' u' y.ms → Calls Tryd.prog 23 #[.agg #[.int .u64 y.tm, .int .i64 y.kd, .string y.dt, u], .agg #[.int .u64 y.tm, .int .i64 y.kd, .string y.dt, u']] w' fun e w'' => e = .returned (.bool true) ∧ Below w'.heap.size w' w'') := by
    intro y u u' w' hl h1 h2
    have := rsameE_any y y u u' w' h1 h2 (by omega)
    rw [sameE_self] at this
    exact this
  have HFB : Hid (entE x = 0 → x.ms.length ≤ 1000 → ∀ v' w', CR w' (entT x) v' → Calls Tryd.prog 20 #[v'] w' (FeP w' (plainE x) 0)) := by
    intro he hl v' w' hcr
    obtain ⟨e1, e2⟩ := ent_back he
    have := lFromEntry_any (entT x) v' w' hcr (by
      unfold entT
      rw [if_pos he, at_lis]
      unfold entL
      split
      · exact Nat.zero_le _
      · split
        · show ((x.ms.map numT)).length ≤ _
          rw [List.length_map]; omega
        · exact Nat.zero_le _)
    unfold FeR at this
    rw [e1, if_pos rfl, if_pos rfl, e2] at this
    exact this
  have HPL : Hid (x.ms.length ≤ 1000 → ∀ w', Below w.heap.size w w' → Calls Tryd.prog 24 #[.agg #[.int .u64 x.tm, .int .i64 x.kd, .string x.dt, mv]] w' (PlP w' (plainE x))) := fun hl w' hb => rPlain_any x mv w' (hm.kept hb (Nat.le_refl _)) (by omega)
  have HPN : Hid (x.ms.length ≤ 1000 → (plainE x).ms.length ≤ 2000) := by
    intro hl
    show (if x.kd = 2 then x.ms else []).length ≤ 2000
    split
    · omega
    · simp
  obtain ⟨a, cap, rfl, hn1, hn2, -, -⟩ := hm.form
  obtain ⟨b, cp, rfl⟩ := crShape h
  clear hm htm hdt h hT h0 hln hY hEY
  obtain ⟨X, hX⟩ : ∃ X, X = plainE x := ⟨_, rfl⟩
  rw [← hX] at HFB HPL HPN
  clear hX
  unfold EcR at HEC HRC
  generalize entE x = EE at *
  generalize entT x = ET at *
  generalize x.ms.length = nm at *
  generalize x.tm = tm at *
  generalize x.kd = kd at *
  generalize x.dt = dt at *
  generalize t.k = k at *
  generalize t.n = n at *
  generalize t.s = s at *
  generalize t.l.length = m at *
  unfold cellV at HSM HOW HRF ⊢
  obtain ⟨w1, hw1⟩ : ∃ w1, w1 = (w.alloc (.cells #[.int .u64 tm, .int .i64 kd, .string dt, .slice a nm cap] 46)).alloc (.cells #[.int .i64 k, .int .u64 n, .string s, .slice b m cp] 26) := ⟨_, rfl⟩
  have HS1 : Hid (w1.heap.size = w.heap.size + 2) := by show _ = _; rw [hw1]; simp
  have HB1 : Hid (Below w.heap.size w w1) := by show Below _ _ _; rw [hw1]; exact ((Below.refl _ _).alloc (Nat.le_refl _) _).alloc (by simp) _
  have HA1 : Hid (w1.heap[w.heap.size]? = some (.cells #[.int .u64 tm, .int .i64 kd, .string dt, .slice a nm cap] 46 (0, 0)) ∧ w1.heap[w.heap.size + 1]? = some (.cells #[.int .i64 k, .int .u64 n, .string s, .slice b m cp] 26 (0, 0))) := by
    show _ ∧ _
    rw [hw1]
    exact ⟨by rw [Below.heap_alloc _ _ _ (by simp)]; exact heap_alloc_new _ _, heap_alloc_at _ _ _ (by simp)⟩
  have HX : Hid (∀ wq, Below w1.heap.size w1 wq → wq.heap[w.heap.size]? = some (.cells #[.int .u64 tm, .int .i64 kd, .string dt, .slice a nm cap] 46 (0, 0)) ∧ wq.heap[w.heap.size + 1]? = some (.cells #[.int .i64 k, .int .u64 n, .string s, .slice b m cp] 26 (0, 0)) ∧ Below w.heap.size w wq) := fun wq hq => by
    have := HS1.out
    exact ⟨(hq.block _ (by omega)).trans HA1.out.1, (hq.block _ (by omega)).trans HA1.out.2, HB1.out.trans (hq.mono (by omega))⟩
  obtain ⟨y0, y1, y2, y3⟩ := block4 HA1.out.2
  go_enter Tryd.func6, Tryd.ntmps6
  go_upto_region 1 with fail
  rw [← hw1]
  clear hw1
  go_wp2_with fail
  refine (HSM.out w1 HB1.out).mono ?_
  rintro e w2 ⟨ok, rfl, hok, hb2⟩
  have HB2 := hide_p hb2
  clear y0 y1 y2 y3 hb2 HSM
  cases ok with
  | false =>
    have hl := HLV.out w2 (HX.out w2 HB2.out).2.2
    clear hok
    go_wp2_with fail
    refine hl.mono ?_
    rintro e w3 ⟨rfl, hb3⟩
    have HBw : Hid (Below w.heap.size w w3) := (HX.out w2 HB2.out).2.2.trans (hb3.mono (HX.out w2 HB2.out).2.2.size)
    clear hl hb3
    go_wp2
    go_ret
    exact ⟨rfl, HBw.out⟩
  | true =>
    have HCN := hide_p (hok rfl).1
    clear hok
    obtain ⟨x0, x1, x2, x3⟩ := block4 (HX.out w2 HB2.out).1
    by_cases c : 1000 < nm
    · have c2 : (1000 : Int) < (nm : Int) := by omega
      have hl := HLV.out w2 (HX.out w2 HB2.out).2.2
      go_wp2_with fail
      refine hl.mono ?_
      rintro e w3 ⟨rfl, hb3⟩
      have HBw : Hid (Below w.heap.size w w3) := (HX.out w2 HB2.out).2.2.trans (hb3.mono (HX.out w2 HB2.out).2.2.size)
      clear hl hb3
      go_wp2
      go_ret
      exact ⟨rfl, HBw.out⟩
    · have c2 : ¬ (1000 : Int) < (nm : Int) := by omega
      have HLN := hide_p (show nm ≤ 1000 by omega)
      go_wp2_with fail
      refine (HEC.out w2 (HX.out w2 HB2.out).2.2).mono ?_
      rintro e w3 ⟨u5, rfl, hcs5, hb3⟩
      obtain ⟨k5, n5, s5, a5, m5, c5, rfl⟩ := hcs5.form
      unfold cellV
      have HC5 := hide_p hcs5.cr
      have HB3 : Hid (Below w1.heap.size w1 w3) := HB2.out.trans (hb3.mono HB2.out.size)
      clear hcs5 hb3 x0 x1 x2 x3 c c2
      obtain ⟨w4, hw4⟩ : ∃ w4, w4 = w3.alloc (.cells #[.int .i64 k5, .int .u64 n5, .string s5, .slice a5 m5 c5] 26) := ⟨_, rfl⟩
      obtain ⟨b5, hb5⟩ : ∃ b5, b5 = w3.heap.size := ⟨_, rfl⟩
      have HB4 : Hid (Below w1.heap.size w1 w4) := by show Below _ _ _; rw [hw4]; exact HB3.out.alloc HB3.out.size _
      have HA5 : Hid (∀ wq, Below w4.heap.size w4 wq → wq.heap[b5]? = some (.cells #[.int .i64 k5, .int .u64 n5, .string s5, .slice a5 m5 c5] 26 (0, 0)) ∧ CR wq ET (.agg #[.int .i64 k5, .int .u64 n5, .string s5, .slice a5 m5 c5])) := fun wq hq => by
        rw [hw4] at hq
        exact ⟨by rw [hb5]; exact (hq.block _ (by simp)).trans (heap_alloc_new _ _), HC5.out.kept (((Below.refl _ _).alloc (Nat.le_refl _) _).trans (hq.mono (by simp))) (Nat.le_refl _)⟩
      obtain ⟨x0, x1, x2, x3⟩ := block4 (HX.out w4 HB4.out).1
      go_upto_region 4 with fail
      rw [← hw4, ← hb5]
      clear hw4 hb5
      go_wp2_with fail
      refine (HRC.out HLN.out w4 (HX.out w4 HB4.out).2.2).mono ?_
      rintro e w5 ⟨u7, rfl, hcs7, hb5⟩
      obtain ⟨k7, n7, s7, a7, m7, c7, rfl⟩ := hcs7.form
      unfold cellV
      have HC7 := hide_p hcs7.cr
      have HQ5 := hide_p hb5
      have HB5 : Hid (Below w1.heap.size w1 w5) := HB4.out.trans (hb5.mono HB4.out.size)
      clear hcs7 hb5 x0 x1 x2 x3
      obtain ⟨w6, hw6⟩ : ∃ w6, w6 = w5.alloc (.cells #[.int .i64 k7, .int .u64 n7, .string s7, .slice a7 m7 c7] 26) := ⟨_, rfl⟩
      obtain ⟨b7, hb7⟩ : ∃ b7, b7 = w5.heap.size := ⟨_, rfl⟩
      have HB6 : Hid (Below w1.heap.size w1 w6) := by show Below _ _ _; rw [hw6]; exact HB5.out.alloc HB5.out.size _
      have HQ6 : Hid (Below w4.heap.size w4 w6) := by show Below _ _ _; rw [hw6]; exact HQ5.out.alloc HQ5.out.size _
      have HC7' : Hid (CR w6 ET (.agg #[.int .i64 k7, .int .u64 n7, .string s7, .slice a7 m7 c7])) := by
        show CR _ _ _
        rw [hw6]
        exact HC7.out.kept ((Below.refl _ _).alloc (Nat.le_refl _) _) (Nat.le_refl _)
      obtain ⟨y0, y1, y2, y3⟩ := block4 (show w6.heap[b7]? = some (.cells #[.int .i64 k7, .int .u64 n7, .string s7, .slice a7 m7 c7] 26 (0, 0)) by rw [hw6, hb7]; exact heap_alloc_new _ _)
      obtain ⟨x0, x1, x2, x3⟩ := block4 (HA5.out w6 HQ6.out).1
      go_upto_region 5 with fail
      rw [← hw6, ← hb7]
      clear hw6 hb7
      go_wp2_with fail
      refine (HSA.out _ _ w6 (HA5.out w6 HQ6.out).2 HC7'.out).mono ?_
      rintro e w7 ⟨rfl, hb7⟩
      have HB7 : Hid (Below w1.heap.size w1 w7) := HB6.out.trans (hb7.mono HB6.out.size)
      have HQ7 : Hid (Below w4.heap.size w4 w7) := HQ6.out.trans (hb7.mono HQ6.out.size)
      clear hb7 x0 x1 x2 x3 y0 y1 y2 y3 HC7 HC7' HC5 HRC HEC HSA HQ5 HQ6 HB3 HB4 HB5 HB6
      obtain ⟨x0, x1, x2, x3⟩ := block4 (HX.out w7 HB7.out).2.1
      go_wp2_with fail
      refine (HOW.out HCN.out w7 (HX.out w7 HB7.out).2.2).mono ?_
      rintro e w8 ⟨v8, rfl, hcs8, hb8⟩
      have hfe := HFE.out HCN.out v8 w8 hcs8.cr
      obtain ⟨k8, n8, s8, a8, m8, c8, rfl⟩ := hcs8.form
      unfold cellV at hfe ⊢
      have HB8 : Hid (Below w1.heap.size w1 w8) := HB7.out.trans (hb8.mono HB7.out.size)
      have HQ8 : Hid (Below w4.heap.size w4 w8) := HQ7.out.trans (hb8.mono HQ7.out.size)
      clear hcs8 hb8 x0 x1 x2 x3 HFE HOW
      go_wp2_with fail
      refine hfe.mono ?_
      rintro e w9 ⟨u9, rfl, hn9, hb9⟩
      obtain ⟨a9, c9, rfl, -, -, -, -⟩ := hn9.form
      have HN9 := hide_p hn9
      have HB9 : Hid (Below w1.heap.size w1 w9) := HB8.out.trans (hb9.mono HB8.out.size)
      have HQ9 : Hid (Below w4.heap.size w4 w9) := HQ8.out.trans (hb9.mono HQ8.out.size)
      clear hfe hn9 hb9
      generalize hny : Y.ms.length = ny at *
      have HYL' : Hid (ny ≤ 2000) := HYL.out HCN.out
      have HNY := hide_p hny
      clear hny HYL
      obtain ⟨w10, hw10⟩ : ∃ w10, w10 = w9.alloc (.cells #[.int .u64 Y.tm, .int .i64 Y.kd, .string Y.dt, .slice a9 ny c9] 46) := ⟨_, rfl⟩
      obtain ⟨b9, hb9⟩ : ∃ b9, b9 = w9.heap.size := ⟨_, rfl⟩
      have HB10 : Hid (Below w1.heap.size w1 w10) := by show Below _ _ _; rw [hw10]; exact HB9.out.alloc HB9.out.size _
      have HQ10 : Hid (Below w4.heap.size w4 w10) := by show Below _ _ _; rw [hw10]; exact HQ9.out.alloc HQ9.out.size _
      have HA9 : Hid (∀ wq, Below w10.heap.size w10 wq → wq.heap[b9]? = some (.cells #[.int .u64 Y.tm, .int .i64 Y.kd, .string Y.dt, .slice a9 ny c9] 46 (0, 0)) ∧ NR wq (.slice a9 ny c9) Y.ms) := fun wq hq => by
        rw [hw10] at hq
        exact ⟨by rw [hb9]; exact (hq.block _ (by simp)).trans (heap_alloc_new _ _), HN9.out.kept (((Below.refl _ _).alloc (Nat.le_refl _) _).trans (hq.mono (by simp))) (Nat.le_refl _)⟩
      obtain ⟨x0, x1, x2, x3⟩ := block4 (HX.out w10 HB10.out).2.1
      go_upto_region 8 with fail
      rw [← hw10, ← hb9]
      clear hw10 hb9
      go_wp2_with fail
      refine (HRF.out HCN.out w10 (HX.out w10 HB10.out).2.2).mono ?_
      rintro e w11 ⟨u11, rfl, hn11, hb11⟩
      have hsy := HSE.out Y (.slice a9 ny c9) u11
      obtain ⟨a11, c11, rfl, -, -, -, -⟩ := hn11.form
      rw [HNY.out] at hn11 hsy ⊢
      have HN11 := hide_p hn11
      have HB11 : Hid (Below w1.heap.size w1 w11) := HB10.out.trans (hb11.mono HB10.out.size)
      have HQ11 : Hid (Below w4.heap.size w4 w11) := HQ10.out.trans (hb11.mono HQ10.out.size)
      have HP11 := hide_p hb11
      have HSY := hide_p hsy
      clear hn11 hb11 x0 x1 x2 x3 hsy HRF
      obtain ⟨w12, hw12⟩ : ∃ w12, w12 = w11.alloc (.cells #[.int .u64 Y.tm, .int .i64 Y.kd, .string Y.dt, .slice a11 ny c11] 46) := ⟨_, rfl⟩
      obtain ⟨b11, hb11⟩ : ∃ b11, b11 = w11.heap.size := ⟨_, rfl⟩
      have HB12 : Hid (Below w1.heap.size w1 w12) := by show Below _ _ _; rw [hw12]; exact HB11.out.alloc HB11.out.size _
      have HQ12 : Hid (Below w4.heap.size w4 w12) := by show Below _ _ _; rw [hw12]; exact HQ11.out.alloc HQ11.out.size _
      have HP12 : Hid (Below w10.heap.size w10 w12) := by show Below _ _ _; rw [hw12]; exact HP11.out.alloc HP11.out.size _
      have hn12 : NR w12 (.slice a11 ny c11) Y.ms := by
        rw [hw12]
        exact HN11.out.kept ((Below.refl _ _).alloc (Nat.le_refl _) _) (Nat.le_refl _)
      have hse := HSY.out w12 HYL'.out (HA9.out w12 HP12.out).2 hn12
      obtain ⟨y0, y1, y2, y3⟩ := block4 (show w12.heap[b11]? = some (.cells #[.int .u64 Y.tm, .int .i64 Y.kd, .string Y.dt, .slice a11 ny c11] 46 (0, 0)) by rw [hw12, hb11]; exact heap_alloc_new _ _)
      obtain ⟨x0, x1, x2, x3⟩ := block4 (HA9.out w12 HP12.out).1
      clear hn12
      go_upto_region 9 with fail
      rw [← hw12, ← hb11]
      clear hw12 hb11
      go_wp2_with fail
      refine hse.mono ?_
      rintro e w13 ⟨rfl, hb13⟩
      have HB13 : Hid (Below w1.heap.size w1 w13) := HB12.out.trans (hb13.mono HB12.out.size)
      have HQ13 : Hid (Below w4.heap.size w4 w13) := HQ12.out.trans (hb13.mono HQ12.out.size)
      clear hse hb13 x0 x1 x2 x3 y0 y1 y2 y3 HSY HA9 HN11 HN9 HYL' HNY HP11 HP12 HB7 HB8 HB9 HB10 HB11 HB12 HQ7 HQ8 HQ9 HQ10 HQ11 HQ12
      by_cases hE : EE = 0
      · subst hE
        obtain ⟨x0, x1, x2, x3⟩ := block4 (HA5.out w13 HQ13.out).1
        go_wp2_with fail
        refine (HFB.out trivial HLN.out _ w13 (HA5.out w13 HQ13.out).2).mono ?_
        rintro e w14 ⟨u14, rfl, hn14, hb14⟩
        have hsx := HSE.out X u14
        obtain ⟨a14, c14, rfl, -, -, -, -⟩ := hn14.form
        have HN14 := hide_p hn14
        have HB14 : Hid (Below w1.heap.size w1 w14) := HB13.out.trans (hb14.mono HB13.out.size)
        clear hn14 hb14 x0 x1 x2 x3 HQ13 HA5 HFB HSE
        have HXL : Hid (X.ms.length ≤ 2000) := HPN.out HLN.out
        have HPL' := hide_p (HPL.out HLN.out)
        unfold PlP at HPL'
        have HSX := hide_p hsx
        clear hsx HPN HPL HLN HCN
        generalize X.ms = xm at *
        generalize X.tm = xt at *
        generalize X.kd = xk at *
        generalize X.dt = xd at *
        obtain ⟨w15, hw15⟩ : ∃ w15, w15 = w14.alloc (.cells #[.int .u64 xt, .int .i64 xk, .string xd, .slice a14 xm.length c14] 46) := ⟨_, rfl⟩
        obtain ⟨b15, hb15⟩ : ∃ b15, b15 = w14.heap.size := ⟨_, rfl⟩
        have HB15 : Hid (Below w1.heap.size w1 w15) := by show Below _ _ _; rw [hw15]; exact HB14.out.alloc HB14.out.size _
        have HA15 : Hid (∀ wq, Below w15.heap.size w15 wq → (wq.cell? ⟨b15, 0, none⟩ = some (.int .u64 xt) ∧ wq.cell? ⟨b15, 1, none⟩ = some (.int .i64 xk) ∧ wq.cell? ⟨b15, 2, none⟩ = some (.string xd) ∧ wq.cell? ⟨b15, 3, none⟩ = some (.slice a14 xm.length c14) ∧ wq.cell? ⟨w.heap.size, 0, none⟩ = some (.int .u64 tm) ∧ wq.cell? ⟨w.heap.size, 1, none⟩ = some (.int .i64 kd) ∧ wq.cell? ⟨w.heap.size, 2, none⟩ = some (.string dt) ∧ wq.cell? ⟨w.heap.size, 3, none⟩ = some (.slice a nm cap)) ∧ NR wq (.slice a14 xm.length c14) xm ∧ Below w.heap.size w wq) := fun wq hq => by
          obtain ⟨g1, -, g3⟩ := HX.out wq (HB15.out.trans (hq.mono HB15.out.size))
          obtain ⟨z0, z1, z2, z3⟩ := block4 g1
          rw [hw15] at hq
          obtain ⟨q0, q1, q2, q3⟩ := block4 (show wq.heap[b15]? = some (.cells #[.int .u64 xt, .int .i64 xk, .string xd, .slice a14 xm.length c14] 46 (0, 0)) by rw [hb15]; exact (hq.block _ (by simp)).trans (heap_alloc_new _ _))
          exact ⟨⟨q0, q1, q2, q3, z0, z1, z2, z3⟩, HN14.out.kept (((Below.refl _ _).alloc (Nat.le_refl _) _).trans (hq.mono (by simp))) (Nat.le_refl _), g3⟩
        clear HX HB14 HN14 HB13
        go_upto_region 14 with fail
        rw [← hw15, ← hb15]
        clear hw15 hb15
        have hb0 : Below w15.heap.size w15 w15.drew := (Below.refl _ _).drew
        go_wp2_with fail
        go_region_held3 (fun wq => wq.cell? ⟨b15, 0, none⟩ = some (.int .u64 xt) ∧ wq.cell? ⟨b15, 1, none⟩ = some (.int .i64 xk) ∧ wq.cell? ⟨b15, 2, none⟩ = some (.string xd) ∧ wq.cell? ⟨b15, 3, none⟩ = some (.slice a14 xm.length c14) ∧ wq.cell? ⟨w.heap.size, 0, none⟩ = some (.int .u64 tm) ∧ wq.cell? ⟨w.heap.size, 1, none⟩ = some (.int .i64 kd) ∧ wq.cell? ⟨w.heap.size, 2, none⟩ = some (.string dt) ∧ wq.cell? ⟨w.heap.size, 3, none⟩ = some (.slice a nm cap))
          (first | exact (HA15.out _ hb18).1 | exact (HA15.out _ hb17).1 | exact (HA15.out _ hb16).1 | exact (HA15.out _ hb0).1)
          (first
            | (go_at_call 8; refine (HLV.out _ (HA15.out _ hb17).2.2).mono ?_; rintro e w18 ⟨rfl, hb18⟩; replace hb18 : Below w15.heap.size w15 w18 := hb17.trans (hb18.mono hb17.size))
            | (go_at_call 23; refine (HSX.out _ _ HXL.out (HA15.out _ hb16).2.1 hn16).mono ?_; rintro e w17 ⟨rfl, hb17⟩; replace hb17 : Below w15.heap.size w15 w17 := hb16.trans (hb17.mono hb16.size))
            | (go_at_call 24; refine (HPL'.out _ (HA15.out _ hb0).2.2).mono ?_; rintro e w16 ⟨u16, rfl, hn16, hb16⟩; obtain ⟨a16, c16, e16, -, -, -, -⟩ := hn16.form; subst e16; replace hb16 : Below w15.heap.size w15 w16 := hb0.trans (hb16.mono hb0.size)))
        have HBw := hide_p (HA15.out _ hb18).2.2
        clear hb16 hb17 hb18 hn16 HA15 HSX HPL' HLV
        go_wp2
        go_ret
        exact ⟨by first | rfl | simp, HBw.out⟩
      · have hl := HLV.out w13 (HX.out w13 HB13.out).2.2
        go_wp2_with fail
        refine hl.mono ?_
        rintro e w14 ⟨rfl, hb14⟩
        have HBw : Hid (Below w.heap.size w w14) := (HX.out w13 HB13.out).2.2.trans (hb14.mono (HX.out w13 HB13.out).2.2.size)
        clear hl hb14
        go_wp2
        go_ret
        exact ⟨rfl, HBw.out⟩

end Go.Proofs.YtjngknnkffbnmaaDoor
