/-
  Layer 13: the reference's Own, walked.
-/
import Derived.Test.YtnigmiokadpajaaDoorPgRow2
import Derived.Test.YtnigmiokadpajaaDoorPgSmall
namespace Go.Proofs.YtnigmiokadpajaaDoor
set_option maxRecDepth 100000
open Go.RowKit Pg

theorem infoUp : (Tryd.prog.info? 79).map (fun i => (i.zero, i.size, i.bytes)) = some (some (.agg #[.bool false, .int .i64 0]), 2, 16) := by kernel_rfl
theorem infoIns : (Tryd.prog.info? 53).map (fun i => (i.zero, i.size, i.bytes)) = some (some (.agg #[.int .i64 0, .int .i64 0, .int .i64 0, .int .i64 0]), 4, 32) := by kernel_rfl
theorem infoVal : (Tryd.prog.info? 86).map (fun i => (i.zero, i.size, i.bytes)) = some (some (.agg #[.int .i64 0, .int .u64 0, .string ⟨#[]⟩, .int .i64 0]), 4, 40) := by kernel_rfl
theorem infoProto : (Tryd.prog.info? 31).map (fun i => (i.zero, i.size, i.bytes)) = some (some (.agg #[.int .i64 0, .int .i64 0, .slice none 0 0, .slice none 0 0, .slice none 0 0, .slice none 0 0]), 6, 112) := by kernel_rfl

theorem infoP : (Tryd.prog.info? 31).map (·.size) = some 6 := by kernel_rfl

set_option maxHeartbeats 16000000 in
theorem ownP_any : ∀ (t : Pr) (x : Six) (w : World), PR w t x → t.cnt ≤ 100000 →
    Calls Tryd.prog 16 #[x.v] w fun e w' => ∃ x' : Six, e = .returned x'.v ∧ PRS (fun b => w.heap.size ≤ b) w' t x' ∧ Below w.heap.size w w' := by
  refine Pr.ind' fun pa rg us cs ks ps ih => ?_
  intro x w h hcnt
  rw [PR_mk] at h
  obtain ⟨pa', rg', vu, vc, vk, vp⟩ := x
  simp only at h
  obtain ⟨rfl, rfl, hpa, hrg, hu, hc, hk, f, hp, hch⟩ := h
  obtain ⟨au, cu, rfl, hcu, hcu2, lu⟩ := hu.1.val
  obtain ⟨ac, cc, rfl, hcc, hcc2, lc⟩ := hc.1.val
  obtain ⟨ak, ck, rfl, hck, hck2, lk⟩ := hk.1.val
  obtain ⟨ap, cp, rfl, hpl, hpc, lp⟩ := hp.val
  rw [Pr.cnt_mk] at hcnt
  obtain ⟨iu0, iu1, iu2, iu3, iu4⟩ := info_parts infoUp
  obtain ⟨ic0, ic1, ic2, ic3, ic4⟩ := info_parts infoIns
  obtain ⟨ik0, ik1, ik2, ik3, ik4⟩ := info_parts infoVal
  obtain ⟨ip0, ip1, ip2, ip3, ip4⟩ := info_parts infoProto
  unfold Six.v
  simp only
  have HI : Hid _ := ih
  have HCH := (show Hid (∀ i (h : i < ps.length), PR w ps[i] (f i)) from hch)
  obtain ⟨nu, hnu⟩ : ∃ n, n = us.length := ⟨_, rfl⟩
  obtain ⟨nc, hnc⟩ : ∃ n, n = cs.length := ⟨_, rfl⟩
  obtain ⟨nk, hnk⟩ : ∃ n, n = ks.length := ⟨_, rfl⟩
  obtain ⟨np, hnp⟩ : ∃ n, n = ps.length := ⟨_, rfl⟩
  obtain ⟨xu, hxu⟩ : ∃ l, l = cellsF us.length 2 (uppC us) := ⟨_, rfl⟩
  obtain ⟨xc, hxc⟩ : ∃ l, l = cellsF cs.length 4 (insC cs) := ⟨_, rfl⟩
  obtain ⟨xk, hxk⟩ : ∃ l, l = cellsF ks.length 4 (vlC ks) := ⟨_, rfl⟩
  have HXS : Hid (xu = cellsF us.length 2 (uppC us) ∧ xc = cellsF cs.length 4 (insC cs) ∧ xk = cellsF ks.length 4 (vlC ks)) := ⟨hxu, hxc, hxk⟩
  have HN : Hid (nu = us.length ∧ nc = cs.length ∧ nk = ks.length ∧ np = ps.length) := ⟨hnu, hnc, hnk, hnp⟩
  have HSP : Hid (SL w (.slice ap np cp) ps.length 6 (fun i j u => u = (f i).at j)) := by rw [hnp]; exact hp
  have HSU0 : Hid (SU w (.slice au nu cu) us) := by rw [hnu]; exact hu
  have HSC0 : Hid (SI w (.slice ac nc cc) cs) := by rw [hnc]; exact hc
  have HSK0 : Hid (SV w (.slice ak nk ck) ks) := by rw [hnk]; exact hk
  have HCN : Hid (pcnts ps ≤ 100000) := by show _ ≤ _; omega
  have hl1 : us.length ≤ 100000 := by omega
  have hl2 : cs.length ≤ 100000 := by omega
  have hl3 : ks.length ≤ 100000 := by omega
  have hl4 : ps.length ≤ 100000 := by have := plen_cnts ps; omega
  rw [← hnu, ← hnc, ← hnk, ← hnp]
  rw [← hnu] at hl1
  rw [← hnc] at hl2
  rw [← hnk] at hl3
  rw [← hnp] at hl4
  clear hu hc hk hp hch ih hnu hnc hnk hnp hxu hxc hxk lu lc lk lp hcnt hcu hcu2 hcc hcc2 hck hck2 hpl hpc
  obtain ⟨bx, hbx⟩ : ∃ bx, bx = w.heap.size := ⟨_, rfl⟩
  obtain ⟨wq, hwq⟩ : ∃ wq, wq = (w.alloc (.cells #[.int .i64 pa', .int .i64 rg', .slice au nu cu, .slice ac nc cc, .slice ak nk ck, .slice ap np cp] 31)).alloc (.cells #[.int .i64 0, .int .i64 0, .slice none 0 0, .slice none 0 0, .slice none 0 0, .slice none 0 0] 31) := ⟨_, rfl⟩
  have hsq : wq.heap.size = bx + 2 := by rw [hwq, hbx]; simp
  have HBq : Hid (Below w.heap.size w wq) := by rw [hwq]; exact ((Below.refl _ _).alloc (Nat.le_refl _) _).alloc (by simp) _
  have HK1 : Hid (wq.heap[bx]? = some (.cells #[.int .i64 pa', .int .i64 rg', .slice au nu cu, .slice ac nc cc, .slice ak nk ck, .slice ap np cp] 31 (0, 0))) := by
    show _ = _
    rw [hwq, hbx, Below.heap_alloc _ _ _ (by simp)]
    exact heap_alloc_new w _
  have HK2 : Hid (wq.heap[bx + 1]? = some (.cells #[.int .i64 0, .int .i64 0, .slice none 0 0, .slice none 0 0, .slice none 0 0, .slice none 0 0] 31 (0, 0))) := by
    show _ = _
    rw [hwq, hbx]
    have := heap_alloc_new (w.alloc (.cells #[.int .i64 pa', .int .i64 rg', .slice au nu cu, .slice ac nc cc, .slice ak nk ck, .slice ap np cp] 31)) (.cells #[.int .i64 0, .int .i64 0, .slice none 0 0, .slice none 0 0, .slice none 0 0, .slice none 0 0] 31)
    simpa using this
  have HBK : Hid (∀ w', Kb bx wq w' → Below w.heap.size w w') := fun w' hk => HBq.out.trans (hk.below (by omega) (by omega))
  have HSU : Hid (∀ w', Kb bx wq w' → Src w' 2 (.slice au nu cu) nu xu) := fun w' hk => by
    have := (HSU0.out.kept (HBK.out w' hk) (Nat.le_refl _)).src
    rw [HXS.out.1, ← HN.out.1]; rw [← HN.out.1] at this; exact this
  have HSC : Hid (∀ w', Kb bx wq w' → Src w' 4 (.slice ac nc cc) nc xc) := fun w' hk => by
    have := (HSC0.out.kept (HBK.out w' hk) (Nat.le_refl _)).src
    rw [HXS.out.2.1, ← HN.out.2.1]; rw [← HN.out.2.1] at this; exact this
  have HSK : Hid (∀ w', Kb bx wq w' → Src w' 4 (.slice ak nk ck) nk xk) := fun w' hk => by
    have := (HSK0.out.kept (HBK.out w' hk) (Nat.le_refl _)).src
    rw [HXS.out.2.2, ← HN.out.2.2.1]; rw [← HN.out.2.2.1] at this; exact this
  have HS0 : Hid (OwS 31 79 53 86 wq wq.drew bx wq.heap.size (.int .i64 pa') (.int .i64 rg') (.slice ap np cp) nu nc nk xu xc xk (.slice au nu cu) (.slice ac nc cc) (.slice ak nk ck) undef undef undef undef undef undef false false false false false false false false false) :=
    ⟨Kb.of_below (Below.refl _ _).drew, Nat.le_refl _, by decide, HK1.out, ⟨(fun q => by cases q), (fun q => by cases q)⟩, ⟨(fun q => by cases q), (fun q => by cases q)⟩, ⟨(fun q => by cases q), (fun q => by cases q)⟩⟩
  go_enter Tryd.func16, Tryd.ntmps16
  go_upto_region 1 with fail
  rw [← hwq]
  rw [← hbx]
  have HBX := hide_p hbx
  clear hwq hbx
  go_cut [5] (fun t5 wx => ∃ v5 v8 v9 v12 v13 v16, Hid (OwS 31 79 53 86 wq wx bx wq.heap.size (.int .i64 pa') (.int .i64 rg') (.slice ap np cp) nu nc nk xu xc xk (.slice au nu cu) (.slice ac nc cc) (.slice ak nk ck) v5 v8 v9 v12 v13 v16 true true true true true true true true true))
  case first =>
    refine wp_region_inv2 (by kernel_rfl) [5, 6, 7, 8, 9, 10, 11, 12, 13, 14, 15, 16, 17, 18, 19] (fun L vs w' => ∃ v5 v6 v7 v8 v9 v10 v11 v12 v13 v14 v15 v16 v17 v18 v19, vs = [v5, v6, v7, v8, v9, v10, v11, v12, v13, v14, v15, v16, v17, v18, v19] ∧ (L 1 = true → v6 = .pointer (some ⟨bx, 2, none⟩)) ∧ (L 2 = true → v7 = .slice au nu cu) ∧ (L 5 = true → v10 = .pointer (some ⟨bx, 3, none⟩)) ∧ (L 6 = true → v11 = .slice ac nc cc) ∧ (L 9 = true → v14 = .pointer (some ⟨bx, 4, none⟩)) ∧ (L 10 = true → v15 = .slice ak nk ck) ∧ (L 12 = true → v17 = .pointer (some ⟨bx, 2, none⟩)) ∧ (L 14 = true → v18 = .pointer (some ⟨bx, 3, none⟩)) ∧ (L 16 = true → v19 = .pointer (some ⟨bx, 4, none⟩)) ∧ (L 3 = true → L 0 = true ∧ L 2 = true) ∧ (L 7 = true → L 4 = true ∧ L 6 = true ∧ L 3 = true) ∧ (L 11 = true → L 8 = true ∧ L 10 = true ∧ L 7 = true) ∧ (L 13 = true → L 12 = true ∧ L 11 = true) ∧ (L 15 = true → L 14 = true ∧ L 13 = true) ∧ (L 17 = true → L 16 = true ∧ L 15 = true) ∧ Hid (OwS 31 79 53 86 wq w' bx wq.heap.size (.int .i64 pa') (.int .i64 rg') (.slice ap np cp) nu nc nk xu xc xk (.slice au nu cu) (.slice ac nc cc) (.slice ak nk ck) v5 v8 v9 v12 v13 v16 (L 0) (L 3) (L 4) (L 7) (L 8) (L 11) (L 13) (L 15) (L 17))) (by kernel_rfl) (by decide) (by simp) ?_ ⟨?_, ?_, ?_, ?_, ?_, ?_, ?_, ?_, ?_, ?_, ?_, ?_, ?_, ?_, ?_, ?_, ?_, ?_, trivial⟩ ?_
    · exact ⟨_, _, _, _, _, _, _, _, _, _, _, _, _, _, _, rfl, fun q => by (cases q), fun q => by (cases q), fun q => by (cases q), fun q => by (cases q), fun q => by (cases q), fun q => by (cases q), fun q => by (cases q), fun q => by (cases q), fun q => by (cases q), fun q => by (cases q), fun q => by (cases q), fun q => by (cases q), fun q => by (cases q), fun q => by (cases q), fun q => by (cases q), HS0.out⟩
    · rintro A L vs w' F G ⟨v5, v6, v7, v8, v9, v10, v11, v12, v13, v14, v15, v16, v17, v18, v19, rfl, d1, d2, d5, d6, d9, d10, d12, d14, d16, m3, m7, m11, m13, m15, m17, HW⟩ hL hdep K' hK hK0
      have hn : L 3 = false := not_yet hL (fun q => (m3 q).1)
      have hw := HW.out
      rw [hn] at hw
      have HW2 := hide_p hw.made0
      have HW3 : Hid (OwS 31 79 53 86 wq (w'.alloc (.cells #[] 79)) bx wq.heap.size (.int .i64 pa') (.int .i64 rg') (.slice ap np cp) nu nc nk xu xc xk (.slice au nu cu) (.slice ac nc cc) (.slice ak nk ck) (.slice (some ⟨w'.heap.size, 0, none⟩) 0 0) v8 v9 v12 v13 v16 (Later L 0 0) (Later L 0 3) (Later L 0 4) (Later L 0 7) (Later L 0 8) (Later L 0 11) (Later L 0 13) (Later L 0 15) (Later L 0 17)) := by rw [show Later L 0 3 = false from hn]; exact HW2.out
      clear F G hw HW HW2
      go_simp
      refine hK 0 5 _ _ rfl ⟨_, _, _, _, _, _, _, _, _, _, _, _, _, _, _, rfl, d1, d2, d5, d6, d9, d10, d12, d14, d16, (fun q => ⟨laterT (m3 q).1, laterT (m3 q).2⟩), (fun q => ⟨laterT (m7 q).1, laterT (m7 q).2.1, laterT (m7 q).2.2⟩), (fun q => ⟨laterT (m11 q).1, laterT (m11 q).2.1, laterT (m11 q).2.2⟩), (fun q => ⟨laterT (m13 q).1, laterT (m13 q).2⟩), (fun q => ⟨laterT (m15 q).1, laterT (m15 q).2⟩), (fun q => ⟨laterT (m17 q).1, laterT (m17 q).2⟩), HW3⟩
    · rintro A L vs w' F G ⟨v5, v6, v7, v8, v9, v10, v11, v12, v13, v14, v15, v16, v17, v18, v19, rfl, d1, d2, d5, d6, d9, d10, d12, d14, d16, m3, m7, m11, m13, m15, m17, HW⟩ hL hdep K' hK hK0
      have g1 : A.tmps[1]?.getD undef = .pointer (some ⟨bx, 0, none⟩) := evT ((G 1 (by decide)).trans rfl)
      clear F G
      go_simp
      refine hK 1 6 _ w' rfl ⟨_, _, _, _, _, _, _, _, _, _, _, _, _, _, _, rfl, (fun _ => rfl), d2, d5, d6, d9, d10, d12, d14, d16, (fun q => ⟨laterT (m3 q).1, laterT (m3 q).2⟩), (fun q => ⟨laterT (m7 q).1, laterT (m7 q).2.1, laterT (m7 q).2.2⟩), (fun q => ⟨laterT (m11 q).1, laterT (m11 q).2.1, laterT (m11 q).2.2⟩), (fun q => ⟨laterT (m13 q).1, laterT (m13 q).2⟩), (fun q => ⟨laterT (m15 q).1, laterT (m15 q).2⟩), (fun q => ⟨laterT (m17 q).1, laterT (m17 q).2⟩), HW⟩
    · rintro A L vs w' F G ⟨v5, v6, v7, v8, v9, v10, v11, v12, v13, v14, v15, v16, v17, v18, v19, rfl, d1, d2, d5, d6, d9, d10, d12, d14, d16, m3, m7, m11, m13, m15, m17, HW⟩ hL hdep K' hK hK0
      have p1 : L 1 = true := hdep { on := 1, ground := Ground.data } (by simp) rfl
      have hn : L 13 = false := not_yet hL (fun q => (m3 (m7 (m11 (m13 q).2).2.2).2.2).2)
      have cc : w'.cell? ⟨bx, 2, none⟩ = some (.slice au nu cu) := HW.out.cell (by rw [hn]; rfl)
      have q := d1 p1
      subst q
      have gg := evT (F 1 6 _ rfl rfl)
      clear F G
      go_simp
      refine hK 2 7 _ w' rfl ⟨_, _, _, _, _, _, _, _, _, _, _, _, _, _, _, rfl, (fun _ => rfl), (fun _ => rfl), d5, d6, d9, d10, d12, d14, d16, (fun q => ⟨laterT (m3 q).1, laterT (m3 q).2⟩), (fun q => ⟨laterT (m7 q).1, laterT (m7 q).2.1, laterT (m7 q).2.2⟩), (fun q => ⟨laterT (m11 q).1, laterT (m11 q).2.1, laterT (m11 q).2.2⟩), (fun q => ⟨laterT (m13 q).1, laterT (m13 q).2⟩), (fun q => ⟨laterT (m15 q).1, laterT (m15 q).2⟩), (fun q => ⟨laterT (m17 q).1, laterT (m17 q).2⟩), HW⟩
    · rintro A L vs w' F G ⟨v5, v6, v7, v8, v9, v10, v11, v12, v13, v14, v15, v16, v17, v18, v19, rfl, d1, d2, d5, d6, d9, d10, d12, d14, d16, m3, m7, m11, m13, m15, m17, HW⟩ hL hdep K' hK hK0
      have p0 : L 0 = true := hdep { on := 0, ground := Ground.data } (by simp) rfl
      have p2 : L 2 = true := hdep { on := 2, ground := Ground.data } (by simp) rfl
      have hn : L 13 = false := not_yet hL (fun q => (m7 (m11 (m13 q).2).2.2).2.2)
      have hw := HW.out
      rw [hL, p0, hn] at hw
      have hrow := hw.ru.1 rfl rfl
      have hB := hw.kb.size
      have q := d2 p2
      subst q
      refine step_append_src w' rfl (.tmp 5) (.tmp 7) 26 rfl wq.heap.size 79 iu0 _ 2 16 Tryd.underlying26 iu1 iu2 iu3 iu4 rfl (by decide) v5 0 [] (F 0 5 _ rfl rfl) hrow (.slice au nu cu) nu xu (F 2 7 _ rfl rfl) (HSU.out w' hw.kb) (by unfold maxLen; omega) (by omega) hB ?_
      intro a' c' w2 q1 q2 q3
      rw [Nat.zero_add, List.nil_append] at q1
      rw [Nat.zero_add] at ⊢
      have HW2 := hide_p (hw.app3 (Nat.le_refl _) q1 q2)
      have HW3 : Hid (OwS 31 79 53 86 wq w2 bx wq.heap.size (.int .i64 pa') (.int .i64 rg') (.slice ap np cp) nu nc nk xu xc xk (.slice au nu cu) (.slice ac nc cc) (.slice ak nk ck) v5 (.slice a' nu c') v9 v12 v13 v16 (Later L 3 0) (Later L 3 3) (Later L 3 4) (Later L 3 7) (Later L 3 8) (Later L 3 11) (Later L 3 13) (Later L 3 15) (Later L 3 17)) := by rw [show Later L 3 0 = true from p0, show Later L 3 13 = false from hn]; exact HW2.out
      clear hw hrow q1 q2 q3
      refine hK 3 8 _ w2 rfl ⟨_, _, _, _, _, _, _, _, _, _, _, _, _, _, _, rfl, d1, (fun _ => rfl), d5, d6, d9, d10, d12, d14, d16, (fun _ => ⟨laterT p0, laterT p2⟩), (fun q => ⟨laterT (m7 q).1, laterT (m7 q).2.1, laterT (m7 q).2.2⟩), (fun q => ⟨laterT (m11 q).1, laterT (m11 q).2.1, laterT (m11 q).2.2⟩), (fun q => ⟨laterT (m13 q).1, laterT (m13 q).2⟩), (fun q => ⟨laterT (m15 q).1, laterT (m15 q).2⟩), (fun q => ⟨laterT (m17 q).1, laterT (m17 q).2⟩), HW3⟩
    · rintro A L vs w' F G ⟨v5, v6, v7, v8, v9, v10, v11, v12, v13, v14, v15, v16, v17, v18, v19, rfl, d1, d2, d5, d6, d9, d10, d12, d14, d16, m3, m7, m11, m13, m15, m17, HW⟩ hL hdep K' hK hK0
      have hn : L 7 = false := not_yet hL (fun q => (m7 q).1)
      have hw := HW.out
      rw [hn] at hw
      have HW2 := hide_p hw.made4
      have HW3 : Hid (OwS 31 79 53 86 wq (w'.alloc (.cells #[] 53)) bx wq.heap.size (.int .i64 pa') (.int .i64 rg') (.slice ap np cp) nu nc nk xu xc xk (.slice au nu cu) (.slice ac nc cc) (.slice ak nk ck) v5 v8 (.slice (some ⟨w'.heap.size, 0, none⟩) 0 0) v12 v13 v16 (Later L 4 0) (Later L 4 3) (Later L 4 4) (Later L 4 7) (Later L 4 8) (Later L 4 11) (Later L 4 13) (Later L 4 15) (Later L 4 17)) := by rw [show Later L 4 7 = false from hn]; exact HW2.out
      clear F G hw HW HW2
      go_simp
      refine hK 4 9 _ _ rfl ⟨_, _, _, _, _, _, _, _, _, _, _, _, _, _, _, rfl, d1, d2, d5, d6, d9, d10, d12, d14, d16, (fun q => ⟨laterT (m3 q).1, laterT (m3 q).2⟩), (fun q => ⟨laterT (m7 q).1, laterT (m7 q).2.1, laterT (m7 q).2.2⟩), (fun q => ⟨laterT (m11 q).1, laterT (m11 q).2.1, laterT (m11 q).2.2⟩), (fun q => ⟨laterT (m13 q).1, laterT (m13 q).2⟩), (fun q => ⟨laterT (m15 q).1, laterT (m15 q).2⟩), (fun q => ⟨laterT (m17 q).1, laterT (m17 q).2⟩), HW3⟩
    · rintro A L vs w' F G ⟨v5, v6, v7, v8, v9, v10, v11, v12, v13, v14, v15, v16, v17, v18, v19, rfl, d1, d2, d5, d6, d9, d10, d12, d14, d16, m3, m7, m11, m13, m15, m17, HW⟩ hL hdep K' hK hK0
      have g1 : A.tmps[1]?.getD undef = .pointer (some ⟨bx, 0, none⟩) := evT ((G 1 (by decide)).trans rfl)
      clear F G
      go_simp
      refine hK 5 10 _ w' rfl ⟨_, _, _, _, _, _, _, _, _, _, _, _, _, _, _, rfl, d1, d2, (fun _ => rfl), d6, d9, d10, d12, d14, d16, (fun q => ⟨laterT (m3 q).1, laterT (m3 q).2⟩), (fun q => ⟨laterT (m7 q).1, laterT (m7 q).2.1, laterT (m7 q).2.2⟩), (fun q => ⟨laterT (m11 q).1, laterT (m11 q).2.1, laterT (m11 q).2.2⟩), (fun q => ⟨laterT (m13 q).1, laterT (m13 q).2⟩), (fun q => ⟨laterT (m15 q).1, laterT (m15 q).2⟩), (fun q => ⟨laterT (m17 q).1, laterT (m17 q).2⟩), HW⟩
    · rintro A L vs w' F G ⟨v5, v6, v7, v8, v9, v10, v11, v12, v13, v14, v15, v16, v17, v18, v19, rfl, d1, d2, d5, d6, d9, d10, d12, d14, d16, m3, m7, m11, m13, m15, m17, HW⟩ hL hdep K' hK hK0
      have p5 : L 5 = true := hdep { on := 5, ground := Ground.data } (by simp) rfl
      have hn : L 15 = false := not_yet hL (fun q => (m7 (m11 (m13 (m15 q).2).2).2.2).2.1)
      have cc : w'.cell? ⟨bx, 3, none⟩ = some (.slice ac nc cc) := HW.out.cell (by rw [hn]; rfl)
      have q := d5 p5
      subst q
      have gg := evT (F 5 10 _ rfl rfl)
      clear F G
      go_simp
      refine hK 6 11 _ w' rfl ⟨_, _, _, _, _, _, _, _, _, _, _, _, _, _, _, rfl, d1, d2, (fun _ => rfl), (fun _ => rfl), d9, d10, d12, d14, d16, (fun q => ⟨laterT (m3 q).1, laterT (m3 q).2⟩), (fun q => ⟨laterT (m7 q).1, laterT (m7 q).2.1, laterT (m7 q).2.2⟩), (fun q => ⟨laterT (m11 q).1, laterT (m11 q).2.1, laterT (m11 q).2.2⟩), (fun q => ⟨laterT (m13 q).1, laterT (m13 q).2⟩), (fun q => ⟨laterT (m15 q).1, laterT (m15 q).2⟩), (fun q => ⟨laterT (m17 q).1, laterT (m17 q).2⟩), HW⟩
    · rintro A L vs w' F G ⟨v5, v6, v7, v8, v9, v10, v11, v12, v13, v14, v15, v16, v17, v18, v19, rfl, d1, d2, d5, d6, d9, d10, d12, d14, d16, m3, m7, m11, m13, m15, m17, HW⟩ hL hdep K' hK hK0
      have p4 : L 4 = true := hdep { on := 4, ground := Ground.data } (by simp) rfl
      have p6 : L 6 = true := hdep { on := 6, ground := Ground.data } (by simp) rfl
      have p3 : L 3 = true := hdep { on := 3, ground := Ground.chain } (by simp) rfl
      have hn : L 15 = false := not_yet hL (fun q => (m11 (m13 (m15 q).2).2).2.2)
      have hw := HW.out
      rw [hL, p4, hn] at hw
      have hrow := hw.rc.1 rfl rfl
      have hB := hw.kb.size
      have q := d6 p6
      subst q
      refine step_append_src w' rfl (.tmp 9) (.tmp 11) 27 rfl wq.heap.size 53 ic0 _ 4 32 Tryd.underlying27 ic1 ic2 ic3 ic4 rfl (by decide) v9 0 [] (F 4 9 _ rfl rfl) hrow (.slice ac nc cc) nc xc (F 6 11 _ rfl rfl) (HSC.out w' hw.kb) (by unfold maxLen; omega) (by omega) hB ?_
      intro a' c' w2 q1 q2 q3
      rw [Nat.zero_add, List.nil_append] at q1
      rw [Nat.zero_add] at ⊢
      have HW2 := hide_p (hw.app7 (Nat.le_refl _) q1 q2)
      have HW3 : Hid (OwS 31 79 53 86 wq w2 bx wq.heap.size (.int .i64 pa') (.int .i64 rg') (.slice ap np cp) nu nc nk xu xc xk (.slice au nu cu) (.slice ac nc cc) (.slice ak nk ck) v5 v8 v9 (.slice a' nc c') v13 v16 (Later L 7 0) (Later L 7 3) (Later L 7 4) (Later L 7 7) (Later L 7 8) (Later L 7 11) (Later L 7 13) (Later L 7 15) (Later L 7 17)) := by rw [show Later L 7 4 = true from p4, show Later L 7 15 = false from hn]; exact HW2.out
      clear hw hrow q1 q2 q3
      refine hK 7 12 _ w2 rfl ⟨_, _, _, _, _, _, _, _, _, _, _, _, _, _, _, rfl, d1, d2, d5, (fun _ => rfl), d9, d10, d12, d14, d16, (fun q => ⟨laterT (m3 q).1, laterT (m3 q).2⟩), (fun _ => ⟨laterT p4, laterT p6, laterT p3⟩), (fun q => ⟨laterT (m11 q).1, laterT (m11 q).2.1, laterT (m11 q).2.2⟩), (fun q => ⟨laterT (m13 q).1, laterT (m13 q).2⟩), (fun q => ⟨laterT (m15 q).1, laterT (m15 q).2⟩), (fun q => ⟨laterT (m17 q).1, laterT (m17 q).2⟩), HW3⟩
    · rintro A L vs w' F G ⟨v5, v6, v7, v8, v9, v10, v11, v12, v13, v14, v15, v16, v17, v18, v19, rfl, d1, d2, d5, d6, d9, d10, d12, d14, d16, m3, m7, m11, m13, m15, m17, HW⟩ hL hdep K' hK hK0
      have hn : L 11 = false := not_yet hL (fun q => (m11 q).1)
      have hw := HW.out
      rw [hn] at hw
      have HW2 := hide_p hw.made8
      have HW3 : Hid (OwS 31 79 53 86 wq (w'.alloc (.cells #[] 86)) bx wq.heap.size (.int .i64 pa') (.int .i64 rg') (.slice ap np cp) nu nc nk xu xc xk (.slice au nu cu) (.slice ac nc cc) (.slice ak nk ck) v5 v8 v9 v12 (.slice (some ⟨w'.heap.size, 0, none⟩) 0 0) v16 (Later L 8 0) (Later L 8 3) (Later L 8 4) (Later L 8 7) (Later L 8 8) (Later L 8 11) (Later L 8 13) (Later L 8 15) (Later L 8 17)) := by rw [show Later L 8 11 = false from hn]; exact HW2.out
      clear F G hw HW HW2
      go_simp
      refine hK 8 13 _ _ rfl ⟨_, _, _, _, _, _, _, _, _, _, _, _, _, _, _, rfl, d1, d2, d5, d6, d9, d10, d12, d14, d16, (fun q => ⟨laterT (m3 q).1, laterT (m3 q).2⟩), (fun q => ⟨laterT (m7 q).1, laterT (m7 q).2.1, laterT (m7 q).2.2⟩), (fun q => ⟨laterT (m11 q).1, laterT (m11 q).2.1, laterT (m11 q).2.2⟩), (fun q => ⟨laterT (m13 q).1, laterT (m13 q).2⟩), (fun q => ⟨laterT (m15 q).1, laterT (m15 q).2⟩), (fun q => ⟨laterT (m17 q).1, laterT (m17 q).2⟩), HW3⟩
    · rintro A L vs w' F G ⟨v5, v6, v7, v8, v9, v10, v11, v12, v13, v14, v15, v16, v17, v18, v19, rfl, d1, d2, d5, d6, d9, d10, d12, d14, d16, m3, m7, m11, m13, m15, m17, HW⟩ hL hdep K' hK hK0
      have g1 : A.tmps[1]?.getD undef = .pointer (some ⟨bx, 0, none⟩) := evT ((G 1 (by decide)).trans rfl)
      clear F G
      go_simp
      refine hK 9 14 _ w' rfl ⟨_, _, _, _, _, _, _, _, _, _, _, _, _, _, _, rfl, d1, d2, d5, d6, (fun _ => rfl), d10, d12, d14, d16, (fun q => ⟨laterT (m3 q).1, laterT (m3 q).2⟩), (fun q => ⟨laterT (m7 q).1, laterT (m7 q).2.1, laterT (m7 q).2.2⟩), (fun q => ⟨laterT (m11 q).1, laterT (m11 q).2.1, laterT (m11 q).2.2⟩), (fun q => ⟨laterT (m13 q).1, laterT (m13 q).2⟩), (fun q => ⟨laterT (m15 q).1, laterT (m15 q).2⟩), (fun q => ⟨laterT (m17 q).1, laterT (m17 q).2⟩), HW⟩
    · rintro A L vs w' F G ⟨v5, v6, v7, v8, v9, v10, v11, v12, v13, v14, v15, v16, v17, v18, v19, rfl, d1, d2, d5, d6, d9, d10, d12, d14, d16, m3, m7, m11, m13, m15, m17, HW⟩ hL hdep K' hK hK0
      have p9 : L 9 = true := hdep { on := 9, ground := Ground.data } (by simp) rfl
      have hn : L 17 = false := not_yet hL (fun q => (m11 (m13 (m15 (m17 q).2).2).2).2.1)
      have cc : w'.cell? ⟨bx, 4, none⟩ = some (.slice ak nk ck) := HW.out.cell (by rw [hn]; rfl)
      have q := d9 p9
      subst q
      have gg := evT (F 9 14 _ rfl rfl)
      clear F G
      go_simp
      refine hK 10 15 _ w' rfl ⟨_, _, _, _, _, _, _, _, _, _, _, _, _, _, _, rfl, d1, d2, d5, d6, (fun _ => rfl), (fun _ => rfl), d12, d14, d16, (fun q => ⟨laterT (m3 q).1, laterT (m3 q).2⟩), (fun q => ⟨laterT (m7 q).1, laterT (m7 q).2.1, laterT (m7 q).2.2⟩), (fun q => ⟨laterT (m11 q).1, laterT (m11 q).2.1, laterT (m11 q).2.2⟩), (fun q => ⟨laterT (m13 q).1, laterT (m13 q).2⟩), (fun q => ⟨laterT (m15 q).1, laterT (m15 q).2⟩), (fun q => ⟨laterT (m17 q).1, laterT (m17 q).2⟩), HW⟩
    · rintro A L vs w' F G ⟨v5, v6, v7, v8, v9, v10, v11, v12, v13, v14, v15, v16, v17, v18, v19, rfl, d1, d2, d5, d6, d9, d10, d12, d14, d16, m3, m7, m11, m13, m15, m17, HW⟩ hL hdep K' hK hK0
      have p8 : L 8 = true := hdep { on := 8, ground := Ground.data } (by simp) rfl
      have p10 : L 10 = true := hdep { on := 10, ground := Ground.data } (by simp) rfl
      have p7 : L 7 = true := hdep { on := 7, ground := Ground.chain } (by simp) rfl
      have hn : L 17 = false := not_yet hL (fun q => (m13 (m15 (m17 q).2).2).2)
      have hw := HW.out
      rw [hL, p8, hn] at hw
      have hrow := hw.rk.1 rfl rfl
      have hB := hw.kb.size
      have q := d10 p10
      subst q
      refine step_append_src w' rfl (.tmp 13) (.tmp 15) 28 rfl wq.heap.size 86 ik0 _ 4 40 Tryd.underlying28 ik1 ik2 ik3 ik4 rfl (by decide) v13 0 [] (F 8 13 _ rfl rfl) hrow (.slice ak nk ck) nk xk (F 10 15 _ rfl rfl) (HSK.out w' hw.kb) (by unfold maxLen; omega) (by omega) hB ?_
      intro a' c' w2 q1 q2 q3
      rw [Nat.zero_add, List.nil_append] at q1
      rw [Nat.zero_add] at ⊢
      have HW2 := hide_p (hw.app11 (Nat.le_refl _) q1 q2)
      have HW3 : Hid (OwS 31 79 53 86 wq w2 bx wq.heap.size (.int .i64 pa') (.int .i64 rg') (.slice ap np cp) nu nc nk xu xc xk (.slice au nu cu) (.slice ac nc cc) (.slice ak nk ck) v5 v8 v9 v12 v13 (.slice a' nk c') (Later L 11 0) (Later L 11 3) (Later L 11 4) (Later L 11 7) (Later L 11 8) (Later L 11 11) (Later L 11 13) (Later L 11 15) (Later L 11 17)) := by rw [show Later L 11 8 = true from p8, show Later L 11 17 = false from hn]; exact HW2.out
      clear hw hrow q1 q2 q3
      refine hK 11 16 _ w2 rfl ⟨_, _, _, _, _, _, _, _, _, _, _, _, _, _, _, rfl, d1, d2, d5, d6, d9, (fun _ => rfl), d12, d14, d16, (fun q => ⟨laterT (m3 q).1, laterT (m3 q).2⟩), (fun q => ⟨laterT (m7 q).1, laterT (m7 q).2.1, laterT (m7 q).2.2⟩), (fun _ => ⟨laterT p8, laterT p10, laterT p7⟩), (fun q => ⟨laterT (m13 q).1, laterT (m13 q).2⟩), (fun q => ⟨laterT (m15 q).1, laterT (m15 q).2⟩), (fun q => ⟨laterT (m17 q).1, laterT (m17 q).2⟩), HW3⟩
    · rintro A L vs w' F G ⟨v5, v6, v7, v8, v9, v10, v11, v12, v13, v14, v15, v16, v17, v18, v19, rfl, d1, d2, d5, d6, d9, d10, d12, d14, d16, m3, m7, m11, m13, m15, m17, HW⟩ hL hdep K' hK hK0
      have g1 : A.tmps[1]?.getD undef = .pointer (some ⟨bx, 0, none⟩) := evT ((G 1 (by decide)).trans rfl)
      clear F G
      go_simp
      refine hK 12 17 _ w' rfl ⟨_, _, _, _, _, _, _, _, _, _, _, _, _, _, _, rfl, d1, d2, d5, d6, d9, d10, (fun _ => rfl), d14, d16, (fun q => ⟨laterT (m3 q).1, laterT (m3 q).2⟩), (fun q => ⟨laterT (m7 q).1, laterT (m7 q).2.1, laterT (m7 q).2.2⟩), (fun q => ⟨laterT (m11 q).1, laterT (m11 q).2.1, laterT (m11 q).2.2⟩), (fun q => ⟨laterT (m13 q).1, laterT (m13 q).2⟩), (fun q => ⟨laterT (m15 q).1, laterT (m15 q).2⟩), (fun q => ⟨laterT (m17 q).1, laterT (m17 q).2⟩), HW⟩
    · rintro A L vs w' F G ⟨v5, v6, v7, v8, v9, v10, v11, v12, v13, v14, v15, v16, v17, v18, v19, rfl, d1, d2, d5, d6, d9, d10, d12, d14, d16, m3, m7, m11, m13, m15, m17, HW⟩ hL hdep K' hK hK0
      have p12 : L 12 = true := hdep { on := 12, ground := Ground.data } (by simp) rfl
      have p3 : L 3 = true := hdep { on := 3, ground := Ground.data } (by simp) rfl
      have p11 : L 11 = true := hdep { on := 11, ground := Ground.chain } (by simp) rfl
      have hw := HW.out
      rw [hL] at hw
      obtain ⟨ax, cx, ex⟩ := owns_form (hw.ru.2 p3)
      subst ex
      have cc := hw.cell (j := 2) rfl
      have fz := hw.fz 2
      have HW2 := hide_p hw.st13
      have q := d12 p12
      subst q
      have gg := evT (F 12 17 _ rfl rfl)
      have gv := evT (F 3 8 _ rfl rfl)
      simp only [Bool.false_eq_true, if_false] at cc
      clear F G hw HW
      go_simp
      refine hK0 _ ⟨_, _, _, _, _, _, _, _, _, _, _, _, _, _, _, rfl, d1, d2, d5, d6, d9, d10, (fun _ => rfl), d14, d16, (fun q => ⟨laterT (m3 q).1, laterT (m3 q).2⟩), (fun q => ⟨laterT (m7 q).1, laterT (m7 q).2.1, laterT (m7 q).2.2⟩), (fun q => ⟨laterT (m11 q).1, laterT (m11 q).2.1, laterT (m11 q).2.2⟩), (fun _ => ⟨laterT p12, laterT p11⟩), (fun q => ⟨laterT (m15 q).1, laterT (m15 q).2⟩), (fun q => ⟨laterT (m17 q).1, laterT (m17 q).2⟩), HW2⟩
    · rintro A L vs w' F G ⟨v5, v6, v7, v8, v9, v10, v11, v12, v13, v14, v15, v16, v17, v18, v19, rfl, d1, d2, d5, d6, d9, d10, d12, d14, d16, m3, m7, m11, m13, m15, m17, HW⟩ hL hdep K' hK hK0
      have g1 : A.tmps[1]?.getD undef = .pointer (some ⟨bx, 0, none⟩) := evT ((G 1 (by decide)).trans rfl)
      clear F G
      go_simp
      refine hK 13 18 _ w' rfl ⟨_, _, _, _, _, _, _, _, _, _, _, _, _, _, _, rfl, d1, d2, d5, d6, d9, d10, d12, (fun _ => rfl), d16, (fun q => ⟨laterT (m3 q).1, laterT (m3 q).2⟩), (fun q => ⟨laterT (m7 q).1, laterT (m7 q).2.1, laterT (m7 q).2.2⟩), (fun q => ⟨laterT (m11 q).1, laterT (m11 q).2.1, laterT (m11 q).2.2⟩), (fun q => ⟨laterT (m13 q).1, laterT (m13 q).2⟩), (fun q => ⟨laterT (m15 q).1, laterT (m15 q).2⟩), (fun q => ⟨laterT (m17 q).1, laterT (m17 q).2⟩), HW⟩
    · rintro A L vs w' F G ⟨v5, v6, v7, v8, v9, v10, v11, v12, v13, v14, v15, v16, v17, v18, v19, rfl, d1, d2, d5, d6, d9, d10, d12, d14, d16, m3, m7, m11, m13, m15, m17, HW⟩ hL hdep K' hK hK0
      have p14 : L 14 = true := hdep { on := 14, ground := Ground.data } (by simp) rfl
      have p7 : L 7 = true := hdep { on := 7, ground := Ground.data } (by simp) rfl
      have p13 : L 13 = true := hdep { on := 13, ground := Ground.chain } (by simp) rfl
      have hw := HW.out
      rw [hL] at hw
      obtain ⟨ax, cx, ex⟩ := owns_form (hw.rc.2 p7)
      subst ex
      have cc := hw.cell (j := 3) rfl
      have fz := hw.fz 3
      have HW2 := hide_p hw.st15
      have q := d14 p14
      subst q
      have gg := evT (F 13 18 _ rfl rfl)
      have gv := evT (F 7 12 _ rfl rfl)
      simp only [Bool.false_eq_true, if_false] at cc
      clear F G hw HW
      go_simp
      refine hK0 _ ⟨_, _, _, _, _, _, _, _, _, _, _, _, _, _, _, rfl, d1, d2, d5, d6, d9, d10, d12, (fun _ => rfl), d16, (fun q => ⟨laterT (m3 q).1, laterT (m3 q).2⟩), (fun q => ⟨laterT (m7 q).1, laterT (m7 q).2.1, laterT (m7 q).2.2⟩), (fun q => ⟨laterT (m11 q).1, laterT (m11 q).2.1, laterT (m11 q).2.2⟩), (fun q => ⟨laterT (m13 q).1, laterT (m13 q).2⟩), (fun _ => ⟨laterT p14, laterT p13⟩), (fun q => ⟨laterT (m17 q).1, laterT (m17 q).2⟩), HW2⟩
    · rintro A L vs w' F G ⟨v5, v6, v7, v8, v9, v10, v11, v12, v13, v14, v15, v16, v17, v18, v19, rfl, d1, d2, d5, d6, d9, d10, d12, d14, d16, m3, m7, m11, m13, m15, m17, HW⟩ hL hdep K' hK hK0
      have g1 : A.tmps[1]?.getD undef = .pointer (some ⟨bx, 0, none⟩) := evT ((G 1 (by decide)).trans rfl)
      clear F G
      go_simp
      refine hK 14 19 _ w' rfl ⟨_, _, _, _, _, _, _, _, _, _, _, _, _, _, _, rfl, d1, d2, d5, d6, d9, d10, d12, d14, (fun _ => rfl), (fun q => ⟨laterT (m3 q).1, laterT (m3 q).2⟩), (fun q => ⟨laterT (m7 q).1, laterT (m7 q).2.1, laterT (m7 q).2.2⟩), (fun q => ⟨laterT (m11 q).1, laterT (m11 q).2.1, laterT (m11 q).2.2⟩), (fun q => ⟨laterT (m13 q).1, laterT (m13 q).2⟩), (fun q => ⟨laterT (m15 q).1, laterT (m15 q).2⟩), (fun q => ⟨laterT (m17 q).1, laterT (m17 q).2⟩), HW⟩
    · rintro A L vs w' F G ⟨v5, v6, v7, v8, v9, v10, v11, v12, v13, v14, v15, v16, v17, v18, v19, rfl, d1, d2, d5, d6, d9, d10, d12, d14, d16, m3, m7, m11, m13, m15, m17, HW⟩ hL hdep K' hK hK0
      have p16 : L 16 = true := hdep { on := 16, ground := Ground.data } (by simp) rfl
      have p11 : L 11 = true := hdep { on := 11, ground := Ground.data } (by simp) rfl
      have p15 : L 15 = true := hdep { on := 15, ground := Ground.chain } (by simp) rfl
      have hw := HW.out
      rw [hL] at hw
      obtain ⟨ax, cx, ex⟩ := owns_form (hw.rk.2 p11)
      subst ex
      have cc := hw.cell (j := 4) rfl
      have fz := hw.fz 4
      have HW2 := hide_p hw.st17
      have q := d16 p16
      subst q
      have gg := evT (F 14 19 _ rfl rfl)
      have gv := evT (F 11 16 _ rfl rfl)
      simp only [Bool.false_eq_true, if_false] at cc
      clear F G hw HW
      go_simp
      refine hK0 _ ⟨_, _, _, _, _, _, _, _, _, _, _, _, _, _, _, rfl, d1, d2, d5, d6, d9, d10, d12, d14, (fun _ => rfl), (fun q => ⟨laterT (m3 q).1, laterT (m3 q).2⟩), (fun q => ⟨laterT (m7 q).1, laterT (m7 q).2.1, laterT (m7 q).2.2⟩), (fun q => ⟨laterT (m11 q).1, laterT (m11 q).2.1, laterT (m11 q).2.2⟩), (fun q => ⟨laterT (m13 q).1, laterT (m13 q).2⟩), (fun q => ⟨laterT (m15 q).1, laterT (m15 q).2⟩), (fun _ => ⟨laterT p16, laterT p15⟩), HW2⟩
    · rintro L vs w' hall ⟨v5, v6, v7, v8, v9, v10, v11, v12, v13, v14, v15, v16, v17, v18, v19, rfl, d1, d2, d5, d6, d9, d10, d12, d14, d16, m3, m7, m11, m13, m15, m17, HW⟩
      have hw := HW.out
      rw [hall 0 (by decide), hall 3 (by decide), hall 4 (by decide), hall 7 (by decide), hall 8 (by decide), hall 11 (by decide), hall 13 (by decide), hall 15 (by decide), hall 17 (by decide)] at hw
      have HE := hide_p hw
      clear d1 d2 d5 d6 d9 d10 d12 d14 d16 m3 m7 m11 m13 m15 m17 HW hw
      simp only [puts]
      go_simp
      go_step
      go_meet
      exact ⟨_, _, _, _, _, _, HE⟩
  case rest =>
    obtain ⟨v5, v8, v9, v12, v13, v16, HO⟩ := hcut
    have hbxc := HO.out.lt
    have hszc := HO.out.kb.size
    obtain ⟨B2, hB2⟩ : ∃ B2, B2 = wc.heap.size := ⟨_, rfl⟩
    have HB2 := hide_p hB2
    have hb2 : bx + 2 ≤ B2 := by omega
    have HWc : Hid (Below w.heap.size w wc) := HBK.out wc HO.out.kb
    have HR0 : Hid (PW 31 (wc.alloc (.cells #[] 31)) B2 (.slice (some ⟨wc.heap.size, 0, none⟩) 0 0) (ps.take 0) f) := by
      refine PW.nil _ ?_
      rw [hB2]
      exact World.ownsRow_made wc #[] 0 (Nat.le_refl _) (by unfold maxLen; omega) (by simp)
    have HB0 : Hid (Below B2 wc (wc.alloc (.cells #[] 31))) := by rw [hB2]; exact (Below.refl _ _).alloc (Nat.le_refl _) _
    clear hszc hB2
    go_wp2_with fail
    go_loopw [3, 4] (fun t3 t4 wr => ∃ (i : Nat) (y : Nat → Six), i ≤ np ∧ t4 = .int .i64 i ∧ Hid (PW 31 wr B2 t3 (ps.take i) y) ∧ Hid (Below B2 wc wr)) (fun _ t4 _ => np - (intOf t4).toNat)
    case atStart => exact ⟨0, f, Nat.zero_le _, rfl, HR0, HB0⟩
    case round =>
      obtain ⟨i, y, hi, rfl, HP, HB⟩ := hrel
      have HBW : Hid (Below w.heap.size w wr) := HWc.out.trans (HB.out.mono (by have := HBX.out; omega))
      have b5 : wr.cell? ⟨bx, 5, none⟩ = some (.slice ap np cp) := (HB.out.cell (p := ⟨bx, 5, none⟩) (by show bx < B2; omega)).trans (HO.out.cell rfl)
      have hszr : B2 ≤ wr.heap.size := by have := HB.out.size; rw [HB2.out]; exact this
      have hlen : (ps.take i).length = i := by rw [List.length_take]; have := HN.out; omega
      by_cases c : i < np
      · have i1 : i < ps.length := by have := HN.out; omega
        obtain ⟨-, g, o, rfl, e0, e1, e2, e3, e4, e5⟩ := SP.get (HSP.out.kept HBW.out (Nat.le_refl _)) i1
        have hcall := HI.out ps[i] (List.getElem_mem i1) (f i) wr (PR.kept HBW.out (Nat.le_refl _) _ _ (HCH.out i i1)) (by have := pcnts_get i i1; have := HCN.out; omega)
        unfold Six.v at hcall
        generalize f i = z at *
        obtain ⟨ypa, yrg, yu, yc, yk, yp⟩ := z
        simp only at e0 e1 e2 e3 e4 e5 hcall
        have HLEN := hide_p hlen
        clear hlen
        go_wp2_with fail
        refine hcall.mono ?_
        rintro e w2 ⟨x', rfl, hprs, hbw2⟩
        obtain ⟨a1, n1, c1, a2, n2, c2, a3, n3, c3, a4, n4, c4, h1, h2, h3, h4⟩ := six_form hprs
        obtain ⟨xpa, xrg, xu', xc', xk', xp'⟩ := x'
        simp only at h1 h2 h3 h4
        subst h1 h2 h3 h4
        have hs2 := hbw2.size
        have HPW2 : Hid (PW 31 (w2.alloc (.cells #[.int .i64 xpa, .int .i64 xrg, .slice a1 n1 c1, .slice a2 n2 c2, .slice a3 n3 c3, .slice a4 n4 c4] 31)) B2 u3 (ps.take i) y) := (HP.out.below hbw2).below ((Below.refl _ _).alloc (Nat.le_refl _) _)
        have HX2 : Hid (PRS (fun b => B2 ≤ b ∧ some b ≠ u3.ownBlock) (w2.alloc (.cells #[.int .i64 xpa, .int .i64 xrg, .slice a1 n1 c1, .slice a2 n2 c2, .slice a3 n3 c3, .slice a4 n4 c4] 31)) ps[i] ⟨xpa, xrg, .slice a1 n1 c1, .slice a2 n2 c2, .slice a3 n3 c3, .slice a4 n4 c4⟩) := by
          refine PRS.below ((Below.refl _ _).alloc (Nat.le_refl _) _) (Nat.le_refl _) _ _ (PRS.widen (fun b hb => ⟨by omega, fun e => ?_⟩) _ _ hprs)
          have := (HP.out.own.lt b e.symm).2
          omega
        have HB3 : Hid (Below B2 wc (w2.alloc (.cells #[.int .i64 xpa, .int .i64 xrg, .slice a1 n1 c1, .slice a2 n2 c2, .slice a3 n3 c3, .slice a4 n4 c4] 31))) := (HB.out.trans (hbw2.mono hszr)).alloc (by omega) _
        have hown : (w2.alloc (.cells #[.int .i64 xpa, .int .i64 xrg, .slice a1 n1 c1, .slice a2 n2 c2, .slice a3 n3 c3, .slice a4 n4 c4] 31)).ownsRow B2 31 6 u3 i (cellsF i 6 (sixC y)) := by
          have := HPW2.out.own
          rw [HLEN.out] at this
          exact this
        have hsrc : Src (w2.alloc (.cells #[.int .i64 xpa, .int .i64 xrg, .slice a1 n1 c1, .slice a2 n2 c2, .slice a3 n3 c3, .slice a4 n4 c4] 31)) 6 (.slice (some ⟨w2.heap.size, 0, none⟩) 1 1) 1 (cellsF 1 6 (sixC fun _ => ⟨xpa, xrg, .slice a1 n1 c1, .slice a2 n2 c2, .slice a3 n3 c3, .slice a4 n4 c4⟩)) := by
          have e6 : cellsF 1 6 (sixC fun _ => ⟨xpa, xrg, .slice a1 n1 c1, .slice a2 n2 c2, .slice a3 n3 c3, .slice a4 n4 c4⟩) = [.int .i64 xpa, .int .i64 xrg, .slice a1 n1 c1, .slice a2 n2 c2, .slice a3 n3 c3, .slice a4 n4 c4] := rfl
          rw [e6]
          refine Or.inr ⟨⟨w2.heap.size, 0, none⟩, 1, rfl, rfl, fun j u hu => ?_, fun u hu => ?_⟩
          · rw [addr_add, Nat.zero_add, World.cell?_alloc_new]
            simpa using hu
          · simp only [List.mem_cons, List.not_mem_nil, or_false] at hu
            rcases hu with rfl | rfl | rfl | rfl | rfl | rfl <;> rfl
        have HSN : Hid (∀ (w4 : World) (a' : Option Addr) (c' : Nat), w4.ownsRow B2 31 6 (.slice a' (i + 1) c') (i + 1) (cellsF i 6 (sixC y) ++ cellsF 1 6 (sixC fun _ => ⟨xpa, xrg, .slice a1 n1 c1, .slice a2 n2 c2, .slice a3 n3 c3, .slice a4 n4 c4⟩)) → (w2.alloc (.cells #[.int .i64 xpa, .int .i64 xrg, .slice a1 n1 c1, .slice a2 n2 c2, .slice a3 n3 c3, .slice a4 n4 c4] 31)).grownBy w4 u3.ownBlock → ((Value.slice a' (i + 1) c').ownBlock = u3.ownBlock ∨ (Value.slice a' (i + 1) c').ownBlock = some (w2.alloc (.cells #[.int .i64 xpa, .int .i64 xrg, .slice a1 n1 c1, .slice a2 n2 c2, .slice a3 n3 c3, .slice a4 n4 c4] 31)).heap.size) → ∃ y', PW 31 w4 B2 (.slice a' (i + 1) c') (ps.take (i + 1)) y') := by
          intro w4 a' c' q1 q2 q3
          have := HPW2.out.snoc (a' := a') (c' := c') HX2.out (by rw [HLEN.out]; exact q1) q2 (by rw [HLEN.out]; exact q3)
          rw [HLEN.out, ← List.take_succ_eq_append_getElem i1] at this
          exact ⟨_, this⟩
        clear hprs hbw2 hcall e0 e1 e2 e3 e4 e5
        go_wp2_with (at_builtin; refine wpList_append_src _ rfl _ _ 29 rfl B2 31 ip0 _ 6 112 Tryd.underlying29 ip1 ip2 ip3 ip4 rfl (by decide) _ i _ rfl hown _ 1 _ rfl hsrc (by unfold maxLen; omega) (by omega) (by simp; omega) ?_)
        intro a' c' w4 q1 q2 q3
        have HPW4 := hide_p (HSN.out w4 a' c' q1 q2 (by simpa using q3))
        have HB4 : Hid (Below B2 wc w4) := HB3.out.grown q2 (by simp; omega) (fun k hk => (hown.lt k hk).1)
        clear q1 q2 q3 hown hsrc HSN HPW2 HX2 HB3
        obtain ⟨y', hy'⟩ := HPW4.out
        have HPW5 := hide_p hy'
        clear hy' HPW4
        go_wp2
        go_roundw
        case rel => exact ⟨i + 1, y', by omega, by go_num, HPW5, HB4⟩
        case measure => simp [intOf]; omega
      · have e : i = np := by omega
        have HT : Hid (ps.take i = ps) := List.take_of_length_le (by have := HN.out; omega)
        subst e
        have hpw := HP.out
        rw [HT.out] at hpw
        have hw : Below wc.heap.size wc wr := by rw [← HB2.out]; exact HB.out
        have ru := own_below (HO.out.ru.2 rfl) hw
        have rc := own_below (HO.out.rc.2 rfl) hw
        have rk := own_below (HO.out.rk.2 rfl) hw
        obtain ⟨a8, c8, rfl⟩ := owns_form ru
        obtain ⟨a12, c12, rfl⟩ := owns_form rc
        obtain ⟨a16, c16, rfl⟩ := owns_form rk
        obtain ⟨a3, c3, e3⟩ : ∃ a3 c3, u3 = .slice a3 i c3 := by
          have := owns_form hpw.own
          rw [← HN.out.2.2.2] at this
          exact this
        subst e3
        have hblk : wr.heap[bx]? = some (.cells #[.int .i64 pa', .int .i64 rg', .slice a8 nu c8, .slice a12 nc c12, .slice a16 nk c16, .slice ap i cp] 31 (0, 0)) := (HB.out.block bx (by omega)).trans HO.out.blk
        have hblk2 : wr.heap[bx + 1]? = some (.cells #[.int .i64 0, .int .i64 0, .slice none 0 0, .slice none 0 0, .slice none 0 0, .slice none 0 0] 31 (0, 0)) := (HB.out.block (bx + 1) (by omega)).trans ((HO.out.kb.block (bx + 1) (by omega) (by omega)).trans HK2.out)
        have hprs : PRS (fun k => bx + 2 ≤ k) wr (.mk pa' rg' us cs ks ps) ⟨pa', rg', .slice a8 nu c8, .slice a12 nc c12, .slice a16 nk c16, .slice a3 i c3⟩ := by
          have hxs := HXS.out
          have hns := HN.out
          rw [PRS_mk]
          refine ⟨rfl, rfl, hpa, hrg, ⟨⟨?_, HSU0.out.2⟩, (InB.own ru).widen (fun b hb => by omega)⟩, ⟨⟨?_, HSC0.out.2⟩, (InB.own rc).widen (fun b hb => by omega)⟩, ⟨⟨?_, HSK0.out.2⟩, (InB.own rk).widen (fun b hb => by omega)⟩, y, ⟨?_, (InB.own hpw.own).widen (fun b hb => by omega)⟩, fun j hj => PRS.widen (fun b hb => by omega) _ _ (hpw.kid j hj)⟩
          · rw [hxs.1, hns.1] at ru
            show SL wr (.slice a8 nu c8) us.length 2 (uppF us)
            rw [hns.1]
            exact SL.of_owns ru (by unfold far; omega) (fun i j hi hj => uppC_F j hi)
          · rw [hxs.2.1, hns.2.1] at rc
            show SL wr (.slice a12 nc c12) cs.length 4 (insF cs)
            rw [hns.2.1]
            exact SL.of_owns rc (by unfold far; omega) (fun i j hi hj => insC_F j hi)
          · rw [hxs.2.2, hns.2.2.1] at rk
            show SL wr (.slice a16 nk c16) ks.length 4 (vlF ks)
            rw [hns.2.2.1]
            exact SL.of_owns rk (by unfold far; omega) (fun i j hi hj => vlC_F j hi)
          · exact hpw.sl (by unfold far; omega)
        have HKK : Hid (∀ W : World, W = ((((((wr.setCell ⟨bx, 5, none⟩ (.slice a3 i c3)).setCell ⟨bx + 1, 0, none⟩ (.int .i64 pa')).setCell ⟨bx + 1, 1, none⟩ (.int .i64 rg')).setCell ⟨bx + 1, 2, none⟩ (.slice a8 nu c8)).setCell ⟨bx + 1, 3, none⟩ (.slice a12 nc c12)).setCell ⟨bx + 1, 4, none⟩ (.slice a16 nk c16)).setCell ⟨bx + 1, 5, none⟩ (.slice a3 i c3) →
            W.heap[bx + 1]? = some (.cells #[.int .i64 pa', .int .i64 rg', .slice a8 nu c8, .slice a12 nc c12, .slice a16 nk c16, .slice a3 i c3] 31 (0, 0)) ∧ PRS (fun k => w.heap.size ≤ k) W (.mk pa' rg' us cs ks ps) ⟨pa', rg', .slice a8 nu c8, .slice a12 nc c12, .slice a16 nk c16, .slice a3 i c3⟩ ∧ Below w.heap.size w W) := by
          intro W hW
          subst hW
          have hbxw := HBX.out
          refine ⟨?_, ?_, ?_⟩
          · have z0 := (heap_setCell_other wr ⟨bx, 5, none⟩ (bx + 1) (.slice a3 i c3) (by simp)).trans hblk2
            have z1 := heap_setCell_same _ _ 0 _ _ (.int .i64 pa') z0
            have z2 := heap_setCell_same _ _ 1 _ _ (.int .i64 rg') z1
            have z3 := heap_setCell_same _ _ 2 _ _ (.slice a8 nu c8) z2
            have z4 := heap_setCell_same _ _ 3 _ _ (.slice a12 nc c12) z3
            have z5 := heap_setCell_same _ _ 4 _ _ (.slice a16 nk c16) z4
            have z6 := heap_setCell_same _ _ 5 _ _ (.slice a3 i c3) z5
            exact z6
          · refine PRS.widen (fun b hb => by omega) _ _ (PRS.same (S := fun k => bx + 2 ≤ k) (fun q hq => ?_) _ _ hprs)
            rw [heap_setCell_other _ _ _ _ (by simp; omega), heap_setCell_other _ _ _ _ (by simp; omega), heap_setCell_other _ _ _ _ (by simp; omega), heap_setCell_other _ _ _ _ (by simp; omega), heap_setCell_other _ _ _ _ (by simp; omega), heap_setCell_other _ _ _ _ (by simp; omega), heap_setCell_other _ _ _ _ (by simp; omega)]
          · exact ((((((HBW.out.setCell (by simp; omega) _).setCell (by simp; omega) _).setCell (by simp; omega) _).setCell (by simp; omega) _).setCell (by simp; omega) _).setCell (by simp; omega) _).setCell (by simp; omega) _
        have hA := fun j => Lib.cell_of_heap hblk j
        have hD := fun j => Lib.cell_of_heap hblk2 j
        have k0 : wr.cell? ⟨bx, 0, none⟩ = some (.int .i64 pa') := hA 0
        have k1 : wr.cell? ⟨bx, 1, none⟩ = some (.int .i64 rg') := hA 1
        have k2 : wr.cell? ⟨bx, 2, none⟩ = some (.slice a8 nu c8) := hA 2
        have k3 : wr.cell? ⟨bx, 3, none⟩ = some (.slice a12 nc c12) := hA 3
        have k4 : wr.cell? ⟨bx, 4, none⟩ = some (.slice a16 nk c16) := hA 4
        have f5 := Lib.frozen_of_heap hblk 5
        have d0 : wr.cell? ⟨bx + 1, 0, none⟩ = some (.int .i64 0) := hD 0
        have d1 : wr.cell? ⟨bx + 1, 1, none⟩ = some (.int .i64 0) := hD 1
        have d2 : wr.cell? ⟨bx + 1, 2, none⟩ = some (.slice none 0 0) := hD 2
        have d3 : wr.cell? ⟨bx + 1, 3, none⟩ = some (.slice none 0 0) := hD 3
        have d4 : wr.cell? ⟨bx + 1, 4, none⟩ = some (.slice none 0 0) := hD 4
        have d5 : wr.cell? ⟨bx + 1, 5, none⟩ = some (.slice none 0 0) := hD 5
        have g0 := Lib.frozen_of_heap hblk2 0
        have g1 := Lib.frozen_of_heap hblk2 1
        have g2 := Lib.frozen_of_heap hblk2 2
        have g3 := Lib.frozen_of_heap hblk2 3
        have g4 := Lib.frozen_of_heap hblk2 4
        have g5 := Lib.frozen_of_heap hblk2 5
        clear hA hD hpw hw ru rc rk hprs hblk hblk2 HP HO hlen
        go_wp2
        obtain ⟨y1, y2, y3⟩ := HKK.out _ rfl
        exact bodyPost_ret (results_cell_row rfl _ _ (bx + 1) _ _ _ _ rfl y1 Tryd.underlying31 rfl infoP) rfl ⟨⟨pa', rg', .slice a8 nu c8, .slice a12 nc c12, .slice a16 nk c16, .slice a3 i c3⟩, rfl, y2, y3⟩

end Go.Proofs.YtnigmiokadpajaaDoor
