/-
  Layer 19: the landed membersCell, walked.
-/
import Derived.Test.YtjngknnkffbnmaaDoorGS1
import Derived.Test.YtjngknnkffbnmaaDoorCdListq
namespace Go.Proofs.YtjngknnkffbnmaaDoor
set_option maxRecDepth 100000
open Go.RowKit Crc Sn

namespace Sn
/-- The number ahead of the i-th; 0 of the first. -/
def ahd (l : List Int) (i : Nat) : Int := if i = 0 then 0 else l.getD (i - 1) 0
theorem ahd_zero (l : List Int) : ahd l 0 = 0 := rfl
theorem ahd_succ (l : List Int) (i : Nat) (hi : i < l.length) : ahd l (i + 1) = l[i] := by
  unfold ahd
  rw [if_neg (by omega), Nat.add_sub_cancel, List.getD_eq_getElem?_getD, List.getElem?_eq_getElem hi]
  rfl
theorem okAt_ahd {l : List Int} {i : Nat} (hi : i < l.length) (h : (List.range i).all (okAt l) = true) : okAt l i = (decide (ahd l i < l[i]) && decide (l[i] ≤ 64)) := by
  rw [okAt_val l i hi]
  cases i with
  | zero =>
    rw [ahd_zero, Bool.eq_iff_iff]
    simp
    omega
  | succ j =>
    have h1 : okAt l j = true := List.all_eq_true.1 h j (List.mem_range.2 (Nat.lt_succ_self j))
    rw [okAt_val l j (by omega)] at h1
    simp only [Bool.and_eq_true, Bool.or_eq_true, decide_eq_true_eq] at h1
    have e : l.getD (j + 1 - 1) 0 = l[j] := by rw [Nat.add_sub_cancel, List.getD_eq_getElem?_getD, List.getElem?_eq_getElem (by omega)]; rfl
    rw [ahd_succ l j (by omega), Bool.eq_iff_iff]
    simp only [Bool.and_eq_true, Bool.or_eq_true, decide_eq_true_eq, e]
    omega
end Sn

set_option maxHeartbeats 4000000 in
theorem lMembers_any (l : List Int) (v : Value) (w : World) (h : NR w v l) :
    Calls Tryd.prog 12 #[v] w fun e w' => e = .returned (.bool (memB l)) ∧ Below w.heap.size w w' := by
  obtain ⟨a, cap, rfl, hc1, hc2, -, -⟩ := h.form
  obtain ⟨N, hN⟩ : ∃ N, N = l.length := ⟨_, rfl⟩
  have HN := hide_p hN
  have HR : Hid (NR w (.slice a N cap) l) := by rw [hN]; exact h
  obtain ⟨R, hR⟩ : ∃ R, R = memB l := ⟨_, rfl⟩
  have HRR := hide_p hR
  rw [← hR, ← hN]
  rw [← hN] at hc1
  have HE : Hid (N = l.length → (List.range N).all (okAt l) = true → R = decide (0 < N)) := fun e h1 => by rw [hR, e]; rw [e] at h1; exact mem_end h1
  clear h hN hR
  go_enter Tryd.func12, Tryd.ntmps12
  go_wp2_with fail
  go_loopw [3, 8] (fun t3 t8 wr => ∃ i : Nat, i ≤ N ∧ t3 = .int .i64 (ahd l i) ∧ t8 = .int .i64 i ∧ Hid ((List.range i).all (okAt l) = true) ∧ Hid (Below w.heap.size w wr)) (fun _ t8 _ => N - (intOf t8).toNat)
  case atStart => exact ⟨0, Nat.zero_le _, rfl, rfl, rfl, Below.refl _ _⟩
  case round =>
    obtain ⟨i, hi, rfl, rfl, HA, HB⟩ := hrel
    by_cases c : i < N
    · have i1 : i < l.length := by rw [← HN.out]; exact c
      obtain ⟨-, g, o, rfl, hl⟩ := (HR.out.kept HB.out (Nat.le_refl _)).get i1
      have e0 := hl i i1
      have hok := okAt_ahd i1 HA.out
      have hah := ahd_succ l i i1
      have HBAD := (show Hid (okAt l i = false → R = false) from fun e => by rw [HRR.out]; exact mem_bad i1 e)
      have HGO := (show Hid (okAt l i = true → (List.range (i + 1)).all (okAt l) = true) from fun e => range_ok HA.out e)
      clear hl
      generalize l[i] = x at *
      generalize ahd l i = y at *
      by_cases b1 : x ≤ y
      · have hR : R = false := HBAD.out (by rw [hok]; simp; omega)
        clear HBAD HGO HA hok hah
        subst hR
        go_wp2
        go_ret
        exact ⟨rfl, HB.out⟩
      · by_cases b2 : x > 64
        · have hR : R = false := HBAD.out (by rw [hok]; simp; omega)
          clear HBAD HGO HA hok hah
          subst hR
          go_wp2
          go_ret
          exact ⟨rfl, HB.out⟩
        · have HG := hide_p (HGO.out (by rw [hok]; simp; omega))
          have HAH := (show Hid (.int .i64 x = Value.int .i64 (ahd l (i + 1))) from by show _ = _; rw [hah])
          clear HBAD HGO HA hok hah
          go_wp2
          go_roundw
          case rel => exact ⟨i + 1, by omega, HAH.out, by go_num, HG, HB⟩
          case measure => simp [intOf]; omega
    · have e : i = N := by omega
      have hRR := HE.out HN.out (by rw [← e]; exact HA.out)
      have HB' := HB
      subst e hRR
      clear HA HB HRR HE
      go_wp2
      go_ret
      exact ⟨by first | rfl | simp, HB'.out⟩

end Go.Proofs.YtjngknnkffbnmaaDoor
namespace Go.Proofs.YtjngknnkffbnmaaDoor
set_option maxRecDepth 100000
open Go.RowKit Crc Sn

namespace Sn
/-- A row of one's own, whose first i cells are laid. -/
def RowZ (w : World) (B : Nat) (v : Value) (ts : List Tr) (i : Nat) : Prop :=
  ∃ (xs : List Value) (ks : Nat → Int) (ns : Nat → Nat) (ss : Nat → ByteArray) (us : Nat → Value), w.ownsRow B 26 4 v ts.length xs ∧ Quads xs i ks ns ss us ∧
    ∀ j (h : j < ts.length), j < i → CS w (fun k => B ≤ k ∧ v.ownBlock ≠ some k ∧ k < w.heap.size) ts[j] (cellV (ks j) (ns j) (ss j) (us j))
theorem RowZ.done {w : World} {B : Nat} {v : Value} {ts : List Tr} (h : RowZ w B v ts ts.length) : TW w B v ts := by
  obtain ⟨xs, ks, ns, ss, us, h1, h2, h3⟩ := h
  exact ⟨xs, ks, ns, ss, us, h1, h2, fun i hi => (h3 i hi hi).widen (fun k hk => ⟨hk.1, hk.2.1, hk.2.2, trivial⟩)⟩
theorem RowZ.far {w w' : World} {B g N : Nat} {ts : List Tr} {i : Nat} (h : RowZ w B (.slice (some ⟨g, 0, none⟩) N N) ts i) (hb : Below w.heap.size w w') : RowZ w' B (.slice (some ⟨g, 0, none⟩) N N) ts i := by
  obtain ⟨xs, ks, ns, ss, us, h1, h2, h3⟩ := h
  exact ⟨xs, ks, ns, ss, us, ownsRow_far h1 (hb.block g (h1.lt g rfl).2) rfl, h2, fun j hj hji => ((h3 j hj hji).kept (fun q hq => hb.block q hq.2.2)).widen (fun q hq => ⟨hq.1, hq.2.1, Nat.lt_of_lt_of_le hq.2.2 hb.size⟩)⟩
theorem RowZ.at {w : World} {B g N : Nat} {ts : List Tr} {i : Nat} (h : RowZ w B (.slice (some ⟨g, 0, none⟩) N N) ts i) (hN : N = ts.length) (j : Nat) (hj : j < ts.length * 4) : w.frozen? ⟨g, j, none⟩ = false ∧ ∃ u, w.cell? ⟨g, j, none⟩ = some u := by
  subst hN
  obtain ⟨xs, ks, ns, ss, us, h1, -, -⟩ := h
  refine ⟨h1.frozenAt j, xs[j]'(by have := h1.1; omega), ?_⟩
  rw [h1.cellAt j hj]
  exact List.getElem?_eq_getElem (by have := h1.1; omega)
theorem RowZ.lt {w : World} {B g N : Nat} {ts : List Tr} {i : Nat} (h : RowZ w B (.slice (some ⟨g, 0, none⟩) N N) ts i) : g < w.heap.size := by
  obtain ⟨xs, ks, ns, ss, us, h1, -, -⟩ := h
  exact (h1.lt g rfl).2
theorem quads_put1 {xs : List Value} {i : Nat} {ks : Nat → Int} {ns : Nat → Nat} {ss : Nat → ByteArray} {us : Nat → Value} (h : Quads xs i ks ns ss us) (hl : i * 4 + 3 < xs.length) (k : Int) (n : Nat) (s : ByteArray) (u : Value) :
    Quads ((((xs.set (i * 4) (.int .i64 k)).set (i * 4 + 1) (.int .u64 n)).set (i * 4 + 2) (.string s)).set (i * 4 + 3) u) (i + 1) (fun j => if j = i then k else ks j) (fun j => if j = i then n else ns j) (fun j => if j = i then s else ss j) (fun j => if j = i then u else us j) := by
  refine ⟨?_, ?_, ?_, ?_⟩
  all_goals
    intro j hj
    by_cases c : j = i
    · subst c
      simp only [List.getElem?_set, List.length_set, if_true]
      repeat (first | rw [if_neg (by omega)] | rw [if_pos (by omega)])
    · simp only [List.getElem?_set, c, if_false]
      repeat rw [if_neg (by omega)]
      first
        | exact h.q0 j (by omega)
        | exact h.q1 j (by omega)
        | exact h.q2 j (by omega)
        | exact h.q3 j (by omega)
/-- One more is laid in its place. -/
theorem RowZ.step {w w2 W : World} {B g N : Nat} {ts : List Tr} {i : Nat} {k : Int} {n : Nat} {s : ByteArray} {u : Value} {t : Tr}
    (h : RowZ w B (.slice (some ⟨g, 0, none⟩) N N) ts i) (hN : N = ts.length) (hi : i < ts.length) (ht : ts[i] = t) (hb : Below w.heap.size w w2) (hc : CS w2 (fun k => w.heap.size ≤ k) t (cellV k n s u))
    (hW : W = (((w2.setCell ⟨g, i * 4, none⟩ (.int .i64 k)).setCell ⟨g, i * 4 + 1, none⟩ (.int .u64 n)).setCell ⟨g, i * 4 + 2, none⟩ (.string s)).setCell ⟨g, i * 4 + 3, none⟩ u) :
    RowZ W B (.slice (some ⟨g, 0, none⟩) N N) ts (i + 1) := by
  subst hN
  obtain ⟨xs, ks', ns', ss', us', h1, h2, h3⟩ := h
  have hlt := h1.lt g rfl
  have hsz := hb.size
  have hlen := h1.1
  have r0 : w2.ownsRow B 26 4 (.slice (some ⟨g, 0, none⟩) ts.length ts.length) ts.length xs := ownsRow_far h1 (hb.block g hlt.2) rfl
  have r1 := (r0.stored (i * 4) (.int .i64 k)).1
  have r2 := (r1.stored (i * 4 + 1) (.int .u64 n)).1
  have r3 := (r2.stored (i * 4 + 2) (.string s)).1
  have r4 := (r3.stored (i * 4 + 3) u).1
  have hoth : ∀ j, j ≠ g → W.heap[j]? = w2.heap[j]? := by
    intro j hj
    rw [hW, heap_setCell_other _ _ _ _ hj, heap_setCell_other _ _ _ _ hj, heap_setCell_other _ _ _ _ hj, heap_setCell_other _ _ _ _ hj]
  have hWs : W.heap.size = w2.heap.size := by rw [hW]; simp
  refine ⟨_, _, _, _, _, by rw [hW]; exact r4, quads_put1 h2 (by omega) k n s u, fun j hj hji => ?_⟩
  by_cases c : j = i
  · subst c
    simp only [if_true]
    rw [ht]
    refine (hc.real.kept (w' := W) (fun q hq => hoth q (by omega))).widen (fun q hq => ⟨by omega, fun e => ?_, by omega⟩)
    simp [Value.ownBlock] at e
    omega
  · simp only [c, if_false]
    refine ((h3 j hj (by omega)).kept (w' := W) (fun q hq => ?_)).widen (fun q hq => ⟨hq.1, hq.2.1, by omega⟩)
    rw [hoth q (fun e => hq.2.1 (by rw [e]; rfl))]
    exact hb.block q hq.2.2
/-- What a list's end is. -/
theorem mcell_end {w wr : World} {N : Nat} {ts : List Tr} (hN : N = ts.length) (hrc : Rc wr w.heap.size) (hR : RowZ wr (w.heap.size + 1) (.slice (some ⟨w.heap.size + 1, 0, none⟩) N N) ts N) (hb : Below w.heap.size w wr) (W : World)
    (hW : W = (((wr.setCell ⟨w.heap.size, 0, none⟩ (.int .i64 2)).setCell ⟨w.heap.size, 1, none⟩ (.int .u64 (0 : Nat))).setCell ⟨w.heap.size, 2, none⟩ (.string ⟨#[]⟩)).setCell ⟨w.heap.size, 3, none⟩ (.slice (some ⟨w.heap.size + 1, 0, none⟩) N N)) :
    W.heap[w.heap.size]? = some (.cells #[.int .i64 2, .int .u64 (0 : Nat), .string ⟨#[]⟩, .slice (some ⟨w.heap.size + 1, 0, none⟩) N N] 26 (0, 0)) ∧ Copd (lisT ts) w (.returned (.agg #[.int .i64 2, .int .u64 (0 : Nat), .string ⟨#[]⟩, .slice (some ⟨w.heap.size + 1, 0, none⟩) N N])) W := by
  obtain ⟨y1, y2⟩ := hrc.set 2 0 ⟨#[]⟩ _ hW
  refine ⟨y1, _, rfl, ?_, ?_⟩
  · have hR2 : RowZ wr (w.heap.size + 1) (.slice (some ⟨w.heap.size + 1, 0, none⟩) N N) ts ts.length := by rw [← hN]; exact hR
    have := hR2.done.cs hN 2 0 ⟨#[]⟩ (by decide) (by decide) (by decide)
    exact (this.kept (w' := W) (fun k hk => y2 k (by omega))).widen (fun k hk => by omega)
  · rw [hW]; exact (((hb.setCell (Nat.le_refl _) _).setCell (Nat.le_refl _) _).setCell (Nat.le_refl _) _).setCell (Nat.le_refl _) _
end Sn

set_option maxHeartbeats 4000000 in
theorem membersCell_any (l : List Int) (v : Value) (w : World) (h : NR w v l) (hlen : l.length ≤ 1000000) :
    Calls Tryd.prog 28 #[v] w (Copd (memT l) w) := by
  obtain ⟨i0, hi0, hz0, hz1, hz2⟩ := info_parts info25b
  obtain ⟨a, cap, rfl, hc1, hc2, -, -⟩ := h.form
  obtain ⟨N, hN⟩ : ∃ N, N = l.length := ⟨_, rfl⟩
  have HN := hide_p hN
  rw [← hN] at hlen hc1
  obtain ⟨ts, hts⟩ : ∃ ts, ts = l.map numT := ⟨_, rfl⟩
  have HTS := hide_p hts
  have HNT : Hid (N = ts.length) := by show _ = _; rw [hts, List.length_map]; exact hN
  have HR : Hid (NR w (.slice a N cap) l) := by rw [hN]; exact h
  rw [← hN]
  have HX : Hid (∀ (n : Nat) (w : World), Calls Tryd.prog 27 #[.int .u64 n] w fun e w' => e = .returned (.agg #[.int .i64 0, .int .u64 n, .string nob, .slice none 0 0]) ∧ Below w.heap.size w w') := cnumber_any
  unfold memT
  rw [← hts]
  obtain ⟨w1, hw1⟩ : ∃ w1, w1 = w.alloc (.cells #[.int .i64 0, .int .u64 0, .string ⟨#[]⟩, .slice none 0 0] 26) := ⟨_, rfl⟩
  have HRC : Hid (Rc w1 w.heap.size) := by show Rc _ _; rw [hw1]; exact heap_alloc_new _ _
  have HB1 : Hid (Below w.heap.size w w1) := by show Below _ _ _; rw [hw1]; exact (Below.refl _ _).alloc (Nat.le_refl _) _
  have hs1 : w1.heap.size = w.heap.size + 1 := by rw [hw1]; simp
  have HM : Hid (∀ w2 xs, w2.ownsRow (w.heap.size + 1) 26 4 (.slice (some ⟨w.heap.size + 1, 0, none⟩) N N) N xs → w1.grownBy w2 none → RowZ w2 (w.heap.size + 1) (.slice (some ⟨w.heap.size + 1, 0, none⟩) N N) ts 0 ∧ Below (w.heap.size + 1) w1 w2) := by
    intro w2 xs q1 q2
    refine ⟨⟨xs, fun _ => 0, fun _ => 0, fun _ => nob, fun _ => .slice none 0 0, by rw [← HNT.out]; exact q1, ⟨fun i h => absurd h (Nat.not_lt_zero _), fun i h => absurd h (Nat.not_lt_zero _), fun i h => absurd h (Nat.not_lt_zero _), fun i h => absurd h (Nat.not_lt_zero _)⟩, fun j _ h => absurd h (Nat.not_lt_zero _)⟩, (Below.refl _ w1).grown q2 (by omega) (fun k hk => by cases hk)⟩
  clear h hN hts
  go_enter Tryd.func28, Tryd.ntmps28
  go_upto_region 1 with fail
  rw [← hw1]
  clear hw1
  go_wp2_with (at_make; refine wpList_make_full _ rfl _ _ 24 rfl (w.heap.size + 1) 26 i0 _ 4 Tryd.underlying24 hi0 hz0 hz1 .i64 .i64 _ _ N rfl rfl rfl rfl (by rw [hz2]; omega) (by unfold maxLen; omega) (by omega) ?_)
  intro w2 q1 q2
  obtain ⟨q3, q4⟩ := HM.out w2 _ q1 q2
  have HF2 := hide_p q3
  have HB2 := hide_p q4
  clear q1 q2 q3 q4 HM
  go_wp2_with fail
  go_loopw [11] (fun t11 wr => ∃ i : Nat, i ≤ N ∧ t11 = .int .i64 i ∧ Hid (RowZ wr (w.heap.size + 1) (.slice (some ⟨w.heap.size + 1, 0, none⟩) N N) ts i) ∧ Hid (Below (w.heap.size + 1) w1 wr)) (fun t11 _ => N - (intOf t11).toNat)
  case atStart => exact ⟨0, Nat.zero_le _, rfl, HF2, HB2⟩
  case round =>
    obtain ⟨i, hi, rfl, HF, HB⟩ := hrel
    have hszr := HB.out.size
    have HBw : Hid (Below w.heap.size w wr) := HB1.out.trans (HB.out.mono (by omega))
    clear HF2 HB2
    by_cases c : i < N
    · have i1 : i < l.length := by rw [← HN.out]; exact c
      have hbw := HBw.out
      obtain ⟨-, g, o, rfl, hl⟩ := (HR.out.kept hbw (Nat.le_refl _)).get i1
      have e0 := hl i i1
      have hti : ∃ h : i < ts.length, ts[i] = numT l[i] := by
        have e := HTS.out
        subst e
        exact ⟨by rw [List.length_map]; exact i1, by rw [List.getElem_map]⟩
      have HTI := (show Hid (∃ h : i < ts.length, ts[i] = numT l[i]) from hti)
      clear hti hl
      generalize l[i] = z at *
      have hz := uw_wrap z
      have hcall := HX.out (uw z) wr
      clear hbw
      go_wp2_with fail
      refine hcall.mono ?_
      rintro e w5 ⟨rfl, hb5⟩
      have hsz5 := hb5.size
      have q1 : CS w5 (fun k => wr.heap.size ≤ k) (numT z) (cellV 0 (uw z) nob (.slice none 0 0)) := cs_numT z
      have HF5 := hide_p (HF.out.far hb5)
      have hg5 := HF5.out.lt
      obtain ⟨f0, u0, c0⟩ := HF5.out.at HNT.out (i * 4) (by have := HNT.out; omega)
      obtain ⟨f1, u1, c1⟩ := HF5.out.at HNT.out (i * 4 + 1) (by have := HNT.out; omega)
      obtain ⟨f2, u2, c2⟩ := HF5.out.at HNT.out (i * 4 + 2) (by have := HNT.out; omega)
      obtain ⟨f3, u3, c3⟩ := HF5.out.at HNT.out (i * 4 + 3) (by have := HNT.out; omega)
      have HST : Hid (∀ W : World, W = (((w5.setCell ⟨w.heap.size + 1, i * 4, none⟩ (.int .i64 0)).setCell ⟨w.heap.size + 1, i * 4 + 1, none⟩ (.int .u64 (uw z))).setCell ⟨w.heap.size + 1, i * 4 + 2, none⟩ (.string nob)).setCell ⟨w.heap.size + 1, i * 4 + 3, none⟩ (.slice none 0 0) → RowZ W (w.heap.size + 1) (.slice (some ⟨w.heap.size + 1, 0, none⟩) N N) ts (i + 1) ∧ Below (w.heap.size + 1) w1 W) := by
        intro W hW
        obtain ⟨ht1, ht2⟩ := HTI.out
        refine ⟨HF.out.step HNT.out ht1 ht2 hb5 q1 hW, ?_⟩
        have : Below (w.heap.size + 1) w1 w5 := HB.out.trans (hb5.mono (by omega))
        rw [hW]
        exact (((this.setCell (Nat.le_refl _) _).setCell (Nat.le_refl _) _).setCell (Nat.le_refl _) _).setCell (Nat.le_refl _) _
      clear hcall q1 hb5
      go_wp2
      obtain ⟨y1, y2⟩ := HST.out _ rfl
      go_roundw
      case rel => exact ⟨i + 1, by omega, by go_num, y1, y2⟩
      case measure => simp [intOf]; omega
    · have e : i = N := by omega
      subst e
      have hrc4 : Rc wr w.heap.size := (HB.out.block _ (by omega)).trans HRC.out
      have c0 := hrc4.cell 0
      have c1 := hrc4.cell 1
      have c2 := hrc4.cell 2
      have c3 := hrc4.cell 3
      have f0 := hrc4.free 0
      have f1 := hrc4.free 1
      have f2 := hrc4.free 2
      have f3 := hrc4.free 3
      have HE := hide_p (mcell_end HNT.out hrc4 HF.out HBw.out)
      clear hrc4
      go_wp2
      obtain ⟨y1, y2⟩ := HE.out _ rfl
      exact bodyPost_ret (results_cell_row rfl _ _ w.heap.size _ _ _ _ rfl y1 Tryd.underlying26 rfl info25) rfl y2
end Go.Proofs.YtjngknnkffbnmaaDoor
