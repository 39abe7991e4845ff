/-
  HpRtab, HpRhas, HpRslot, HpAsk
-/
import Derived.BigQuiet
import Derived.Test.YthmocdabakkfhaaGreatDoorZ26

/-
  Layer 9: the reference's Table.
-/
namespace Go.Proofs.YthmocdabakkfhaaGreatDoor
set_option maxRecDepth 100000
open Go.RowKit Flo

def tableM (lim : Nat) (L : List Om) : (Int × Int) × List Om := if usedM L < lim then ((((L.length + 1 : Nat) : Int), 0), L ++ [⟨5, 0, 0, V0, [], [], []⟩]) else ((0, 2), L)
theorem usedR_snoc (rs : List Rr) (r : Rr) : usedR (rs ++ [r]) = usedR rs + r.om.wt := by
  unfold usedR
  rw [List.map_append, List.sum_append]
  simp
/-- An object laid behind the copy of the row, and the row laid into the heap. -/
theorem Cpd.snoc {w w2 w3 w4 wa : World} {db lim c c3 : Nat} {R : Value} {rs : List Rr} {Q : Nat → Prop} {a a3 : Option Addr} {r : Rr} (h : Rv w db lim R rs Q) (k : Cpd w w2 rs a c) (hb : Below w2.heap.size w2 wa)
    (hown : w3.ownsRow w.heap.size 39 10 (.slice a3 (rs.length + 1) c3) (rs.length + 1) (rC rs ++ r.cells)) (hg : wa.grownBy w3 (Value.slice a rs.length c).ownBlock)
    (hw : w4.heap = (w3.setCell ⟨db, 0, none⟩ (.slice a3 (rs.length + 1) c3)).heap) (ho : w4.os = w3.os) (ht : w4.tape = w3.tape) (hp : w4.output = w3.output)
    (hv : Rrv wa (fun g => (Q g ∧ g ≠ db) ∨ (w.heap.size ≤ g ∧ g < wa.heap.size)) r) (hne : ∀ x, r.kv.ownBlock = some x ∨ r.vv.ownBlock = some x ∨ r.sv.ownBlock = some x → (Value.slice a rs.length c).ownBlock ≠ some x ∧ x ≠ db) (hwt : usedR rs + r.om.wt ≤ lim) : RP w db lim (rs.map Rr.om ++ [r.om]) Q w4 := by
  have hdb := h.lt db h.qd
  have hbl : ∀ x, (Value.slice a rs.length c).ownBlock = some x → w.heap.size ≤ x := fun x hx => (World.ownsRow.lt k.row x hx).1
  have hs1 := k.low.size
  have hs2 := hb.size
  have hs3 := hg.size
  have lowa : Below w.heap.size w wa := k.low.trans (hb.mono k.low.size)
  have x3 : Wx (fun j => (Value.slice a rs.length c).ownBlock = some j) wa w3 := ⟨hg.os, hg.tape, hg.output, hg.size, fun j hj hx => hg.block j hj (fun e => hx e.symm)⟩
  have low3 : Below w.heap.size w w3 := lowa.trans (x3.below hbl (by omega))
  obtain ⟨W4, hW4⟩ : ∃ W4, W4 = w3.setCell ⟨db, 0, none⟩ (.slice a3 (rs.length + 1) c3) := ⟨_, rfl⟩
  rw [← hW4] at hw
  have x4 : Wx (fun j => j = db) w3 W4 := by rw [hW4]; exact Wx.set w3 0 _ rfl
  have x5 : Wx (fun _ => False) W4 w4 := ⟨by rw [ho, x4.os], by rw [ht, x4.tape], by rw [hp, x4.output], by rw [hw]; exact Nat.le_refl _, fun j _ _ => by rw [hw]⟩
  have hs4 : W4.heap.size = w3.heap.size := by rw [hW4]; exact World.size_setCell _ _ _
  have hs5 : w4.heap.size = w3.heap.size := by rw [hw, hs4]
  have hall : Wx (fun j => j = db) w w4 := ((Wx.of_below _ low3).trans x4 (fun j hj => Or.inl hj)).trans x5 (fun j hj => hj.elim)
  have x45 : Wx (fun j => j = db) w3 w4 := x4.trans x5 (fun j hj => hj.elim)
  have row4 : w4.ownsRow w.heap.size 39 10 (.slice a3 (rs ++ [r]).length c3) (rs ++ [r]).length (rC (rs ++ [r])) := by
    rw [rC_append, List.length_append, List.length_singleton, show rC [r] = r.cells by simp [rC]]
    refine rowStay hown (fun j hj => x45.block j (World.ownsRow.lt hown j hj).2 (fun e => ?_))
    have := (World.ownsRow.lt hown j hj).1
    omega
  have hc : ∀ o, w4.cell? ⟨db, o, none⟩ = W4.cell? ⟨db, o, none⟩ := fun o => World.cell?_of_block (w := W4) (a := ⟨db, o, none⟩) (by rw [hw])
  have hmap : rs.map Rr.om ++ [r.om] = (rs ++ [r]).map Rr.om := by simp
  rw [hmap]
  refine h.lay hall ?_ ?_ (fun o => ?_) row4 (fun j x hx => ?_) (by rw [usedR_snoc]; exact hwt)
  · rw [hc, hW4, List.length_append, List.length_singleton]
    exact World.cell?_setCell_same _ _ _ ((low3.cell hdb).trans h.c0)
  · rw [hc, hW4, World.cell?_setCell_other _ _ _ _ (by simp)]
    exact (low3.cell hdb).trans h.c1
  · rw [World.frozen?_of_block (w := W4) (a := ⟨db, o, none⟩) (by rw [hw]), hW4, World.frozen?_setCell]
    exact (low3.frozen hdb).trans (h.free o)
  · rcases Nat.lt_or_ge j rs.length with q | q
    · rw [List.getElem?_append_left q] at hx
      exact Or.inl ⟨j, hx⟩
    · right
      rw [List.getElem?_append_right q] at hx
      have hxr : x = r := by
        rcases Nat.eq_zero_or_pos (j - rs.length) with e | e
        · rw [e] at hx; exact (Option.some.inj hx).symm
        · rw [List.getElem?_eq_none (by simp; omega)] at hx; cases hx
      subst hxr
      have x34 : Wx (fun j => (Value.slice a rs.length c).ownBlock = some j ∨ j = db) wa w4 := (x3.more (fun j hj => Or.inl (Or.inl hj))).trans x45 (fun j hj => Or.inl (Or.inr hj))
      refine Rrv.more (Q := fun y => ((Q y ∧ y ≠ db) ∨ (w.heap.size ≤ y ∧ y < wa.heap.size)) ∧ (Value.slice a rs.length c).ownBlock ≠ some y ∧ y ≠ db) ?_ (fun y hy => by
        rcases hy.1 with t | t
        · exact Or.inl t
        · exact Or.inr ⟨t.1, by omega⟩)
      refine Rrv.wx (X := fun j => (Value.slice a rs.length c).ownBlock = some j ∨ j = db) ⟨hv.k, hv.v, hv.s, fun y hy => ⟨hv.own y hy, hne y hy⟩, hv.len⟩ x34 (fun y hy hcc => ?_)
      rcases hcc with t | t
      · exact hy.2.1 t
      · exact hy.2.2 t

/-- A new table, with no rows. -/
def rTab0 : Rr := ⟨⟨5, 0, 0, V0, [], [], []⟩, .slice none 0 0, .slice none 0 0, .slice none 0 0⟩
theorem rTab0_v (w : World) (Q : Nat → Prop) : Rrv w Q rTab0 := ⟨World.ownsRow_nil _ _ _ _, World.ownsRow_nil _ _ _ _, World.ownsRow_nil _ _ _ _, fun g hg => by simp [rTab0, Value.ownBlock] at hg, rfl⟩
theorem src_one {w : World} {B : Nat} {cs : Array Value} {t : TypeId} {fr : Nat × Nat} (hb : w.heap[B]? = some (.cells cs t fr)) {size : Nat} (hs : cs.size = size) (h1 : ∀ u ∈ cs.toList, u.oneCell' = true) : Src w size (.slice (some ⟨B, 0, none⟩) 1 1) 1 cs.toList :=
  Or.inr ⟨_, _, rfl, by rw [Nat.one_mul, ← hs]; simp, World.news_of_block hb, h1⟩

set_option maxHeartbeats 2000000 in
theorem rtable_any {w : World} {db lim : Nat} {R : Value} {rs : List Rr} {Q : Nat → Prop} (h : Rv w db lim R rs Q) :
    Calls Tryz.prog 27 #[.pointer (some ⟨db, 0, none⟩)] w fun e w' => e = .returned (.tuple #[.int .i64 (tableM lim (rs.map Rr.om)).1.1, .int .i64 (tableM lim (rs.map Rr.om)).1.2]) ∧ RP w db lim (tableM lim (rs.map Rr.om)).2 Q w' := by
  have HU : Hid (∀ q, Calls Tryz.prog 44 #[.pointer (some ⟨db, 0, none⟩)] (w.drewN q) fun e w' => e = .returned (.int .i64 ((usedR rs : Nat) : Int)) ∧ ∃ m, w' = (w.drewN q).drewN m) := fun q => rused_any (h.below (hp_drewN w q))
  have hc1 := h.c1
  have hul : usedR rs ≤ 1048576 := Nat.le_trans h.hu h.hl
  have hll := h.hl
  by_cases c : usedR rs < lim
  · have hm : tableM lim (rs.map Rr.om) = ((((rs.length + 1 : Nat) : Int), 0), rs.map Rr.om ++ [rTab0.om]) := by unfold tableM; rw [used_rom, if_pos c, List.length_map]; rfl
    rw [hm]
    have c2 : ¬ ((usedR rs : Int) + 1 > (lim : Int)) := by omega
    have c3 : ((usedR rs : Int) + 1 > (lim : Int)) = False := by simpa using c2
    have HV : Hid (Rv w db lim R rs Q) := hide_p h
    have HC : Hid (usedR rs < lim) := c
    clear h hm c
    obtain ⟨u, hu⟩ : ∃ u, u = usedR rs := ⟨_, rfl⟩
    rw [← hu] at HU hul c2 c3 HC
    have HUU : Hid (u = usedR rs) := hu
    clear hu
    go_enter Tryz.func27, Tryz.ntmps27
    go_wp2_with fail
    go_quiet ((go_at_call 44; exact Calls.quiet_of (HU.out _)))
    obtain ⟨wq, hwq⟩ : ∃ wq, wq = w.drewN nq := ⟨_, rfl⟩
    have HBQ : Hid (Below w.heap.size w wq) := by rw [hwq]; exact hp_drewN w nq
    rw [← hwq]
    clear HU hc1 hwq
    have hv := HV.out.below HBQ.out
    obtain ⟨i0, hi0, hz0, hz1, hz2⟩ := objInfo
    obtain ⟨a0, cap, hR, hlen, a0c, hown, hsrc, hcp⟩ := cp_ask hv
    have HOWN := hide_p hown
    have HSRC := hide_p hsrc
    have HCP := hide_p hcp
    have hdb : db < wq.heap.size := hv.lt db hv.qd
    have hfd := hv.free 0
    have HV2 := hide_p hv
    clear hown hsrc hcp hR hv HV
    obtain ⟨n, hn⟩ : ∃ n, n = rs.length := ⟨_, rfl⟩
    have HN := hide_p hn
    rw [← hn] at hlen HSRC HCP a0c
    clear hn
    go_wp2_with (at_builtin; refine wpList_append_src _ rfl _ _ 29 rfl wq.heap.size 39 i0 _ 10 136 Tryz.underlying29 hi0 hz0 hz1 hz2 rfl (by decide) _ 0 [] rfl HOWN.out _ n (rC rs) rfl HSRC.out (by unfold maxLen; omega) (by omega) (by simp) ?_)
    intro a2 c2' w2 q1 q2 q3
    have k := HCP.out w2 a2 c2' q1 q2
    have HK := hide_p k
    clear q1 q2 q3 HOWN HSRC HCP
    have HOWN2 : Hid ((w2.alloc (.cells #[.int .i64 5, .slice none 0 0, .slice none 0 0, .int .i64 0, .int .u64 0, .string ⟨#[]⟩, .int .i64 0, .int .i64 0, .int .i64 0, .slice none 0 0] 39)).ownsRow wq.heap.size 39 10 (.slice a2 n c2') n (rC rs)) := by
      have := World.ownsRow.alloc k.row (.cells #[.int .i64 5, .slice none 0 0, .slice none 0 0, .int .i64 0, .int .u64 0, .string ⟨#[]⟩, .int .i64 0, .int .i64 0, .int .i64 0, .slice none 0 0] 39)
      rw [HN.out]
      exact this
    have HSRC2 : Hid (Src (w2.alloc (.cells #[.int .i64 5, .slice none 0 0, .slice none 0 0, .int .i64 0, .int .u64 0, .string ⟨#[]⟩, .int .i64 0, .int .i64 0, .int .i64 0, .slice none 0 0] 39)) 10 (.slice (some ⟨w2.heap.size, 0, none⟩) 1 1) 1 rTab0.cells) :=
      src_one (cs := #[.int .i64 5, .slice none 0 0, .slice none 0 0, .int .i64 0, .int .u64 0, .string ⟨#[]⟩, .int .i64 0, .int .i64 0, .int .i64 0, .slice none 0 0]) (heap_alloc_new w2 _) rfl (by intro u hu; simp at hu; rcases hu with rfl | rfl | rfl | rfl | rfl | rfl | rfl <;> rfl)
    have hs2 : wq.heap.size ≤ w2.heap.size := k.low.size
    clear k
    go_wp2_with (at_builtin; refine wpList_append_src _ rfl _ _ 29 rfl wq.heap.size 39 i0 _ 10 136 Tryz.underlying29 hi0 hz0 hz1 hz2 rfl (by decide) _ n (rC rs) rfl HOWN2.out _ 1 rTab0.cells rfl HSRC2.out (by unfold maxLen; omega) (by omega) (by simp; omega) ?_)
    intro a3 c3' w3 q1 q2 q3
    have hbl : ∀ x, (Value.slice a2 n c2').ownBlock = some x → wq.heap.size ≤ x := fun x hx => by
      have := (World.ownsRow.lt HK.out.row x (by rw [← HN.out]; exact hx)).1
      exact this
    have d0 : w3.cell? ⟨db, 0, none⟩ = some (.slice a0 n cap) := by
      rw [q2.cell_far ⟨db, 0, none⟩ (by simp; omega) (fun e => by have := hbl db e.symm; omega), World.cell?_alloc_lt _ _ _ (by show db < _; omega)]
      exact (HK.out.low.cell hdb).trans a0c
    have d1 : w3.frozen? ⟨db, 0, none⟩ = false := by
      rw [q2.frozen_far ⟨db, 0, none⟩ (by simp; omega) (fun e => by have := hbl db e.symm; omega)]
      exact (((Below.refl w2.heap.size w2).alloc (Nat.le_refl _) _).frozen (by show db < _; omega)).trans ((HK.out.low.frozen hdb).trans hfd)
    have HRP : Hid (RP wq db lim (rs.map Rr.om ++ [rTab0.om]) Q (w3.setCell ⟨db, 0, none⟩ (.slice a3 (n + 1) c3'))) := by
      have hk := HK.out
      rw [HN.out] at q1 q2 ⊢
      refine Cpd.snoc (r := rTab0) HV2.out hk ((Below.refl _ _).alloc (Nat.le_refl _) _) q1 q2 rfl rfl rfl rfl (rTab0_v _ _) (fun x hx => by simp [rTab0, Value.ownBlock] at hx) ?_
      have h1 : rTab0.om.wt = 1 := rfl
      have := HC.out
      have := HUU.out
      omega
    clear q1 q2 q3 HOWN2 HSRC2 HK HV2 hbl a0c hfd
    go_wp2
    go_ret2
    exact ⟨by rw [← HN.out]; rfl, RP.from HRP.out HBQ.out⟩
  · have hm : tableM lim (rs.map Rr.om) = ((0, 2), rs.map Rr.om) := by unfold tableM; rw [used_rom, if_neg c]
    rw [hm]
    have c2 : ((usedR rs : Int) + 1 > (lim : Int)) := by omega
    have HV : Hid (∀ q, RP w db lim (rs.map Rr.om) Q (w.drewN q)) := fun q => h.rp (hp_drewN w q)
    clear h hm c
    generalize usedR rs = u at *
    go_enter Tryz.func27, Tryz.ntmps27
    go_wp2_with fail
    go_quiet ((go_at_call 44; exact Calls.quiet_of (HU.out _)))
    clear HU
    go_wp2
    go_ret2
    exact ⟨rfl, HV.out nq⟩

end Go.Proofs.YthmocdabakkfhaaGreatDoor

/-
  Layer 9: the reference's has (a slot).
-/
namespace Go.Proofs.YthmocdabakkfhaaGreatDoor
set_option maxRecDepth 100000
open Go.RowKit Flo

def slotOk (rs : List Rr) (o i : Int) : Bool := match rAt rs o with
  | none => false
  | some r => decide (0 ≤ i ∧ i < r.om.sl.length)

set_option maxHeartbeats 1000000 in
theorem rhasS_any {w : World} {db lim : Nat} {R : Value} {rs : List Rr} {Q : Nat → Prop} (h : Rv w db lim R rs Q) (o i : Int) :
    Calls Tryz.prog 66 #[.pointer (some ⟨db, 0, none⟩), .int .i64 o, .int .i64 i] w fun e w' => e = .returned (.bool (slotOk rs o i)) ∧ w' = w := by
  have HI := hide_p (ris_any h o)
  by_cases c : 1 ≤ o ∧ o ≤ rs.length
  · rw [show decide (1 ≤ o ∧ o ≤ (rs.length : Int)) = true from decide_eq_true c] at HI
    obtain ⟨r, hr⟩ := rAt_of c
    obtain ⟨k, ho, _, hk, hrk⟩ := rAt_some hr
    have hres : slotOk rs o i = decide (0 ≤ i ∧ i < r.om.sl.length) := by unfold slotOk; rw [hr]
    rw [hres]
    by_cases d : 0 ≤ i
    · obtain ⟨a, cap, hR, hf⟩ := h.form
      obtain ⟨g, rfl, _, hc⟩ := hf (by omega)
      have hc0 := h.c0
      rw [hR] at hc0
      obtain ⟨sa, sc, hsv, _⟩ := (h.ob k r hrk).s.form
      have hcs : w.cell? ⟨g, k * 10 + 9, none⟩ = some (.slice sa r.om.sl.length sc) := by
        rw [hc k r hrk 9 (by omega), ← hsv]; rfl
      have hlen : rs.length ≤ 1048576 := by have := usedR_len rs; have := h.hu; have := h.hl; omega
      have hslen : r.om.sl.length ≤ 1048576 := by have := usedR_ge rs k r hrk; have := h.hu; have := h.hl; have hw : r.om.wt = 1 + r.om.ks.length + r.om.sl.length := rfl; omega
      have hkl : (k : Int) < (rs.length : Int) := by omega
      have d2 : i ≥ 0 := d
      clear h hR hf hc hr hrk hres c hsv
      generalize rs.length = n at *
      generalize r.om.sl.length = m at *
      subst ho
      have e1 : (k : Int) + 1 - 1 = (k : Int) := by omega
      by_cases d3 : i < (m : Int)
      · rw [show decide (0 ≤ i ∧ i < (m : Int)) = true from decide_eq_true ⟨d, d3⟩]
        go_enter Tryz.func66, Tryz.ntmps66
        go_wp2_with fail
        refine HI.out.mono ?_
        rintro e w' ⟨rfl, rfl⟩
        clear HI
        go_wp2
        go_ret
        exact ⟨rfl, rfl⟩
      · rw [show decide (0 ≤ i ∧ i < (m : Int)) = false from decide_eq_false (fun q => d3 q.2)]
        go_enter Tryz.func66, Tryz.ntmps66
        go_wp2_with fail
        refine HI.out.mono ?_
        rintro e w' ⟨rfl, rfl⟩
        clear HI
        go_wp2
        go_ret
        exact ⟨by rw [← show decide (i < (m : Int)) = false from decide_eq_false (by omega)]; rfl, rfl⟩
    · rw [show decide (0 ≤ i ∧ i < (r.om.sl.length : Int)) = false from decide_eq_false (fun q => d q.1)]
      have d2 : ¬ i ≥ 0 := d
      clear h c hr hrk hres ho
      go_enter Tryz.func66, Tryz.ntmps66
      go_wp2_with fail
      refine HI.out.mono ?_
      rintro e w' ⟨rfl, rfl⟩
      clear HI
      go_wp2
      go_ret
      exact ⟨rfl, rfl⟩
  · rw [show decide (1 ≤ o ∧ o ≤ (rs.length : Int)) = false from decide_eq_false c] at HI
    rw [show slotOk rs o i = false by unfold slotOk; rw [rAt_none c]]
    clear h c
    go_enter Tryz.func66, Tryz.ntmps66
    go_wp2_with fail
    refine HI.out.mono ?_
    rintro e w' ⟨rfl, rfl⟩
    clear HI
    go_wp2
    go_ret
    exact ⟨rfl, rfl⟩

end Go.Proofs.YthmocdabakkfhaaGreatDoor

/-
  Layer 9: the reference's SetSlot.
-/
namespace Go.Proofs.YthmocdabakkfhaaGreatDoor
set_option maxRecDepth 100000
open Go.RowKit Flo

def slV (v : V4) : V4 := if v.K = 9 then v else norV v
def slotM (L : List Om) (o i : Int) (v : V4) : Int × List Om := match atM L o with
  | none => (5, L)
  | some x => if 0 ≤ i ∧ i < x.sl.length then (0, L.set (o - 1).toNat { x with sl := x.sl.set i.toNat (slV v) }) else (5, L)
theorem slotM_rs (rs : List Rr) (o i : Int) (v : V4) : (slotOk rs o i = false → slotM (rs.map Rr.om) o i v = (5, rs.map Rr.om)) ∧ ∀ r j, rAt rs o = some r → (o - 1).toNat = j → slotOk rs o i = true → slotM (rs.map Rr.om) o i v = (0, (rs.map Rr.om).set j { r.om with sl := r.om.sl.set i.toNat (slV v) }) := by
  refine ⟨fun h => ?_, fun r j hr hj h => ?_⟩
  · unfold slotM slotOk at *
    rw [atM_rs]
    cases hx : rAt rs o with
    | none => rfl
    | some r =>
      rw [hx] at h
      simp only [Option.map_some]
      rw [if_neg (of_decide_eq_false h)]
  · unfold slotM slotOk at *
    rw [atM_rs, hr]
    rw [hr] at h
    simp only [Option.map_some]
    rw [if_pos (of_decide_eq_true h), hj]

/-- An object in a box of its own. -/
def Bo (w : World) (b : Nat) (r : Rr) : Prop := w.ownsRow 0 39 10 (.slice (some ⟨b, 0, none⟩) 1 1) 1 r.cells
theorem Bo.c {w : World} {b : Nat} {r : Rr} (h : Bo w b r) (j : Nat) (hj : j < 10) : w.cell? ⟨b, j, none⟩ = r.cells[j]? := World.ownsRow.cellAt h j (by omega)
theorem Bo.f {w : World} {b : Nat} {r : Rr} (h : Bo w b r) (j : Nat) : w.frozen? ⟨b, j, none⟩ = false := owns_free h j
theorem Bo.lt {w : World} {b : Nat} {r : Rr} (h : Bo w b r) : b < w.heap.size := (World.ownsRow.lt h b rfl).2
theorem Bo.wx {w w' : World} {b : Nat} {r : Rr} {X : Nat → Prop} (h : Bo w b r) (k : Wx X w w') (hX : ¬ X b) : Bo w' b r :=
  rowStay h (fun g hg => by
    have e : b = g := by simpa [Value.ownBlock] using hg
    subst e
    exact k.block b h.lt hX)
theorem Bo.below {w w' : World} {b : Nat} {r : Rr} (h : Bo w b r) (k : Below w.heap.size w w') : Bo w' b r := h.wx (Wx.of_below (fun _ => False) k) (fun c => c)
theorem Bo.sets {w : World} {b : Nat} {r r' : Rr} (h : Bo w b r) (us : List (Nat × Value)) (hr : r'.cells = setsL r.cells 0 us) : Bo (stores w b 0 us) b r' := by
  unfold Bo
  rw [hr]
  exact owns_stores us h
theorem bo_lit (w : World) (r : Rr) (zs : Array Value) (hz : zs.toList = r.cells) : Bo (w.alloc (.cells zs 39)) w.heap.size r := by
  unfold Bo
  rw [← hz]
  exact World.ownsRow_lit (base := 0) (e := 39) (size := 10) w zs 1 (Nat.zero_le _) (by decide) (by rw [← Array.length_toList, hz]; rfl)

end Go.Proofs.YthmocdabakkfhaaGreatDoor

/-
  Layer 9: the reference's SetSlot, walked.
-/
namespace Go.Proofs.YthmocdabakkfhaaGreatDoor
set_option maxRecDepth 100000
open Go.RowKit Flo

theorem cp_ask2 {w w1 : World} {db lim : Nat} {R : Value} {rs : List Rr} {Q : Nat → Prop} (h : Rv w db lim R rs Q) (k : Below w.heap.size w w1) : ∃ a0 cap, R = .slice a0 rs.length cap ∧ rs.length ≤ 1048576 ∧ w1.cell? ⟨db, 0, none⟩ = some (.slice a0 rs.length cap) ∧
    (w1.alloc (.cells #[] 39)).ownsRow w.heap.size 39 10 (.slice (some ⟨w1.heap.size, 0, none⟩) 0 0) 0 [] ∧ Src (w1.alloc (.cells #[] 39)) 10 (.slice a0 rs.length cap) rs.length (rC rs) ∧
    ∀ w2 a2 c2, w2.ownsRow w.heap.size 39 10 (.slice a2 rs.length c2) rs.length (rC rs) → (w1.alloc (.cells #[] 39)).grownBy w2 (some w1.heap.size) → Cpd w w2 rs a2 c2 ∧ Below w1.heap.size w1 w2 := by
  obtain ⟨a0, cap, hR, hf⟩ := h.form
  have hk := h.below k
  refine ⟨a0, cap, hR, by have := usedR_len rs; have := h.hu; have := h.hl; omega, by rw [← hR]; exact hk.c0, World.ownsRow_lit (base := w.heap.size) (e := 39) (size := 10) w1 #[] 0 k.size (by decide) rfl, ?_, fun w2 a2 c2 q1 q2 => ⟨cpd_of k q1 q2, ?_⟩⟩
  · rw [← hR]
    exact rv_src hk ((Below.refl _ _).alloc (Nat.le_refl _) (.cells #[] 39))
  · have hs := q2.size
    simp at hs
    exact ⟨q2.os, q2.tape, q2.output, by omega, fun j hj => (q2.block j (by simp; omega) (fun e => by injection e with e; omega)).trans (((Below.refl w1.heap.size w1).alloc (Nat.le_refl _) (.cells #[] 39)).block j hj)⟩
/-- The same of a row of values. -/
theorem vp_ask {w1 : World} {v : Value} {l : List V4} (h : Vr w1 v l) (B : Nat) (hB : B ≤ w1.heap.size) : ∃ a0 cap, v = .slice a0 l.length cap ∧
    (w1.alloc (.cells #[] 37)).ownsRow B 37 4 (.slice (some ⟨w1.heap.size, 0, none⟩) 0 0) 0 [] ∧ Src (w1.alloc (.cells #[] 37)) 4 (.slice a0 l.length cap) l.length (vC l) ∧
    ∀ w2 a2 c2, w2.ownsRow B 37 4 (.slice a2 l.length c2) l.length (vC l) → (w1.alloc (.cells #[] 37)).grownBy w2 (some w1.heap.size) → Below w1.heap.size w1 w2 := by
  obtain ⟨a0, cap, hv, hf⟩ := h.form
  refine ⟨a0, cap, hv, World.ownsRow_lit (base := B) (e := 37) (size := 4) w1 #[] 0 hB (by decide) rfl, ?_, fun w2 a2 c2 q1 q2 => ?_⟩
  · rw [← hv]
    exact Src.of_owns (World.ownsRow.alloc h (.cells #[] 37)) (vC_one l)
  · have hs := q2.size
    simp at hs
    exact ⟨q2.os, q2.tape, q2.output, by omega, fun j hj => (q2.block j (by simp; omega) (fun e => by injection e with e; omega)).trans (((Below.refl w1.heap.size w1).alloc (Nat.le_refl _) (.cells #[] 37)).block j hj)⟩

end Go.Proofs.YthmocdabakkfhaaGreatDoor
