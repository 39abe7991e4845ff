/-
  HpObject
-/
import Derived.Test.YthmocdabakkfhaaGreatDoorZ41

/-
  Layer 9: the landed heap's Object.
-/
namespace Go.Proofs.YthmocdabakkfhaaGreatDoor
set_option maxRecDepth 100000
open Go.RowKit Flo

theorem vp_owns {w : World} {B : Nat} {r : Value} {l : List V4} (h : w.ownsRow B 37 4 r l.length (vC l)) : ∃ a c, r = .slice a l.length c ∧ Vp w a l ∧ ∀ g, a = some ⟨g, 0, none⟩ → B ≤ g := by
  obtain ⟨a, c, e⟩ := owns_form h
  refine ⟨a, c, e, fun h0 => ?_, fun g hg => (h.lt g (by rw [e, hg]; rfl)).1⟩
  rcases h.2 with ⟨e1, e2⟩ | ⟨g, cap, cur, e1, e2, e3, rest⟩
  · omega
  · rw [e1] at e
    injection e with e4 e5 e6
    have hl := (h.lt g (by rw [e1]; rfl)).2
    rw [e1] at h
    refine ⟨g, e4.symm, hl, fun i x hx => ?_⟩
    have hi : i < l.length := by
      rcases Nat.lt_or_ge i l.length with q | q
      · exact q
      · rw [List.getElem?_eq_none q] at hx; cases hx
    have hc : ∀ j, j < 4 → w.cell? ⟨g, i * 4 + j, none⟩ = x.cells[j]? := fun j hj => by
      rw [h.cellAt (i * 4 + j) (by omega), vC_at l i x hx j hj]
    exact ⟨hc 0 (by omega), hc 1 (by omega), hc 2 (by omega), hc 3 (by omega)⟩
theorem Vp.wx {w w' : World} {a : Option Addr} {l : List V4} {X : Nat → Prop} (h : Vp w a l) (k : Wx X w w') (hX : ∀ g, a = some ⟨g, 0, none⟩ → ¬ X g) : Vp w' a l := fun h0 => by
  obtain ⟨g, e, hg, hc⟩ := h h0
  exact ⟨g, e, Nat.lt_of_lt_of_le hg k.size, fun i x hx => (hc i x hx).wx k (hX g e)⟩
theorem Wx.set' {X : Nat → Prop} {w w' : World} (h : Wx X w w') {k : Nat} (o : Nat) (v : Value) (hk : X k) : Wx X w (w'.setCell ⟨k, o, none⟩ v) := h.trans (Wx.set w' o v hk) (fun _ c => Or.inl c)
theorem Wx.drew' {X : Nat → Prop} {w w' : World} (h : Wx X w w') : Wx X w w'.drew := ⟨h.os, h.tape, h.output, h.size, h.block⟩
theorem eql_nilv {P : Program} {t e : TypeId} (a : Option Addr) (l c : Nat) (h : P.underlying t = some (.slice e)) (w : World) : (binOp .eql t (.slice a l c) (.slice none 0 0)).run P w = .ok (.bool a.isNone) w := by
  simp only [binOp]
  simp [run_equal_slice_nil w t e a l c h]

set_option maxHeartbeats 2000000 in
theorem clonev_any (sl : List V4) (sb : Nat) (w : World) (hat : ∀ (i : Nat) v, sl[i]? = some v → At4 w sb (4 * i) v) (hl : sl.length ≤ 1048576) (hs : sb < w.heap.size) :
    Calls Tryz.prog 48 #[.slice (some ⟨sb, 0, none⟩) sl.length sl.length] w fun e w' => (∃ a c, e = .returned (.slice a sl.length c) ∧ Vp w' a sl ∧ ∀ g, a = some ⟨g, 0, none⟩ → w.heap.size ≤ g) ∧ Below w.heap.size w w' := by
  obtain ⟨i1, hi1, hy0, hy1, hy2⟩ := valInfo
  have HSRC : Hid (Src (w.alloc (.cells #[] 37)) 4 (.slice (some ⟨sb, 0, none⟩) sl.length sl.length) sl.length (vC sl)) := by
    refine Or.inr ⟨_, _, rfl, by rw [vC_length], fun j u hu => ?_, vC_one _⟩
    have hj : j < sl.length * 4 := by
      rcases Nat.lt_or_ge j (sl.length * 4) with q | q
      · exact q
      · rw [List.getElem?_eq_none (by rw [vC_length]; exact q)] at hu; cases hu
    obtain ⟨x, hx⟩ : ∃ x, sl[j / 4]? = some x := ⟨sl[j / 4]'(by omega), List.getElem?_eq_getElem _⟩
    have hadd : (⟨sb, 0, none⟩ : Addr).add j = ⟨sb, j, none⟩ := by unfold Addr.add; split <;> simp_all
    rw [hadd, (((Below.refl _ w).alloc (Nat.le_refl _) (.cells #[] 37)).cell (p := ⟨sb, j, none⟩) hs)]
    have h1 := vC_at sl (j / 4) x hx (j % 4) (by omega)
    rw [show j / 4 * 4 + j % 4 = j by omega, hu] at h1
    have ha := hat (j / 4) x hx
    have hm : j % 4 = 0 ∨ j % 4 = 1 ∨ j % 4 = 2 ∨ j % 4 = 3 := by omega
    rcases hm with c | c | c | c <;> rw [c] at h1 <;> simp [V4.cells] at h1 <;> subst h1
    · have := ha.c0; rwa [show 4 * (j / 4) = j by omega] at this
    · have := ha.c1; rwa [show 4 * (j / 4) + 1 = j by omega] at this
    · have := ha.c2; rwa [show 4 * (j / 4) + 2 = j by omega] at this
    · have := ha.c3; rwa [show 4 * (j / 4) + 3 = j by omega] at this
  have HOWN : Hid ((w.alloc (.cells #[] 37)).ownsRow w.heap.size 37 4 (.slice (some ⟨w.heap.size, 0, none⟩) 0 0) 0 []) := World.ownsRow_made w #[] 0 (Nat.le_refl _) (by decide) rfl
  have hun : ∀ n w, (binOp .eql 33 (.slice (some ⟨sb, 0, none⟩) n n) (.slice none 0 0)).run Tryz.prog w = .ok (.bool false) w := fun n => eql_nilv (some ⟨sb, 0, none⟩) n n Tryz.underlying33
  have HQ : Hid (∀ w2 a2 c2, w2.ownsRow w.heap.size 37 4 (.slice a2 sl.length c2) sl.length (vC sl) → (w.alloc (.cells #[] 37)).grownBy w2 (some w.heap.size) → (Vp w2 a2 sl ∧ ∀ g, a2 = some ⟨g, 0, none⟩ → w.heap.size ≤ g) ∧ Below w.heap.size w w2) := fun w2 a2 c2 q1 q2 => by
    obtain ⟨a, c, e, hv, hf⟩ := vp_owns q1
    injection e with e1 e2 e3
    subst e1
    exact ⟨⟨hv, hf⟩, ((Below.refl _ _).alloc (Nat.le_refl _) _).grown q2 (by simp) (by intro k hk; simp at hk; omega)⟩
  clear hat
  generalize vC sl = vs at *
  obtain ⟨n, hn⟩ : ∃ n, n = sl.length := ⟨_, rfl⟩
  rw [← hn] at hl HSRC HQ ⊢
  clear hn
  go_enter Tryz.func48, Tryz.ntmps48
  go_wp2_with (at_builtin; refine wpList_append_src _ rfl _ _ 33 rfl w.heap.size 37 i1 _ 4 40 Tryz.underlying33 hi1 hy0 hy1 hy2 rfl (by decide) _ 0 [] rfl HOWN.out _ n vs rfl HSRC.out (by unfold maxLen; omega) (by omega) (by simp) ?_)
  intro a2 c2 w2 q1 q2 q3
  have HE := hide_p (HQ.out w2 a2 c2 q1 q2)
  clear q1 q2 q3 HQ HOWN HSRC hun
  go_wp2
  go_ret
  exact ⟨⟨a2, c2, by simp, HE.out.1.1, HE.out.1.2⟩, HE.out.2⟩

/-- What Object tells of an object. -/
def Tells (m : Om) (e : Ending) (w : World) : Prop := ∃ ka va sa kc vc sc, e = .returned (.tuple #[.agg #[.int .i64 m.k, .slice ka m.ks.length kc, .slice va m.vs.length vc, .int .i64 m.M.K, .int .u64 m.M.N, .string m.M.S, .int .i64 m.M.O, .int .i64 m.a, .int .i64 m.b, .slice sa m.sl.length sc], .bool true]) ∧ Vp w ka m.ks ∧ Vp w va m.vs ∧ Vp w sa m.sl

set_option maxHeartbeats 4000000 in
theorem object_none {w : World} {hb lim used : Nat} {R : Value} {os : List Ob} {Z : Nat → Prop} (hv : Hv w hb lim used R os Z) (o : Int) (c : ¬ (1 ≤ o ∧ o ≤ os.length)) :
    Calls Tryz.prog 13 #[.pointer (some ⟨hb, 0, none⟩), .int .i64 o] w fun e w' => e = .returned (.tuple #[.agg #[.int .i64 0, .slice none 0 0, .slice none 0 0, .int .i64 0, .int .u64 0, .string ⟨#[]⟩, .int .i64 0, .int .i64 0, .int .i64 0, .slice none 0 0], .bool false]) ∧ Below w.heap.size w w' := by
  have hlen : os.length ≤ 1099511627776 := by have := sum_len os; have := hv.sum; have := hv.hu; have := hv.hl; omega
  obtain ⟨w0, hw0⟩ : ∃ w0, w0 = w.alloc (.cells #[.int .i64 0, .slice none 0 0, .slice none 0 0, .int .i64 0, .int .u64 0, .string ⟨#[]⟩, .int .i64 0, .int .i64 0, .int .i64 0, .slice none 0 0] 39) := ⟨_, rfl⟩
  have hb0 : Below w.heap.size w w0 := by rw [hw0]; exact (Below.refl _ _).alloc (Nat.le_refl _) _
  replace hv := hv.below hb0
  obtain ⟨ob, a0, n0, hc2, ha0⟩ : ∃ ob a0 cap, w0.cell? ⟨hb, 2, none⟩ = some (.slice a0 os.length cap) ∧ (0 < os.length → a0 = some ⟨ob, 0, none⟩) := by
    rcases rowForm hv.row with ⟨e, e0⟩ | ⟨g, cap, e, _⟩
    · exact ⟨0, none, 0, by rw [hv.c2, e, e0], fun q => by omega⟩
    · exact ⟨g, _, cap, by rw [hv.c2, e], fun _ => rfl⟩
  have HF := hide_p (hfind_any hb ob os.length n0 a0 o w0 hc2 ha0 hlen)
  rw [show objAt ob os.length o = none by unfold objAt; rw [if_neg c]] at HF
  clear hv c hc2 ha0
  go_enter Tryz.func13, Tryz.ntmps13
  subst hw0
  go_wp2_with fail
  refine HF.out.mono ?_
  rintro e w' ⟨rfl, hw'⟩
  subst hw'
  clear HF
  go_wp2
  exact bodyPost_ret (v := .tuple #[.agg #[.int .i64 0, .slice none 0 0, .slice none 0 0, .int .i64 0, .int .u64 0, .string ⟨#[]⟩, .int .i64 0, .int .i64 0, .int .i64 0, .slice none 0 0], .bool false]) (by simp [results, Tryz.results13, go_sem]) rfl ⟨rfl, by repeat' (first | with_reducible exact hb0 | with_reducible apply Below.drew | with_reducible refine Below.setCell ?_ ?_ _ | omega | (simp; omega) | (simp; done))⟩

/-- The cells of an object of the heap. -/
theorem Hv.cells {w : World} {hb lim used : Nat} {R : Value} {os : List Ob} {Z : Nat → Prop} (hv : Hv w hb lim used R os Z) {p : Nat} {x : Ob} (hx : os[p]? = some x) :
    ∃ g cap, R = .slice (some ⟨g, 0, none⟩) os.length cap ∧ g < w.heap.size ∧ ∀ j, j < 5 → w.cell? ⟨g, p * 5 + j, none⟩ = x.cells[j]? := by
  have hil : p < os.length := by
    rcases Nat.lt_or_ge p os.length with q | q
    · exact q
    · rw [List.getElem?_eq_none q] at hx; cases hx
  rcases rowForm hv.row with ⟨e, e0⟩ | ⟨g, cap, e, hg⟩
  · omega
  · have hrow := hv.row
    rw [e] at hrow
    exact ⟨g, cap, e, hg, fun j hj => by rw [hrow.cellAt (p * 5 + j) (by omega), obC_at os p x hx j hj]⟩

set_option maxHeartbeats 4000000 in
theorem object_tab {w : World} {hb lim used : Nat} {R : Value} {os : List Ob} {Z : Nat → Prop} (hv : Hv w hb lim used R os Z) (p : Nat) (x : Ob) (hx : os[p]? = some x) (tb : Nat) (ht : x.tb = some tb) :
    Calls Tryz.prog 13 #[.pointer (some ⟨hb, 0, none⟩), .int .i64 ((p : Int) + 1)] w fun e w' => Tells x.om e w' ∧ Below w.heap.size w w' := by
  have hlen : os.length ≤ 1099511627776 := by have := sum_len os; have := hv.sum; have := hv.hu; have := hv.hl; omega
  have hil : p < os.length := by
    rcases Nat.lt_or_ge p os.length with q | q
    · exact q
    · rw [List.getElem?_eq_none q] at hx; cases hx
  obtain ⟨w0, hw0⟩ : ∃ w0, w0 = w.alloc (.cells #[.int .i64 0, .slice none 0 0, .slice none 0 0, .int .i64 0, .int .u64 0, .string ⟨#[]⟩, .int .i64 0, .int .i64 0, .int .i64 0, .slice none 0 0] 39) := ⟨_, rfl⟩
  have hb0 : Below w.heap.size w w0 := by rw [hw0]; exact (Below.refl _ _).alloc (Nat.le_refl _) _
  have hz : ∀ j, w0.cell? ⟨w.heap.size, j, none⟩ = (#[.int .i64 0, .slice none 0 0, .slice none 0 0, .int .i64 0, .int .u64 0, .string ⟨#[]⟩, .int .i64 0, .int .i64 0, .int .i64 0, .slice none 0 0] : Array Value)[j]? := fun j => by rw [hw0]; exact World.cell?_alloc_at _ _ _ _ rfl
  have hzf : ∀ j, w0.frozen? ⟨w.heap.size, j, none⟩ = false := fun j => by rw [hw0]; exact World.frozen?_alloc_at _ _ _ _ rfl
  have hzl : w.heap.size < w0.heap.size := by rw [hw0]; simp
  obtain ⟨g, cap, hR, hg, hc⟩ := hv.cells hx
  have HF := hide_p (hfind_any hb g os.length cap (some ⟨g, 0, none⟩) ((p : Int) + 1) w0 (by rw [(hv.below hb0).c2, hR]) (fun _ => rfl) hlen)
  rw [show objAt g os.length ((p : Int) + 1) = some ⟨g, p * 5, none⟩ by unfold objAt; rw [if_pos (by omega)]; congr 2; omega] at HF
  obtain ⟨⟨hk, ha, hb', hsl⟩, htv, -⟩ := (hv.ob p x hx).tab tb ht
  have HL := hide_p (lists_any (((hv.below hb0).ob p x hx).tab tb ht).2.1)
  have htb := htv.lt _ htv.own
  have k0 : w.cell? ⟨g, p * 5, none⟩ = some (.int .i64 x.k) := hc 0 (by omega)
  have k4 : w.cell? ⟨g, p * 5 + 4, none⟩ = some (.pointer (some ⟨tb, 0, none⟩)) := by rw [hc 4 (by omega)]; simp [Ob.cells, Ob.ptr, ht]
  have m0 := htv.mt.c0
  have m1 := htv.mt.c1
  have m2 := htv.mt.c2
  have m3 := htv.mt.c3
  have HS := hide_p (show x.k = 5 ∧ x.a = 0 ∧ x.b = 0 ∧ x.sl = [] from ⟨hk, ha, hb', hsl⟩)
  have hn1 : ¬ g = w.heap.size := by omega
  have hn2 : ¬ tb = w.heap.size := by omega
  clear hv hx hR hc hk ha hb' hsl htv ht
  have k4' : w0.cell? ⟨g, p * 5 + 4, none⟩ = some (.pointer (some ⟨tb, 0, none⟩)) := (hb0.cell hg).trans k4
  go_enter Tryz.func13, Tryz.ntmps13
  go_upto_region 1 with fail
  rw [← hw0]
  clear hw0
  go_wp2_with fail
  refine HF.out.mono ?_
  rintro e w' ⟨rfl, hw'⟩
  subst hw'
  clear HF
  go_wp2_with fail
  refine HL.out.mono ?_
  rintro e w1 ⟨r1, r2, rfl, hw2⟩
  obtain ⟨ka, kc, va, vc, e1, e2, hvv⟩ : ∃ ka kc va vc, r1 = .slice ka (x.es.map En.k4).length kc ∧ r2 = .slice va (x.es.map En.v4).length vc ∧ ∀ W, Wx (fun k => k = w.heap.size) w1 W → Vp W ka (x.es.map En.k4) ∧ Vp W va (x.es.map En.v4) := by
    obtain ⟨XA, XB, _, _, h3, h4⟩ := hw2.ex
    obtain ⟨ka, kc, e1, h5, h7⟩ := vp_owns h3.1
    obtain ⟨va, vc, e2, h6, h8⟩ := vp_owns h4.1
    exact ⟨ka, kc, va, vc, e1, e2, fun W hW => ⟨h5.wx hW (fun g hg c => by have := h7 g hg; omega), h6.wx hW (fun g hg c => by have := h8 g hg; omega)⟩⟩
  subst e1
  subst e2
  have HQ : Hid (∀ W, Wx (fun k => k = w.heap.size) w1 W → Tells x.om (.returned (.tuple #[.agg #[.int .i64 x.k, .slice ka (x.es.map En.k4).length kc, .slice va (x.es.map En.v4).length vc, .int .i64 x.M.K, .int .u64 x.M.N, .string x.M.S, .int .i64 x.M.O, .int .i64 0, .int .i64 0, .slice none 0 0], .bool true])) W ∧ Below w.heap.size w W) := fun W hW => by
    obtain ⟨s1, s2, s3, s4⟩ := HS.out
    refine ⟨⟨ka, va, none, kc, vc, 0, by simp [Ob.om, s2, s3, s4], (hvv W hW).1, (hvv W hW).2, fun h0 => ?_⟩, (hb0.trans (hw2.low.mono hb0.size)).trans (hW.below (fun k hk => by omega) (Nat.le_trans hb0.size hw2.low.size))⟩
    have h0' : 0 < x.sl.length := h0
    rw [s4] at h0'
    simp at h0'
  clear hvv
  have hl1 : ∀ k, k < w.heap.size → ∀ j, w1.cell? ⟨k, j, none⟩ = w.cell? ⟨k, j, none⟩ := fun k hk j => (hw2.low.cell (Nat.lt_of_lt_of_le hk hb0.size)).trans (hb0.cell hk)
  have d0 := (hl1 g hg _).trans k0
  have d4 := (hl1 g hg _).trans k4
  have d5 := (hl1 tb htb _).trans m0
  have d6 := (hl1 tb htb _).trans m1
  have d7 := (hl1 tb htb _).trans m2
  have d8 := (hl1 tb htb _).trans m3
  have hzz : ∀ j, w1.cell? ⟨w.heap.size, j, none⟩ = (#[.int .i64 0, .slice none 0 0, .slice none 0 0, .int .i64 0, .int .u64 0, .string ⟨#[]⟩, .int .i64 0, .int .i64 0, .int .i64 0, .slice none 0 0] : Array Value)[j]? := fun j => (hw2.low.cell hzl).trans (hz j)
  have hff : ∀ j, w1.frozen? ⟨w.heap.size, j, none⟩ = false := fun j => (hw2.low.frozen hzl).trans (hzf j)
  have z0 := hzz 0
  have z1 := hzz 1
  have z2 := hzz 2
  have z3 := hzz 3
  have z4 := hzz 4
  have z5 := hzz 5
  have z6 := hzz 6
  have z7 := hzz 7
  have z8 := hzz 8
  have z9 := hzz 9
  clear hl1 hzz hz hzf hw2 HL k0 k4 m0 m1 m2 m3 k4'
  simp only [List.getElem?_toArray, List.getElem?_cons_zero, List.getElem?_cons_succ] at z0 z1 z2 z3 z4 z5 z6 z7 z8 z9
  go_wp2_with fail
  go_region
  all_goals
    go_wp2
    exact bodyPost_ret (v := .tuple #[.agg #[.int .i64 x.k, .slice ka (x.es.map En.k4).length kc, .slice va (x.es.map En.v4).length vc, .int .i64 x.M.K, .int .u64 x.M.N, .string x.M.S, .int .i64 x.M.O, .int .i64 0, .int .i64 0, .slice none 0 0], .bool true]) (by simp [results, Tryz.results13, go_sem, z0, z1, z2, z3, z4, z5, z6, z7, z8, z9]) rfl (HQ.out _ (by repeat' (first | with_reducible exact Wx.refl _ _ | with_reducible apply Wx.drew' | with_reducible refine Wx.set' ?_ _ _ ?_ | rfl)))

/-- A zero object in the block b. -/
structure Zo (w : World) (b : Nat) : Prop where
  z0 : w.cell? ⟨b, 0, none⟩ = some (.int .i64 0)
  z1 : w.cell? ⟨b, 1, none⟩ = some (.slice none 0 0)
  z2 : w.cell? ⟨b, 2, none⟩ = some (.slice none 0 0)
  z3 : w.cell? ⟨b, 3, none⟩ = some (.int .i64 0)
  z4 : w.cell? ⟨b, 4, none⟩ = some (.int .u64 0)
  z5 : w.cell? ⟨b, 5, none⟩ = some (.string ⟨#[]⟩)
  z6 : w.cell? ⟨b, 6, none⟩ = some (.int .i64 0)
  z7 : w.cell? ⟨b, 7, none⟩ = some (.int .i64 0)
  z8 : w.cell? ⟨b, 8, none⟩ = some (.int .i64 0)
  z9 : w.cell? ⟨b, 9, none⟩ = some (.slice none 0 0)
  zf : ∀ j, w.frozen? ⟨b, j, none⟩ = false
theorem Zo.below {w w' : World} {b : Nat} (h : Zo w b) (k : Below w.heap.size w w') : Zo w' b := by
  have hl : b < w.heap.size := World.block_lt_of_cell? w _ h.z0
  exact ⟨(k.cell hl).trans h.z0, (k.cell hl).trans h.z1, (k.cell hl).trans h.z2, (k.cell hl).trans h.z3, (k.cell hl).trans h.z4, (k.cell hl).trans h.z5, (k.cell hl).trans h.z6, (k.cell hl).trans h.z7, (k.cell hl).trans h.z8, (k.cell hl).trans h.z9, fun j => (k.frozen hl).trans (h.zf j)⟩
end Go.Proofs.YthmocdabakkfhaaGreatDoor
