/-
  Layer 20: a disk in memory: its files, their bytes, and what is written when.
-/
import Derived.Test.YtgkgflkcnigeaaaFrMem
import Derived.Test.YtgkgflkcnigeaaaHpInv
import Derived.Test.YtgkgflkcnigeaaaTxtMath
import Derived.Maps.OwnSet
import Derived.Maps.RangeWalk
import Derived.Maps.Ext
import Derived.Sort.KeysCollected
import Derived.Deep.AppendSrc
import Derived.Lib.Builder
namespace Go.Proofs.Ytgkgflkcnigeaaa
set_option maxRecDepth 100000
open Go.RowKit Txt

namespace Dk
theorem hide_p {p : Prop} (h : p) : Hid p := h

/-- From w to w' no more is written of what there was than blocks of X. -/
structure Wx (X : Nat → Prop) (w w' : World) : Prop where
  os : w'.os = w.os
  tape : w'.tape = w.tape
  output : w'.output = w.output
  size : w.heap.size ≤ w'.heap.size
  block : ∀ k, k < w.heap.size → ¬ X k → w'.heap[k]? = w.heap[k]?
theorem Wx.refl (X : Nat → Prop) (w : World) : Wx X w w := ⟨rfl, rfl, rfl, Nat.le_refl _, fun _ _ _ => rfl⟩
theorem Wx.trans {X Y : Nat → Prop} {a b c : World} (h : Wx X a b) (k : Wx Y b c) (hY : ∀ i, Y i → X i ∨ a.heap.size ≤ i) : Wx X a c :=
  ⟨k.os.trans h.os, k.tape.trans h.tape, k.output.trans h.output, Nat.le_trans h.size k.size, fun i hi hx => (k.block i (Nat.lt_of_lt_of_le hi h.size) (fun hy => by
    rcases hY i hy with c | c
    · exact hx c
    · omega)).trans (h.block i hi hx)⟩
theorem Wx.more {X Y : Nat → Prop} {w w' : World} (h : Wx X w w') (hX : ∀ k, X k → Y k ∨ w.heap.size ≤ k) : Wx Y w w' :=
  ⟨h.os, h.tape, h.output, h.size, fun k hk hy => h.block k hk (fun hx => by
    rcases hX k hx with c | c
    · exact hy c
    · omega)⟩
theorem Wx.of_below {w w' : World} (X : Nat → Prop) (h : Below w.heap.size w w') : Wx X w w' := ⟨h.os, h.tape, h.output, h.size, fun k hk _ => h.block k hk⟩
theorem Wx.set {X : Nat → Prop} (w : World) {k : Nat} (o : Nat) (v : Value) (h : X k) : Wx X w (w.setCell ⟨k, o, none⟩ v) := by
  have hb : Below k w (w.setCell ⟨k, o, none⟩ v) := (Below.refl _ _).setCell (p := ⟨k, o, none⟩) (Nat.le_refl _) v
  exact ⟨hb.os, hb.tape, hb.output, hb.size, fun j _ hx => heap_setCell_other _ _ _ _ (fun e => hx (by simp only at e; rw [e]; exact h))⟩
theorem Wx.alloc (X : Nat → Prop) (w : World) (o : Obj) : Wx X w (w.alloc o) := Wx.of_below X ((Below.refl _ _).alloc (Nat.le_refl _) o)
theorem Wx.drew (X : Nat → Prop) (w : World) : Wx X w w.drew := Wx.of_below X (Below.refl _ _).drew
theorem Wx.grown {X : Nat → Prop} {w w' : World} {row : Option Nat} (h : w.grownBy w' row) (hX : ∀ k, row = some k → X k) : Wx X w w' :=
  ⟨h.os, h.tape, h.output, h.size, fun k hk hx => h.block k hk (fun e => hx (hX k e.symm))⟩
theorem Wx.cell {X : Nat → Prop} {w w' : World} (h : Wx X w w') {k o : Nat} {v : Value} (hX : ¬ X k) (hc : w.cell? ⟨k, o, none⟩ = some v) : w'.cell? ⟨k, o, none⟩ = some v :=
  (World.cell?_of_block (w := w) (a := ⟨k, o, none⟩) (h.block k (World.block_lt_of_cell? w _ hc) hX)).trans hc
theorem Wx.below {X : Nat → Prop} {w w' : World} (h : Wx X w w') {B : Nat} (hB : ∀ k, X k → B ≤ k) (hs : B ≤ w.heap.size) : Below B w w' :=
  ⟨h.os, h.tape, h.output, h.size, fun k hk => h.block k (by omega) (fun hx => by have := hB k hx; omega)⟩
theorem lt_some {w : World} {k : Nat} {o : Obj} (h : w.heap[k]? = some o) : k < w.heap.size := (Array.getElem?_eq_some_iff.1 h).1
theorem Wx.blk {X : Nat → Prop} {w w' : World} (h : Wx X w w') {k : Nat} {o : Obj} (hX : ¬ X k) (hb : w.heap[k]? = some o) : w'.heap[k]? = some o := (h.block k (lt_some hb) hX).trans hb

/-- The slice v, in a block of its own from its beginning on, holds the bytes l; what lies behind them is of no account. -/
def FB (w : World) (v : Value) (l : List Nat) : Prop :=
  Sm8 l ∧ ((v = .slice none 0 0 ∧ l = []) ∨ ∃ g cap cur, v = .slice (some ⟨g, 0, none⟩) l.length cap ∧ w.heap[g]? = some (.cells cur 5 (0, 0)) ∧ l.length ≤ cap ∧ cap ≤ cur.size ∧ cur.size ≤ maxLen ∧ cur.toList.take l.length = c8 l)

theorem FB.nil (w : World) : FB w (.slice none 0 0) [] := ⟨(fun d h => by cases h), Or.inl ⟨rfl, rfl⟩⟩
theorem FB.form {w : World} {v : Value} {l : List Nat} (h : FB w v l) : ∃ a c, v = .slice a l.length c ∧ l.length ≤ c ∧ c ≤ maxLen ∧ (a = none → l = [] ∧ c = 0) := by
  rcases h.2 with ⟨rfl, rfl⟩ | ⟨g, cap, cur, rfl, _, h1, h2, h3, _⟩
  · exact ⟨none, 0, rfl, Nat.le_refl _, by unfold maxLen; omega, fun _ => ⟨rfl, rfl⟩⟩
  · exact ⟨_, cap, rfl, h1, Nat.le_trans h2 h3, fun e => by cases e⟩
theorem FB.stay {w w' : World} {v : Value} {l : List Nat} (h : FB w v l) (hb : ∀ g, v.ownBlock = some g → w'.heap[g]? = w.heap[g]?) : FB w' v l := by
  refine ⟨h.1, ?_⟩
  rcases h.2 with c | ⟨g, cap, cur, rfl, hg, r⟩
  · exact Or.inl c
  · exact Or.inr ⟨g, cap, cur, rfl, (hb g rfl).trans hg, r⟩
theorem FB.lt {w : World} {v : Value} {l : List Nat} (h : FB w v l) {g : Nat} (e : v.ownBlock = some g) : ∃ cur, w.heap[g]? = some (.cells cur 5 (0, 0)) := by
  rcases h.2 with ⟨rfl, _⟩ | ⟨g', cap, cur, rfl, hg, _⟩
  · cases e
  · have : g' = g := by simpa [Value.ownBlock] using e
    exact ⟨cur, by rw [← this]; exact hg⟩
theorem FB.wx {X : Nat → Prop} {w w' : World} {v : Value} {l : List Nat} (h : FB w v l) (k : Wx X w w') (hX : ∀ g, v.ownBlock = some g → ¬ X g) : FB w' v l :=
  h.stay fun g e => by obtain ⟨cur, hg⟩ := h.lt e; exact k.block g (lt_some hg) (hX g e)
theorem add0 (g j : Nat) : (⟨g, 0, none⟩ : Addr).add j = ⟨g, j, none⟩ := by unfold Addr.add; split <;> simp_all
theorem FB.cells {w : World} {g cap n : Nat} {l : List Nat} (h : FB w (.slice (some ⟨g, 0, none⟩) n cap) l) : ∀ j u, (c8 l)[j]? = some u → w.cell? ⟨g, j, none⟩ = some u := by
  intro j u hu
  rcases h.2 with ⟨e, _⟩ | ⟨g', cap', cur, e, hg, h1, h2, h3, h4⟩
  · cases e
  · simp only [Value.slice.injEq, Option.some.injEq, Addr.mk.injEq, and_true] at e
    obtain ⟨rfl, -, rfl⟩ := e
    obtain ⟨hj, -⟩ := c8_at hu
    rw [Lib.cell_of_heap hg, ← Array.getElem?_toList, ← hu, ← h4, List.getElem?_take, if_pos hj]
theorem FB.br {w : World} {v : Value} {l : List Nat} (h : FB w v l) : BR w v l := by
  refine ⟨h.1, ?_⟩
  have h2 := h.2
  rcases h2 with ⟨rfl, rfl⟩ | ⟨g, cap, cur, rfl, hg, r1, r2, r3, r4⟩
  · exact ⟨none, 0, rfl, Nat.le_refl _, by unfold maxLen; omega, Or.inl ⟨rfl, rfl⟩⟩
  · refine ⟨some ⟨g, 0, none⟩, cap, rfl, r1, Nat.le_trans r2 r3, Or.inr ⟨_, rfl, fun i hi => ?_⟩⟩
    rw [add0]
    exact h.cells i _ (c8_get hi)
theorem FB.of_ow {w : World} {B : Nat} {v : Value} {l : List Nat} (h : OW w B v l) : FB w v l := by
  refine ⟨h.1, ?_⟩
  rcases h.2.2 with ⟨rfl, h0⟩ | ⟨g, cap, cur, rfl, hb, hg, r1, r2, r3, r4⟩
  · exact Or.inl ⟨rfl, List.eq_nil_of_length_eq_zero h0⟩
  · exact Or.inr ⟨g, cap, cur, rfl, hg, r1, by omega, by omega, by simpa using r4⟩
theorem c8_take (l : List Nat) (n : Nat) : c8 (l.take n) = (c8 l).take n := by unfold c8; rw [List.map_take]
/-- The first m bytes. -/
theorem FB.cut {w : World} {a : Option Addr} {n cap m c : Nat} {l : List Nat} (h : FB w (.slice a n cap) l) (hm : m ≤ l.length) (h1 : m ≤ c) (h2 : c ≤ cap) : FB w (.slice a m c) (l.take m) := by
  have hl : (l.take m).length = m := by rw [List.length_take]; omega
  refine ⟨h.1.take m, ?_⟩
  rcases h.2 with ⟨e, rfl⟩ | ⟨g, cap', cur, e, hg, r1, r2, r3, r4⟩
  · simp only [Value.slice.injEq] at e
    obtain ⟨rfl, rfl, rfl⟩ := e
    have : c = 0 := by omega
    have hm0 : m = 0 := by simpa using hm
    subst this; subst hm0
    exact Or.inl ⟨rfl, rfl⟩
  · simp only [Value.slice.injEq] at e
    obtain ⟨rfl, rfl, rfl⟩ := e
    refine Or.inr ⟨g, c, cur, by rw [hl], hg, by omega, by omega, r3, ?_⟩
    rw [hl, c8_take, ← r4, List.take_take, Nat.min_eq_left hm]

theorem br_src {w : World} {v : Value} {l : List Nat} (h : BR w v l) : ∃ a c, v = .slice a l.length c ∧ ((a = none ∧ l = []) ∨ ∃ x, a = some x ∧ ∀ j u, (c8 l)[j]? = some u → w.cell? (x.add j) = some u) := by
  obtain ⟨h1, a, cap, rfl, h3, h4, h5⟩ := h
  refine ⟨a, cap, rfl, ?_⟩
  rcases h5 with ⟨rfl, rfl⟩ | ⟨x, rfl, hc⟩
  · exact Or.inl ⟨rfl, List.eq_nil_of_length_eq_zero (by omega)⟩
  · refine Or.inr ⟨x, rfl, fun j u hu => ?_⟩
    obtain ⟨hj, rfl⟩ := c8_at hu
    exact hc j hj
theorem small8 : ∀ (c : Nat), c ≤ maxLen → c ≤ 9223372036854775807 := by intro c h; unfold maxLen at h; omega

/-- What is appended to a file's bytes: where the new row lies, and what it holds. -/
theorem run_append_fb {w : World} {v : Value} {l : List Nat} (h : FB w v l) {x : Value} {k : List Nat} (hk : BR w x k) (hlen : l.length + k.length ≤ 140737488355328) (ty : TypeId) :
    ∃ a c w', (Builtin.append_ #[33, 33] ty #[v, x]).run Try.prog w = .ok (.slice a (l.length + k.length) c) w' ∧ FB w' (.slice a (l.length + k.length) c) (l ++ k) ∧ w.grownBy w' v.ownBlock ∧ ((Value.slice a (l.length + k.length) c).ownBlock = v.ownBlock ∨ (Value.slice a (l.length + k.length) c).ownBlock = some w.heap.size) := by
  obtain ⟨i, hi, hz, hs, hby⟩ := info_parts info8
  have hll : (c8 (l ++ k)).length = l.length + k.length := by rw [c8_length, List.length_append]
  have hsm := h.1.append hk.1
  have h63 : l.length + k.length ≤ maxLen := by unfold maxLen; omega
  have same : (k = [] → ∃ a c, v = .slice a (l.length + k.length) c ∧ FB w (.slice a (l.length + k.length) c) (l ++ k)) := by
    intro e
    subst e
    obtain ⟨a, c, rfl, _⟩ := h.form
    exact ⟨a, c, rfl, by rw [List.append_nil]; exact h⟩
  obtain ⟨xa, xc, rfl, hx⟩ := br_src hk
  by_cases k0 : k = []
  · obtain ⟨a, c, e, hf⟩ := same k0
    subst k0
    refine ⟨a, c, w, ?_, hf, ⟨rfl, rfl, rfl, Nat.le_refl _, fun _ _ _ => rfl⟩, Or.inl (by rw [e])⟩
    rcases h.2 with ⟨rfl, rfl⟩ | ⟨g, cap, cur, rfl, hg, r1, r2, r3, r4⟩
    · cases e
      simp [Builtin.append_, run_underlying Try.underlying33, sizeOf, typeInfo, hi, Builtin.lenOf, Builtin.firstCells, loadCells, loadCellsFrom]
      rcases hx with ⟨rfl, _⟩ | ⟨y, rfl, _⟩ <;> simp
    · cases e
      rcases hx with ⟨rfl, _⟩ | ⟨y, rfl, _⟩ <;>
      simp [Builtin.append_, run_underlying Try.underlying33, sizeOf, typeInfo, hi, Builtin.lenOf, Builtin.firstCells, loadCells, loadCellsFrom, r1, storeCells]
  · have kpos : 0 < k.length := List.length_pos_iff.2 k0
    rcases hx with ⟨_, e⟩ | ⟨y, rfl, hc⟩
    · exact absurd e k0
    · have hnl : (c8 k).length = k.length * i.size := by rw [c8_length, hs, Nat.mul_one]
      have hone := c8_one k
      have hnl1 : (c8 k).length = k.length * 1 := by rw [c8_length, Nat.mul_one]
      rcases h.2 with ⟨rfl, rfl⟩ | ⟨g, cap, cur, rfl, hg, r1, r2, r3, r4⟩
      · obtain ⟨v', w', hr, h2, h3, _, h5⟩ := run_append_own_at (P := Try.prog) w 0 33 ty 5 i (.int .u8 0) 1 1 Try.underlying33 hi hz hs hby rfl (by decide) (.slice none 0 0) 0 [] (World.ownsRow_nil _ _ _ _) y k.length xc (c8 k) hnl1 hc hone (by simpa using h63) (by simpa using hlen) (Nat.zero_le _)
        obtain ⟨a', c', rfl⟩ := owns_form h2
        simp only [List.length_nil, Nat.zero_add, List.nil_append] at hr h2 h3 h5 ⊢
        exact ⟨a', c', w', hr, FB.of_ow (B := 0) ⟨hk.1, by simpa using h2⟩, h3, h5⟩
      · by_cases room : l.length + k.length ≤ cap
        · have hr := run_append_room (P := Try.prog) w 33 ty 5 i Try.underlying33 hi g l.length cap cur hg y k.length xc (c8 k) hnl hc hone room (by rw [hs, Nat.mul_one, c8_length]; omega)
          refine ⟨_, _, _, hr, ⟨hsm, Or.inr ⟨g, cap, _, by rw [List.length_append], setRow_heap w g cur _ 5 _ hg, by rw [List.length_append]; exact room, ?_, ?_, ?_⟩⟩, ⟨rfl, rfl, rfl, by simp, fun j _ hj => setRow_other w g j _ (fun e => hj (by simp [e, Value.ownBlock]))⟩, Or.inl rfl⟩
          · simp only [List.size_toArray, List.length_append, List.length_take, List.length_drop, Array.length_toList, hs, Nat.mul_one, c8_length]
            omega
          · simp only [List.size_toArray, List.length_append, List.length_take, List.length_drop, Array.length_toList, hs, Nat.mul_one, c8_length]
            omega
          · rw [hs, Nat.mul_one, r4]
            simp only []
            rw [← c8_append, ← c8_length (l ++ k)]
            exact List.take_left
        · have hsrc : Go.Src Try.prog i.size 33 (.slice (some y) k.length xc) k.length (c8 k) w := Go.Src.ofSlice w Try.underlying33 y k.length xc (c8 k) hnl hc hone
          have hold : (Builtin.firstCells i.size l.length (.slice (some ⟨g, 0, none⟩) l.length cap)).run Try.prog w.drew = .ok (c8 l).toArray w.drew :=
            run_firstCells_some w.drew i.size l.length ⟨g, 0, none⟩ l.length cap (c8 l) (by rw [c8_length, hs, Nat.mul_one]) (fun j u hu => by
              rw [add0]
              exact h.cells j u hu)
          have hgr := run_append_grow_src (P := Try.prog) w 33 33 ty 5 i (.int .u8 0) Try.underlying33 hi hz (some ⟨g, 0, none⟩) l.length cap (c8 l) hold _ k.length (c8 k) hsrc (by omega) (by omega) (by
            rw [hby, Nat.mul_one]
            have := nextslicecap_le (need := l.length + k.length) (old := cap) (by omega)
            omega)
          have hge := grownCap_ge w (l.length + k.length) cap 5
          have hcm := grownCap_le_maxLen w (l.length + k.length) cap 5 h63
          refine ⟨_, _, _, hgr, ⟨hsm, Or.inr ⟨w.heap.size, _, _, by rw [List.length_append], heap_alloc_new w.drew _, by rw [List.length_append]; exact hge, ?_, ?_, ?_⟩⟩, ⟨rfl, rfl, rfl, by simp, fun j hj _ => heap_alloc_old w.drew _ hj⟩, Or.inr rfl⟩
          · simp only [Array.size_append, List.size_toArray, size_zeroCells, c8_length, List.length_append]
            have e1 : (Value.int .u8 0).cells.size = 1 := rfl
            rw [e1, Nat.mul_one]
            omega
          · simp only [Array.size_append, List.size_toArray, size_zeroCells, c8_length, List.length_append]
            have e1 : (Value.int .u8 0).cells.size = 1 := rfl
            rw [e1, Nat.mul_one]
            omega
          · simp only [Array.toList_append, ← c8_append]
            rw [← c8_length (l ++ k)]
            exact List.take_left
end Dk

end Go.Proofs.Ytgkgflkcnigeaaa
