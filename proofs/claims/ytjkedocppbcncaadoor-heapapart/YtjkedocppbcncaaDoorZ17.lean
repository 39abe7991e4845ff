/-
  HpTf, HpNew, HpNew2, HpNew3, HpTab, PtMath
-/
import Derived.Deep.AppendLies
import Derived.Deep.RegionLaw
import Derived.Laws.BitsAllLaws
import Derived.Test.YtjkedocppbcncaaDoorZ16

/-
  Layer 9: what a table tells of a key, of its size.
-/
namespace Go.Proofs.YtjkedocppbcncaaDoor
set_option maxRecDepth 100000
open Go.RowKit Flo

/-- The pointer to what was found, the value of it. -/
def fndP (o : Option En) : Value := .pointer (o.map fun e => ⟨e.b, 0, none⟩)
def fndV (o : Option En) : V4 := match o with
  | some e => ⟨e.vK, e.vN, e.vS, e.vO⟩
  | none => ⟨0, 0, ⟨#[]⟩, 0⟩
theorem Tv.ch {w : World} {tb : Nat} {X : Nat → Prop} {es : List En} {M : V4} (h : Tv w tb X es M) (K N : Int) (S : ByteArray) (O : Int) :
    ∃ g n cap l, Ch w tb es.length g n cap (hN K N S O) l ∧ hd (seek K N S O (hN K N S O) l) = fndP (ofKey K N S O es) ∧ valOf (seek K N S O (hN K N S O) l) = (fndV (ofKey K N S O es)).val := by
  rcases h.bod with ⟨e0, c7, c8, c9⟩ | ⟨g, n, c, m, cs, W, s, t⟩
  · subst e0
    exact ⟨0, 0, 0, [], ⟨h.lt _ h.own, h.ord.keys, fun k => by simp at k, fun _ => rfl, hN_lt _ _ _ _⟩, rfl, rfl⟩
  · have hj := bk_lt (hN K N S O) t.kb.pos
    refine ⟨g, n, n, cs (bk (hN K N S O) n), ⟨h.lt _ h.own, h.ord.keys, fun _ => ⟨t.row.1, t.kb.pos, t.kb.few, t.kb.head _ hj, t.kb.chain _ hj, fun e he => t.kb.lies e ((t.kb.mem _ hj e).1 he).1, t.kb.lt⟩, fun k => ?_, hN_lt _ _ _ _⟩, ?_⟩
    · have e0 : es = [] := List.length_eq_zero_iff.1 k
      rcases hc : cs (bk (hN K N S O) n) with _ | ⟨e, r⟩
      · rfl
      · have := ((t.kb.mem _ hj e).1 (by rw [hc]; simp)).1
        rw [e0] at this; cases this
    · rcases t.kb.seek K N S O with ⟨a, b⟩ | ⟨e, r, a, _, b⟩
      · rw [a, b]; exact ⟨rfl, rfl⟩
      · rw [a, b]; exact ⟨rfl, rfl⟩
theorem tab_find {w : World} {tb : Nat} {X : Nat → Prop} {es : List En} {M : V4} (h : Tv w tb X es M) (K N : Int) (S : ByteArray) (O : Int) :
    Calls Tryd.prog 49 #[.pointer (some ⟨tb, 0, none⟩), .agg #[.int .i64 K, .int .u64 N, .string S, .int .i64 O], .int .u64 (hZ K N S O)] w fun e w' => e = .returned (fndP (ofKey K N S O es)) ∧ Below w.heap.size w w' := by
  obtain ⟨g, n, cap, l, hc, h1, _⟩ := h.ch K N S O
  have := find_ch K N S O hc
  rw [h1, hN_eq] at this
  exact this
theorem tab_get {w : World} {tb : Nat} {X : Nat → Prop} {es : List En} {M : V4} (h : Tv w tb X es M) (K N : Int) (S : ByteArray) (O : Int) :
    Calls Tryd.prog 36 #[.pointer (some ⟨tb, 0, none⟩), .agg #[.int .i64 K, .int .u64 N, .string S, .int .i64 O], .int .u64 (hZ K N S O)] w fun e w' => e = .returned (fndV (ofKey K N S O es)).val ∧ Below w.heap.size w w' := by
  obtain ⟨g, n, cap, l, hc, _, h1⟩ := h.ch K N S O
  have := get_any tb es.length g n cap (hN K N S O) l K N S O w hc
  rw [h1, hN_eq] at this
  exact this
/-- What a table's size says: so many of the first whole numbers are keys. -/
theorem Tv.size {w : World} {tb : Nat} {X : Nat → Prop} {es : List En} {M : V4} (h : Tv w tb X es M) :
    ∃ s : Nat, w.cell? ⟨tb, 9, none⟩ = some (.int .i64 (s : Int)) ∧ ∀ p, p < s → ∃ e ∈ es, e.K = 3 ∧ toB e.N = true ∧ toI e.N = (p : Int) + 1 := by
  rcases h.bod with ⟨e0, c7, c8, c9⟩ | ⟨g, n, c, m, cs, W, s, t⟩
  · exact ⟨0, c9, fun p hp => by omega⟩
  · refine ⟨s, t.kc.size, fun p hp => ?_⟩
    obtain ⟨e, he, hb, hp2⟩ := t.sz.all p hp
    have hb2 := hb
    unfold bitB at hb2
    have h2 := of_decide_eq_true hb2
    refine ⟨e, he, h2.1, h2.2.1, ?_⟩
    unfold bitN at hp2
    rw [if_pos hb] at hp2
    omega

/-- The table of a number. -/
def tabOf (os : List Ob) (o : Int) : Option Ob := if 1 ≤ o ∧ o ≤ os.length then (os[(o - 1).toNat]?).filter fun x => x.tb.isSome else none
theorem tabOf_some {os : List Ob} {o : Int} {x : Ob} (h : tabOf os o = some x) : ∃ (i : Nat) (tb : Nat), o = (i : Int) + 1 ∧ os[i]? = some x ∧ x.tb = some tb := by
  unfold tabOf at h
  split at h
  · next c =>
    obtain ⟨h1, h2⟩ := Option.filter_eq_some_iff.1 h
    obtain ⟨tb, ht⟩ := Option.isSome_iff_exists.1 h2
    exact ⟨(o - 1).toNat, tb, by omega, h1, ht⟩
  · cases h
theorem tabOf_of {os : List Ob} {i tb : Nat} {x : Ob} (h : os[i]? = some x) (ht : x.tb = some tb) : tabOf os ((i : Int) + 1) = some x := by
  have hi : i < os.length := by
    rcases Nat.lt_or_ge i os.length with c | c
    · exact c
    · rw [List.getElem?_eq_none c] at h; cases h
  unfold tabOf
  rw [if_pos (by omega), show ((i : Int) + 1 - 1).toNat = i by omega, h]
  simp [ht]
def ptrOf (os : List Ob) (o : Int) : Option Addr := (tabOf os o).bind Ob.ptr
theorem tableOf_hv {w : World} {hb lim used : Nat} {R : Value} {os : List Ob} {Z : Nat → Prop} (h : Hv w hb lim used R os Z) (o : Int) :
    Calls Tryd.prog 30 #[.pointer (some ⟨hb, 0, none⟩), .int .i64 o] w fun e w' => e = .returned (.pointer (ptrOf os o)) ∧ w' = w := by
  have hlen : os.length ≤ 1099511627776 := by have := sum_len os; have := h.sum; have := h.hu; have := h.hl; omega
  have key : ∀ ob, (0 < os.length → ∀ cap, R = .slice (some ⟨ob, 0, none⟩) os.length cap → ∀ k, k < os.length → w.cell? ⟨ob, 5 * k + 4, none⟩ = some (.pointer ((os[k]?).bind Ob.ptr))) := by
    intro ob h0 cap hR k hk
    have hr := h.row
    rw [hR] at hr
    have h5 := hr.cellAt (k * 5 + 4) (by omega)
    rw [show 5 * k + 4 = k * 5 + 4 by omega, h5, obC_at os k os[k] (List.getElem?_eq_getElem hk) 4 (by omega), List.getElem?_eq_getElem hk]
    rfl
  have hres : (if 1 ≤ o ∧ o ≤ (os.length : Int) then (os[(o - 1).toNat]?).bind Ob.ptr else none) = ptrOf os o := by
    unfold ptrOf tabOf
    split
    · rcases os[(o - 1).toNat]? with _ | x
      · rfl
      · simp only [Option.bind_some, Option.filter_some]
        unfold Ob.ptr
        cases ht : x.tb with
        | none => simp
        | some t => simp [ht]
    · rfl
  rcases rowForm h.row with ⟨hR, h0⟩ | ⟨g, cap, hR, _⟩
  · have := tableOf_any hb 0 os.length 0 none o (fun k => (os[k]?).bind Ob.ptr) w (by rw [h.c2, hR, h0]) (fun k => by omega) hlen (fun k hk => by omega)
    rw [hres] at this
    exact this
  · have := tableOf_any hb g os.length cap (some ⟨g, 0, none⟩) o (fun k => (os[k]?).bind Ob.ptr) w (by rw [h.c2, hR]) (fun _ => rfl) hlen (fun k hk => key g (by omega) cap hR k hk)
    rw [hres] at this
    exact this

theorem size_hv {w : World} {hb lim used : Nat} {R : Value} {os : List Ob} {Z : Nat → Prop} (h : Hv w hb lim used R os Z) (o : Int) :
    Calls Tryd.prog 15 #[.pointer (some ⟨hb, 0, none⟩), .int .i64 o] w fun e w' => w' = w ∧ ∃ s : Nat, e = .returned (.int .i64 s) ∧
      match tabOf os o with
      | none => s = 0
      | some x => ∃ tb, x.tb = some tb ∧ w.cell? ⟨tb, 9, none⟩ = some (.int .i64 (s : Int)) := by
  have HT := tableOf_hv h o
  unfold ptrOf at HT
  cases hx : tabOf os o with
  | none =>
    rw [hx] at HT
    have HT2 : Calls Tryd.prog 30 #[.pointer (some ⟨hb, 0, none⟩), .int .i64 o] w fun e w' => e = .returned (.pointer none) ∧ w' = w := HT
    clear HT hx h
    go_enter Tryd.func15, Tryd.ntmps15
    go_wp2_with fail
    refine HT2.mono ?_
    rintro e w' ⟨rfl, rfl⟩
    clear HT2
    go_wp2
    go_ret
    exact ⟨rfl, 0, rfl, rfl⟩
  | some x =>
    obtain ⟨i, tb, ho, hi, ht⟩ := tabOf_some hx
    rw [hx] at HT
    have HT2 : Calls Tryd.prog 30 #[.pointer (some ⟨hb, 0, none⟩), .int .i64 o] w fun e w' => e = .returned (.pointer (some ⟨tb, 0, none⟩)) ∧ w' = w := by
      have : (some x).bind Ob.ptr = some ⟨tb, 0, none⟩ := by simp [Ob.ptr, ht]
      rw [this] at HT; exact HT
    obtain ⟨s, hs, _⟩ := ((h.ob i x hi).tab tb ht).2.1.size
    have HQ : Hid (∃ t, x.tb = some t ∧ w.cell? ⟨t, 9, none⟩ = some (.int .i64 (s : Int))) := ⟨tb, ht, hs⟩
    clear HT hx h hi ho ht
    go_enter Tryd.func15, Tryd.ntmps15
    go_wp2_with fail
    refine HT2.mono ?_
    rintro e w' ⟨rfl, rfl⟩
    clear HT2
    go_wp2
    go_ret
    exact ⟨rfl, s, rfl, HQ.out⟩

end Go.Proofs.YtjkedocppbcncaaDoor

/-
  Layer 9: a heap is made, an object is laid behind all others, a table is made.
-/
namespace Go.Proofs.YtjkedocppbcncaaDoor
set_option maxRecDepth 100000
open Go.RowKit Flo

def V0 : V4 := ⟨0, 0, ⟨#[]⟩, 0⟩
theorem fresh_tab (w : World) (db : Db w) : Tv (w.alloc (.cells #[.int .i64 0, .int .u64 0, .string ⟨#[]⟩, .int .i64 0, .int .i64 0, .pointer none, .pointer none, .slice none 0 0, .slice none 0 0, .int .i64 0] 70)) w.heap.size (fun k => k = w.heap.size) [] V0 := by
  have two : 1 < w.heap.size := World.block_lt_of_cell? w ⟨1, 0, none⟩ (db 0 (by decide))
  have hc : ∀ o, (w.alloc (.cells #[.int .i64 0, .int .u64 0, .string ⟨#[]⟩, .int .i64 0, .int .i64 0, .pointer none, .pointer none, .slice none 0 0, .slice none 0 0, .int .i64 0] 70)).cell? ⟨w.heap.size, o, none⟩ = (#[.int .i64 0, .int .u64 0, .string ⟨#[]⟩, .int .i64 0, .int .i64 0, .pointer none, .pointer none, .slice none 0 0, .slice none 0 0, .int .i64 0] : Array Value)[o]? := fun o => World.cell?_alloc_at _ _ _ _ rfl
  refine ⟨rfl, fun k hk => (by rw [hk]; simp), fun k => (by omega), fun k o hk => ?_, ?_, ⟨hc 0, hc 1, hc 2, hc 3⟩, ⟨hc 4, hc 5, hc 6, trivial, trivial, List.nodup_nil, fun e he => (by cases he)⟩, by simp, fun e he => (by cases he), fun e he => (by cases he), Or.inl ⟨rfl, hc 7, hc 8, hc 9⟩⟩
  · rw [hk]; exact World.frozen?_alloc_at _ _ _ _ rfl
  · exact db.wx (Wx.of_below (fun _ => False) ((Below.refl _ _).alloc (Nat.le_refl _) _)) (fun c => c)

set_option maxHeartbeats 1000000 in
theorem hnew_any (lim : Nat) (w : World) (hl : lim ≤ 1048576) (db : Db w) :
    Calls Tryd.prog 6 #[.int .i64 (lim : Int)] w fun e w' => e = .returned (.tuple #[.pointer (some ⟨w.heap.size, 0, none⟩), .int .i64 0]) ∧ Hv w' w.heap.size lim 0 (.slice none 0 0) [] (fun k => k = w.heap.size) ∧ Below w.heap.size w w' := by
  have two : 1 < w.heap.size := World.block_lt_of_cell? w ⟨1, 0, none⟩ (db 0 (by decide))
  have HQ : Hid (Hv (w.alloc (.cells #[.int .i64 lim, .int .i64 0, .slice none 0 0] 57)) w.heap.size lim 0 (.slice none 0 0) [] (fun k => k = w.heap.size)) := by
    have hc : ∀ o, (w.alloc (.cells #[.int .i64 lim, .int .i64 0, .slice none 0 0] 57)).cell? ⟨w.heap.size, o, none⟩ = (#[.int .i64 lim, .int .i64 0, .slice none 0 0] : Array Value)[o]? := fun o => World.cell?_alloc_at _ _ _ _ rfl
    refine ⟨hc 0, hc 1, hc 2, fun o => World.frozen?_alloc_at _ _ _ _ rfl, World.ownsRow_nil _ _ _ _, hl, Nat.zero_le _, rfl, fun i o h => (by simp at h), fun i o h => (by simp at h), fun k hk => (by rw [hk]; simp), fun k => (by omega), rfl, fun g hg => (by cases hg), fun i o h => (by simp at h), fun i j o p h => (by simp at h), ?_⟩
    exact db.wx (Wx.of_below (fun _ => False) ((Below.refl _ _).alloc (Nat.le_refl _) _)) (fun c => c)
  have h1 : ¬ (lim : Int) < 0 := by omega
  have h2 : ¬ (lim : Int) > 1048576 := by omega
  go_enter Tryd.func6, Tryd.ntmps6
  go_wp2
  go_ret2
  exact ⟨rfl, HQ.out, (Below.refl _ _).alloc (Nat.le_refl _) _⟩

end Go.Proofs.YtjkedocppbcncaaDoor

/-
  Layer 9: an object laid behind all others: add; Table.
-/
namespace Go.Proofs.YtjkedocppbcncaaDoor
set_option maxRecDepth 100000
open Go.RowKit Flo

theorem infoOb : (Tryd.prog.info? 72).map (fun i => (i.zero, i.size, i.bytes)) = some (some (.agg #[.int .i64 0, .int .i64 0, .int .i64 0, .slice none 0 0, .pointer none]), 5, 56) := by kernel_rfl

/-- The heap behind an object that is laid behind all others. -/
theorem Hv.snoc {w w1 w2 : World} {hb lim used g cap : Nat} {R : Value} {os : List Ob} {Z : Nat → Prop} {o : Ob} (h : Hv w hb lim used R os Z) (hv : Obv w o) (hX : ∀ k, o.X k → k < w.heap.size ∧ ¬ Z k ∧ k ≠ 1) (hM : o.M.K = 0) (hes : o.es = []) (hwt : used + 1 + o.sl.length ≤ lim)
    (hb1 : Below w.heap.size w w1) (hown : w2.ownsRow 0 72 5 (.slice (some ⟨g, 0, none⟩) (os.length + 1) cap) (os.length + 1) (obC os ++ o.cells)) (hgrow : w1.grownBy w2 R.ownBlock) (hg : R.ownBlock = some g ∨ g = w1.heap.size) :
    w2.cell? ⟨hb, 2, none⟩ = some R ∧ w2.cell? ⟨hb, 1, none⟩ = some (.int .i64 used) ∧ (∀ i, w2.frozen? ⟨hb, i, none⟩ = false) ∧
    ∀ w4, (w4.heap = ((w2.setCell ⟨hb, 2, none⟩ (.slice (some ⟨g, 0, none⟩) (os.length + 1) cap)).setCell ⟨hb, 1, none⟩ (.int .i64 ((used + 1 + o.sl.length : Nat) : Int))).heap) → w4.os = w2.os → w4.tape = w2.tape → w4.output = w2.output →
      Hv w4 hb lim (used + 1 + o.sl.length) (.slice (some ⟨g, 0, none⟩) (os.length + 1) cap) (os ++ [o]) (fun k => Zn Z w.heap.size w4.heap.size k ∨ o.X k) ∧ Wx Z w w4 := by
  have hs1 := hb1.size
  have hs2 := hgrow.size
  have hrl : ∀ k, R.ownBlock = some k → k < w.heap.size ∧ Z k ∧ k ≠ hb := fun k hk => ⟨h.lt k (h.zr k hk).1, (h.zr k hk).1, (h.zr k hk).2⟩
  have hhl := h.lt hb h.zh
  have hblk : ∀ k, k < w.heap.size → R.ownBlock ≠ some k → w2.heap[k]? = w.heap[k]? := fun k hk hne => (hgrow.block k (by omega) (fun e => hne e.symm)).trans (hb1.block k hk)
  have hne : R.ownBlock ≠ some hb := fun e => (hrl hb e).2.2 rfl
  have hcb : ∀ i, w2.cell? ⟨hb, i, none⟩ = w.cell? ⟨hb, i, none⟩ := fun i => World.cell?_of_block (w := w) (a := ⟨hb, i, none⟩) (hblk hb hhl hne)
  have hfb : ∀ i, w2.frozen? ⟨hb, i, none⟩ = false := fun i => (World.frozen?_of_block (w := w) (a := ⟨hb, i, none⟩) (hblk hb hhl hne)).trans (h.hfree i)
  have hgb : g ≠ hb := by
    rcases hg with c | c
    · exact (hrl g c).2.2
    · omega
  refine ⟨(hcb 2).trans h.c2, (hcb 1).trans h.c1, hfb, fun w4 hw4 ho4 ht4 hp4 => ?_⟩
  have hsz4 : w4.heap.size = w2.heap.size := by rw [hw4, World.size_setCell, World.size_setCell]
  have hbl4 : ∀ k, k ≠ hb → w4.heap[k]? = w2.heap[k]? := fun k hk => by rw [hw4, heap_setCell_other _ _ _ _ hk, heap_setCell_other _ _ _ _ hk]
  have hc4 : ∀ a : Addr, w4.cell? a = ((w2.setCell ⟨hb, 2, none⟩ (.slice (some ⟨g, 0, none⟩) (os.length + 1) cap)).setCell ⟨hb, 1, none⟩ (.int .i64 ((used + 1 + o.sl.length : Nat) : Int))).cell? a := fun a => World.cell?_of_block (by rw [hw4])
  have hf4 : ∀ a : Addr, w4.frozen? a = w2.frozen? a := fun a => by
    have h1 : w4.frozen? a = ((w2.setCell ⟨hb, 2, none⟩ (.slice (some ⟨g, 0, none⟩) (os.length + 1) cap)).setCell ⟨hb, 1, none⟩ (.int .i64 ((used + 1 + o.sl.length : Nat) : Int))).frozen? a := World.frozen?_of_block (by rw [hw4])
    rw [h1, World.frozen?_setCell, World.frozen?_setCell]
  have hwx0 : Wx (fun k => k = hb ∨ R.ownBlock = some k) w w4 := ⟨by rw [ho4, hgrow.os, hb1.os], by rw [ht4, hgrow.tape, hb1.tape], by rw [hp4, hgrow.output, hb1.output], by omega, fun k hk hx => (hbl4 k (fun e => hx (Or.inl e))).trans (hblk k hk (fun e => hx (Or.inr e)))⟩
  have hwx : Wx Z w w4 := hwx0.more (fun k hk => by
    rcases hk with c | c
    · rw [c]; exact Or.inl h.zh
    · exact Or.inl (hrl k c).2.1)
  have hn1 : ¬ (1 = hb ∨ R.ownBlock = some 1) := by
    rintro (c | c)
    · exact h.no1 (c ▸ h.zh)
    · exact h.no1 (hrl 1 c).2.1
  have hgs : ∀ (i : Nat) p, (os ++ [o])[i]? = some p → (i < os.length ∧ os[i]? = some p) ∨ (i = os.length ∧ p = o) := by
    intro i p hp
    rcases Nat.lt_or_ge i os.length with c | c
    · rw [List.getElem?_append_left c] at hp; exact Or.inl ⟨c, hp⟩
    · rw [List.getElem?_append_right c] at hp
      by_cases d : i = os.length
      · rw [d, Nat.sub_self] at hp
        exact Or.inr ⟨d, (Option.some.inj hp).symm⟩
      · rw [List.getElem?_eq_none (by simp; omega)] at hp; cases hp
  have hgw : g < w4.heap.size := by
    rcases rowForm hown with ⟨c, _⟩ | ⟨g', cap', c, d⟩
    · cases c
    · injection c with c _ _; injection c with c; injection c with c; omega
  refine ⟨⟨?_, ?_, ?_, fun i => (hf4 _).trans (hfb i), ?_, h.hl, hwt, ?_, ?_, ?_, ?_, ?_, Or.inl (Or.inl h.zh), ?_, ?_, ?_, h.db.wx hwx0 hn1⟩, hwx⟩
  · rw [hc4, World.cell?_setCell_other _ _ _ _ (by simp), World.cell?_setCell_other _ _ _ _ (by simp), hcb]; exact h.c0
  · rw [hc4]
    have h1 : (w2.setCell ⟨hb, 2, none⟩ (.slice (some ⟨g, 0, none⟩) (os.length + 1) cap)).cell? ⟨hb, 1, none⟩ = some (.int .i64 used) := by
      rw [World.cell?_setCell_other _ _ _ _ (by simp), hcb]; exact h.c1
    exact World.cell?_setCell_same _ _ _ h1
  · rw [hc4, World.cell?_setCell_other _ _ _ _ (by simp)]
    exact World.cell?_setCell_same _ _ _ ((hcb 2).trans h.c2)
  · rw [obC_snoc, List.length_append, List.length_singleton]
    refine rowStay hown (fun k hk => ?_)
    have hk2 : g = k := by simpa [Value.ownBlock] using hk
    exact hbl4 k (by omega)
  · have := h.sum
    rw [List.map_append, List.sum_append]
    simp only [List.map_cons, List.map_nil, List.sum_cons, List.sum_nil, Ob.wt, hes, List.length_nil]
    omega
  · intro i p hp
    rcases hgs i p hp with ⟨_, hp⟩ | ⟨_, rfl⟩
    · exact (h.ob i p hp).wx hwx0 (fun k hk c => by
        rcases c with c | c
        · exact (h.zx i p hp k hk).2.1 c
        · exact (h.zx i p hp k hk).2.2 c) hn1
    · exact hv.wx hwx0 (fun k hk c => by
        rcases c with c | c
        · exact (hX k hk).2.1 (c ▸ h.zh)
        · exact (hX k hk).2.1 (hrl k c).2.1) hn1
  · intro i p hp
    rcases hgs i p hp with ⟨_, hp⟩ | ⟨_, rfl⟩
    · rcases h.mt i p hp with c | ⟨c1, c2, q, c3, c4⟩
      · exact Or.inl c
      · refine Or.inr ⟨c1, c2, q, ?_, c4⟩
        rw [List.getElem?_append_left]
        · exact c3
        · rcases Nat.lt_or_ge (p.M.O - 1).toNat os.length with d | d
          · exact d
          · rw [List.getElem?_eq_none d] at c3; cases c3
    · exact Or.inl hM
  · rintro k (hk | hk)
    · rcases hk with c | c
      · have := h.lt k c; omega
      · omega
    · have := (hX k hk).1; omega
  · rintro (hk | hk)
    · rcases hk with c | c
      · exact h.no1 c
      · have := h.two; omega
    · exact (hX 1 hk).2.2 rfl
  · intro k hk0
    have hk : g = k := by simpa [Value.ownBlock] using hk0
    refine ⟨?_, by omega⟩
    rcases hg with c | c
    · exact Or.inl (Or.inl (hk ▸ (hrl g c).2.1))
    · exact Or.inl (Or.inr ⟨by omega, by omega⟩)
  · intro i p hp k hk
    rcases hgs i p hp with ⟨_, hp⟩ | ⟨_, rfl⟩
    · refine ⟨Or.inl (Or.inl (h.zx i p hp k hk).1), (h.zx i p hp k hk).2.1, fun e0 => ?_⟩
      have e : g = k := by simpa [Value.ownBlock] using e0
      rcases hg with c | c
      · exact (h.zx i p hp k hk).2.2 (e ▸ c)
      · have := h.lt k (h.zx i p hp k hk).1; omega
    · refine ⟨Or.inr hk, fun e => (hX k hk).2.1 (e ▸ h.zh), fun e0 => ?_⟩
      have e : g = k := by simpa [Value.ownBlock] using e0
      rcases hg with c | c
      · exact (hX k hk).2.1 (e ▸ (hrl g c).2.1)
      · have := (hX k hk).1; omega
  · intro i j p q hp hq hij k hk hk2
    rcases hgs i p hp with ⟨_, hp1⟩ | ⟨e1, f1⟩
    · rcases hgs j q hq with ⟨_, hq1⟩ | ⟨e2, f2⟩
      · exact h.xx i j p q hp1 hq1 hij k hk hk2
      · rw [f2] at hk2
        exact (hX k hk2).2.1 (h.zx i p hp1 k hk).1
    · rcases hgs j q hq with ⟨_, hq1⟩ | ⟨e2, _⟩
      · rw [f1] at hk
        exact (hX k hk).2.1 (h.zx j q hq1 k hk2).1
      · omega

end Go.Proofs.YtjkedocppbcncaaDoor

/-
  Layer 9: add, Table.
-/
namespace Go.Proofs.YtjkedocppbcncaaDoor
set_option maxRecDepth 100000
open Go.RowKit Flo

set_option maxHeartbeats 1000000 in
theorem hadd_any (hb lim used : Nat) (R : Value) (os : List Ob) (Z : Nat → Prop) (o : Ob) (w : World) (h : Hv w hb lim used R os Z) (hv : Obv w o) (hX : ∀ k, o.X k → k < w.heap.size ∧ ¬ Z k ∧ k ≠ 1) (hM : o.M.K = 0) (hes : o.es = []) (hwt : used + 1 + o.sl.length ≤ lim) :
    Calls Tryd.prog 29 #[.pointer (some ⟨hb, 0, none⟩), .agg #[.int .i64 o.k, .int .i64 o.a, .int .i64 o.b, o.slV, .pointer o.ptr]] w fun e w' => e = .returned (.int .i64 ((os.length + 1 : Nat) : Int)) ∧
      ∃ R', Hv w' hb lim (used + 1 + o.sl.length) R' (os ++ [o]) (fun k => Zn Z w.heap.size w'.heap.size k ∨ o.X k) ∧ Wx Z w w' := by
  have hlen : os.length ≤ used := by have := sum_len os; have := h.sum; omega
  have hlim := h.hl
  obtain ⟨a, cap, hR⟩ : ∃ a cap, R = .slice a os.length cap := by
    rcases rowForm h.row with ⟨e, e0⟩ | ⟨g, cap, e, _⟩
    · exact ⟨none, 0, by rw [e, e0]⟩
    · exact ⟨_, cap, e⟩
  obtain ⟨sa, sc, hsl⟩ : ∃ sa sc, o.slV = .slice sa o.sl.length sc := by
    unfold Ob.slV
    cases ht : o.tb with
    | some t => exact ⟨none, 0, by have := ((hv.tab t ht).1.2.2.2); simp [this]⟩
    | none => exact ⟨_, _, rfl⟩
  obtain ⟨i0, hi0⟩ : ∃ i, Tryd.prog.info? 72 = some i := by
    cases hq : Tryd.prog.info? 72 with
    | none => have := infoOb; rw [hq] at this; cases this
    | some q => exact ⟨q, rfl⟩
  have hinfo := infoOb
  rw [hi0] at hinfo
  simp only [Option.map_some, Option.some.injEq, Prod.mk.injEq] at hinfo
  obtain ⟨hz0, hz1, hz2⟩ := hinfo
  have hcells : o.cells = [.int .i64 o.k, .int .i64 o.a, .int .i64 o.b, .slice sa o.sl.length sc, .pointer o.ptr] := by unfold Ob.cells; rw [hsl]
  subst hR
  have k2 := h.c2
  have k1 := h.c1
  have z2 := h.hfree 2
  have z1 := h.hfree 1
  have hhl := h.lt hb h.zh
  have hrow := h.row
  have HS : Hid (∀ (w1 w2 : World) (g cap2 : Nat), Below w.heap.size w w1 → w2.ownsRow 0 72 5 (.slice (some ⟨g, 0, none⟩) (os.length + 1) cap2) (os.length + 1) (obC os ++ o.cells) → w1.grownBy w2 (Value.slice a os.length cap).ownBlock → ((Value.slice a os.length cap).ownBlock = some g ∨ g = w1.heap.size) →
    w2.cell? ⟨hb, 2, none⟩ = some (.slice a os.length cap) ∧ w2.cell? ⟨hb, 1, none⟩ = some (.int .i64 used) ∧ (∀ i, w2.frozen? ⟨hb, i, none⟩ = false) ∧
    ∀ w4, (w4.heap = ((w2.setCell ⟨hb, 2, none⟩ (.slice (some ⟨g, 0, none⟩) (os.length + 1) cap2)).setCell ⟨hb, 1, none⟩ (.int .i64 ((used + 1 + o.sl.length : Nat) : Int))).heap) → w4.os = w2.os → w4.tape = w2.tape → w4.output = w2.output →
      Hv w4 hb lim (used + 1 + o.sl.length) (.slice (some ⟨g, 0, none⟩) (os.length + 1) cap2) (os ++ [o]) (fun k => Zn Z w.heap.size w4.heap.size k ∨ o.X k) ∧ Wx Z w w4) :=
    fun w1 w2 g cap2 a1 a2 a3 a4 => h.snoc hv hX hM hes hwt a1 a2 a3 a4
  rw [hsl]
  rw [hcells] at HS
  clear hv hX hM hes h hsl hcells
  generalize o.k = ok at *
  generalize o.a = oa at *
  generalize o.b = ob at *
  generalize o.ptr = op at *
  generalize o.sl.length = sn at *
  generalize os.length = n at *
  have HBW : Hid (Below w.heap.size w ((w.alloc (.cells #[.int .i64 ok, .int .i64 oa, .int .i64 ob, .slice sa sn sc, .pointer op] 72)).alloc (.cells #[.int .i64 ok, .int .i64 oa, .int .i64 ob, .slice sa sn sc, .pointer op] 72)).drew) := ((((Below.refl _ w).alloc (Nat.le_refl _) _).alloc (by simp) _).drew)
  have HOW : Hid (((w.alloc (.cells #[.int .i64 ok, .int .i64 oa, .int .i64 ob, .slice sa sn sc, .pointer op] 72)).alloc (.cells #[.int .i64 ok, .int .i64 oa, .int .i64 ob, .slice sa sn sc, .pointer op] 72)).drew.ownsRow 0 72 5 (.slice a n cap) n (obC os)) := rowStay hrow (fun g hg => HBW.out.block g (World.ownsRow.lt hrow g hg).2)
  have hnews : ∀ j u, ([.int .i64 ok, .int .i64 oa, .int .i64 ob, .slice sa sn sc, .pointer op] : List Value)[j]? = some u → ((w.alloc (.cells #[.int .i64 ok, .int .i64 oa, .int .i64 ob, .slice sa sn sc, .pointer op] 72)).alloc (.cells #[.int .i64 ok, .int .i64 oa, .int .i64 ob, .slice sa sn sc, .pointer op] 72)).drew.cell? ((⟨w.heap.size + 1, 0, none⟩ : Addr).add j) = some u :=
    World.news_of_block (w := ((w.alloc (.cells #[.int .i64 ok, .int .i64 oa, .int .i64 ob, .slice sa sn sc, .pointer op] 72)).alloc (.cells #[.int .i64 ok, .int .i64 oa, .int .i64 ob, .slice sa sn sc, .pointer op] 72)).drew) (B := w.heap.size + 1) (cs := #[.int .i64 ok, .int .i64 oa, .int .i64 ob, .slice sa sn sc, .pointer op]) (t := 72) (fr := (0, 0)) (by have q := heap_alloc_new (w.alloc (.cells #[.int .i64 ok, .int .i64 oa, .int .i64 ob, .slice sa sn sc, .pointer op] 72)) (.cells #[.int .i64 ok, .int .i64 oa, .int .i64 ob, .slice sa sn sc, .pointer op] 72); rw [show (w.alloc (.cells #[.int .i64 ok, .int .i64 oa, .int .i64 ob, .slice sa sn sc, .pointer op] 72)).heap.size = w.heap.size + 1 by simp] at q; exact q)
  have hrl : Hid (∀ k, (Value.slice a n cap).ownBlock = some k → k < w.heap.size) := fun k hk => (World.ownsRow.lt hrow k hk).2
  have hone : ∀ u ∈ ([.int .i64 ok, .int .i64 oa, .int .i64 ob, .slice sa sn sc, .pointer op] : List Value), u.oneCell' = true := by
    intro u hu; simp at hu; rcases hu with rfl | rfl | rfl | rfl | rfl <;> rfl
  go_enter Tryd.func29, Tryd.ntmps29
  go_wp2_with fail
  go_region_law (refine step_append_lies _ rfl (.tmp 9) (.tmp 11) 55 rfl 0 72 i0 _ 5 56 Tryd.underlying55 hi0 hz0 hz1 hz2 rfl (by decide) (.slice a n cap) n (obC os) (by simp [Act.eval]) HOW.out ⟨w.heap.size + 1, 0, none⟩ 1 1 [.int .i64 ok, .int .i64 oa, .int .i64 ob, .slice sa sn sc, .pointer op] (by simp [Act.eval]) rfl hnews hone (by decide) (by unfold maxLen; omega) (by omega) (Nat.zero_le _) _ rfl ?_; intro g cap2 w2 q1 q2 q3 q4; obtain ⟨y2, y1, yf, yh⟩ := HS.out _ w2 g cap2 HBW.out q1 q2 q3; have z2' := yf 2; have z1' := yf 1; have HY : Hid _ := yh; have ybox : w2.cell? ⟨w.heap.size, 3, none⟩ = some (.slice sa sn sc) := (q2.cell_far ⟨w.heap.size, 3, none⟩ (by simp <;> omega) (fun e => by have := hrl.out _ e.symm; simp only at this; omega)).trans (by go_simp); clear q1 q2 q3 yh yf)
  clear HS HBW HOW hnews hone hrow
  all_goals go_wp2_with fail
  all_goals go_region
  all_goals go_wp2
  all_goals go_ret
  all_goals refine ⟨?_, _, HY.out _ ?_ rfl rfl rfl⟩
  all_goals first | rfl | skip
  all_goals (rw [show ((used + 1 + sn : Nat) : Int) = (used : Int) + (1 + (sn : Int)) by omega])
  all_goals rfl

end Go.Proofs.YtjkedocppbcncaaDoor

/-
  Layer 9: Table, Used.
-/
namespace Go.Proofs.YtjkedocppbcncaaDoor
set_option maxRecDepth 100000
open Go.RowKit Flo

/-- A new table's object. -/
def tabO (b : Nat) : Ob := ⟨5, 0, 0, 0, [], some b, [], V0, fun k => k = b⟩
theorem below_drewN (w : World) (q : Nat) : Below w.heap.size w (w.drewN q) := ⟨rfl, rfl, rfl, Nat.le_refl _, fun _ _ => rfl⟩

set_option maxHeartbeats 1000000 in
theorem table_hv {w : World} {hb lim used : Nat} {R : Value} {os : List Ob} {Z : Nat → Prop} (h : Hv w hb lim used R os Z) (hlt : used < lim) :
    Calls Tryd.prog 11 #[.pointer (some ⟨hb, 0, none⟩)] w fun e w' => e = .returned (.tuple #[.int .i64 ((os.length + 1 : Nat) : Int), .int .i64 0]) ∧
      ∃ R' Z', Hv w' hb lim (used + 1) R' (os ++ [tabO w.heap.size]) Z' ∧ Wx Z w w' ∧ ∀ k, Z' k → Z k ∨ w.heap.size ≤ k := by
  have hl := left_any hb lim used w h.c0 h.c1 ⟨by omega, by have := h.hl; omega⟩ ⟨by omega, by have := h.hl; have := h.hu; omega⟩
  have hc : ¬ ((lim : Int) - (used : Int) < 1) := by omega
  have HA : Hid (∀ q : Nat, Calls Tryd.prog 29 #[.pointer (some ⟨hb, 0, none⟩), .agg #[.int .i64 5, .int .i64 0, .int .i64 0, .slice none 0 0, .pointer (some ⟨w.heap.size, 0, none⟩)]] ((w.drewN q).alloc (.cells #[.int .i64 0, .int .u64 0, .string ⟨#[]⟩, .int .i64 0, .int .i64 0, .pointer none, .pointer none, .slice none 0 0, .slice none 0 0, .int .i64 0] 70)) fun e w' => e = .returned (.int .i64 ((os.length + 1 : Nat) : Int)) ∧
      ∃ R' Z', Hv w' hb lim (used + 1) R' (os ++ [tabO w.heap.size]) Z' ∧ Wx Z w w' ∧ ∀ k, Z' k → Z k ∨ w.heap.size ≤ k) := by
    intro q
    have hb1 : Below w.heap.size w ((w.drewN q).alloc (.cells #[.int .i64 0, .int .u64 0, .string ⟨#[]⟩, .int .i64 0, .int .i64 0, .pointer none, .pointer none, .slice none 0 0, .slice none 0 0, .int .i64 0] 70)) := (below_drewN w q).alloc (Nat.le_refl _) _
    have ht := fresh_tab (w.drewN q) (h.below (below_drewN w q)).db
    have hv1 := h.below hb1
    have hs : ((w.drewN q).alloc (.cells #[.int .i64 0, .int .u64 0, .string ⟨#[]⟩, .int .i64 0, .int .i64 0, .pointer none, .pointer none, .slice none 0 0, .slice none 0 0, .int .i64 0] 70)).heap.size = w.heap.size + 1 := by
      have : (w.drewN q).heap.size = w.heap.size := rfl
      simp
    have two := h.two
    refine (hadd_any hb lim used R os Z (tabO w.heap.size) _ hv1 ⟨fun tb e => ?_, fun e => by cases e⟩ (fun k hk => ?_) rfl rfl (by show used + 1 + 0 ≤ lim; omega)).mono ?_
    · have e1 : w.heap.size = tb := Option.some.inj e
      subst e1
      exact ⟨⟨rfl, rfl, rfl, rfl⟩, ht, fun e he => (by cases he)⟩
    · have hk1 : k = w.heap.size := hk
      subst hk1
      exact ⟨by omega, fun c => by have := h.lt _ c; omega, by omega⟩
    · rintro e w' ⟨h1, R', h2, h3⟩
      refine ⟨h1, R', _, h2, (Wx.of_below Z hb1).trans h3 (fun k hk => Or.inl hk), fun k hk => ?_⟩
      rcases hk with (c | c) | c
      · exact Or.inl c
      · exact Or.inr (by omega)
      · have c1 : k = w.heap.size := c
        exact Or.inr (by omega)
  clear h
  go_enter Tryd.func11, Tryd.ntmps11
  go_wp2_with fail
  refine hl.mono ?_
  rintro e w1 ⟨rfl, q, rfl⟩
  clear hl
  go_wp2_with fail
  refine (HA.out q).mono ?_
  rintro e w1 ⟨rfl, hq⟩
  have HQ : Hid _ := hq
  clear hq HA
  go_wp2
  go_ret2
  exact ⟨rfl, HQ.out⟩

theorem used_hv {w : World} {hb lim used : Nat} {R : Value} {os : List Ob} {Z : Nat → Prop} (h : Hv w hb lim used R os Z) :
    Calls Tryd.prog 8 #[.pointer (some ⟨hb, 0, none⟩)] w fun e w' => e = .returned (.int .i64 (used : Int)) ∧ w' = w := by
  have k1 := h.c1
  clear h
  go_enter Tryd.func8, Tryd.ntmps8
  go_wp2
  go_ret
  exact ⟨rfl, rfl⟩

end Go.Proofs.YtjkedocppbcncaaDoor

/-
  Plain mathematics of parts of 32 bits. No Go in sight.
-/
namespace Go.Proofs.YtjkedocppbcncaaDoor.Pt
set_option maxRecDepth 100000

/-- What parts stand for, the lowest first. -/
def pv : List Nat → Nat
  | [] => 0
  | d :: r => d + 4294967296 * pv r
def Sm (ds : List Nat) : Prop := ∀ d ∈ ds, d < 4294967296
/-- No nought at the top. -/
def Tr (ds : List Nat) : Prop := ds.length = 0 ∨ 4294967296 ^ (ds.length - 1) ≤ pv ds
/-- How many bits a number has. -/
def bl (n : Nat) : Nat := if n = 0 then 0 else n.log2 + 1

theorem rpos (k : Nat) : 0 < 4294967296 ^ k := Nat.pow_pos (by decide)
theorem pow32 (k : Nat) : 4294967296 ^ k = 2 ^ (32 * k) := by rw [Nat.pow_mul]
theorem pv_append : ∀ (xs ys : List Nat), pv (xs ++ ys) = pv xs + 4294967296 ^ xs.length * pv ys := by
  intro xs ys
  induction xs with
  | nil => simp [pv]
  | cons d r ih => rw [List.cons_append, pv, pv, ih, List.length_cons, Nat.pow_succ', Nat.mul_add, Nat.mul_assoc, Nat.add_assoc]
theorem pv_snoc (xs : List Nat) (d : Nat) : pv (xs ++ [d]) = pv xs + 4294967296 ^ xs.length * d := by
  rw [pv_append]; simp [pv]
theorem pv_lt : ∀ (ds : List Nat), Sm ds → pv ds < 4294967296 ^ ds.length := by
  intro ds
  induction ds with
  | nil => intro _; simp [pv]
  | cons d r ih =>
    intro hs
    have hd : d < 4294967296 := hs d (by simp)
    have := ih (fun x hx => hs x (by simp [hx]))
    rw [List.length_cons, Nat.pow_succ']
    unfold pv
    omega
theorem sm_take {ds : List Nat} (k : Nat) (hs : Sm ds) : Sm (ds.take k) := fun x hx => hs x (List.mem_of_mem_take hx)
theorem sm_snoc {ds : List Nat} {d : Nat} (hs : Sm ds) (hd : d < 4294967296) : Sm (ds ++ [d]) := by
  intro x hx
  rcases List.mem_append.1 hx with h | h
  · exact hs x h
  · simp at h; omega
theorem sm_set {ds : List Nat} {k d : Nat} (hs : Sm ds) (hd : d < 4294967296) : Sm (ds.set k d) := by
  intro x hx
  rcases List.mem_or_eq_of_mem_set hx with h | h
  · exact hs x h
  · omega
theorem sm_getD {ds : List Nat} (k : Nat) (hs : Sm ds) : ds.getD k 0 < 4294967296 := by
  rw [List.getD_eq_getElem?_getD]
  rcases Nat.lt_or_ge k ds.length with h | h
  · rw [List.getElem?_eq_getElem h]; exact hs _ (List.getElem_mem h)
  · rw [List.getElem?_eq_none h]; decide
theorem pv_take_succ : ∀ (ds : List Nat) (k : Nat), pv (ds.take (k + 1)) = pv (ds.take k) + 4294967296 ^ k * ds.getD k 0 := by
  intro ds
  induction ds with
  | nil => intro k; simp [pv]
  | cons d r ih =>
    intro k
    cases k with
    | zero => simp [pv]
    | succ k => rw [List.take_succ_cons, List.take_succ_cons, pv, pv, ih, List.getD_cons_succ, Nat.mul_add, Nat.pow_succ', Nat.mul_assoc, Nat.add_assoc]
theorem pv_set_take : ∀ (rs : List Nat) (k y : Nat), k < rs.length → pv ((rs.set k y).take (k + 1)) = pv (rs.take k) + 4294967296 ^ k * y := by
  intro rs
  induction rs with
  | nil => intro k y h; simp at h
  | cons d r ih =>
    intro k y h
    cases k with
    | zero => simp [pv]
    | succ k =>
      rw [List.set_cons_succ, List.take_succ_cons, List.take_succ_cons, pv, pv, ih k y (by simpa using h), Nat.mul_add, Nat.pow_succ', Nat.mul_assoc, Nat.add_assoc]
theorem pget_set {rs : List Nat} {k j y : Nat} (h : k ≠ j) : (rs.set k y).getD j 0 = rs.getD j 0 := by
  rw [List.getD_eq_getElem?_getD, List.getD_eq_getElem?_getD, List.getElem?_set_ne h]

/-- A step of the product. -/
theorem times_step {rs ds : List Nat} {k by' more cc : Nat} (hk : k < rs.length) (h : pv (rs.take k) + 4294967296 ^ k * cc = pv (ds.take k) * by' + more) :
    pv ((rs.set k ((cc + ds.getD k 0 * by') % 4294967296)).take (k + 1)) + 4294967296 ^ (k + 1) * ((cc + ds.getD k 0 * by') / 4294967296) = pv (ds.take (k + 1)) * by' + more := by
  rw [pv_set_take _ _ _ hk, pv_take_succ ds k, Nat.pow_succ, Nat.mul_assoc, Nat.add_assoc, ← Nat.mul_add, Nat.mod_add_div, Nat.mul_add, ← Nat.add_assoc, h, Nat.add_mul, ← Nat.mul_assoc]
  omega
theorem times_cc {cc d by' : Nat} (h1 : cc < 4294967296) (h2 : d < 4294967296) (h3 : by' < 4294967296) : d * by' ≤ 18446744065119617025 ∧ (cc + d * by') / 4294967296 < 4294967296 := by
  have h : d * by' ≤ 4294967295 * 4294967295 := Nat.mul_le_mul (by omega) (by omega)
  exact ⟨h, by omega⟩
theorem tr_times {ds rs : List Nat} {by' more : Nat} (hl : rs.length = ds.length) (ht : Tr ds) (hb : 1 ≤ by') (h : pv rs = pv ds * by' + more) : Tr rs := by
  unfold Tr
  rcases ht with h0 | h0
  · exact Or.inl (by omega)
  · refine Or.inr ?_
    rw [hl, h]
    have := Nat.le_mul_of_pos_right (pv ds) hb
    omega
theorem tr_snoc {rs : List Nat} {cc : Nat} (hc : cc ≠ 0) : Tr (rs ++ [cc]) := by
  refine Or.inr ?_
  rw [pv_snoc, List.length_append, List.length_singleton, Nat.add_sub_cancel]
  have := Nat.le_mul_of_pos_right (4294967296 ^ rs.length) (Nat.pos_of_ne_zero hc)
  omega
theorem take_all {ds : List Nat} {k : Nat} (h : k = ds.length) : ds.take k = ds := by subst h; simp

/-- A step of the difference. -/
theorem minus_step {rs ds ms : List Nat} {k bw df b2 : Nat} (hk : k < rs.length) (h : pv (rs.take k) + pv (ms.take k) = pv (ds.take k) + 4294967296 ^ k * bw) (hd : df + ms.getD k 0 + bw = ds.getD k 0 + 4294967296 * b2) :
    pv ((rs.set k df).take (k + 1)) + pv (ms.take (k + 1)) = pv (ds.take (k + 1)) + 4294967296 ^ (k + 1) * b2 := by
  rw [pv_set_take _ _ _ hk, pv_take_succ ds k, pv_take_succ ms k, Nat.pow_succ, Nat.mul_assoc]
  have e : 4294967296 ^ k * (df + ms.getD k 0 + bw) = 4294967296 ^ k * (ds.getD k 0 + 4294967296 * b2) := by rw [hd]
  rw [Nat.mul_add, Nat.mul_add, Nat.mul_add] at e
  omega
theorem len_le {ds ms : List Nat} (hm : Tr ms) (hs : Sm ds) (h : pv ms ≤ pv ds) : ms.length ≤ ds.length := by
  rcases hm with h0 | h0
  · omega
  · have := pv_lt ds hs
    have h1 : 4294967296 ^ (ms.length - 1) < 4294967296 ^ ds.length := by omega
    have := (Nat.pow_lt_pow_iff_right (by decide : 1 < 4294967296)).1 h1
    omega
theorem pm_end {rs ds ms : List Nat} {bw : Nat} (hl : rs.length = ds.length) (hr : Sm rs) (hs : Sm ds) (hm : Tr ms) (h : pv ms ≤ pv ds) (he : pv (rs.take ds.length) + pv (ms.take ds.length) = pv (ds.take ds.length) + 4294967296 ^ ds.length * bw) :
    pv rs = pv ds - pv ms := by
  have hle := len_le hm hs h
  rw [take_all hl.symm, take_all rfl, List.take_of_length_le hle] at he
  have h1 := pv_lt rs hr
  rw [hl] at h1
  rcases Nat.eq_zero_or_pos bw with c | c
  · subst c; omega
  · have := Nat.le_mul_of_pos_right (4294967296 ^ ds.length) c
    omega

/-- Trimming. -/
theorem trim_step {ds : List Nat} {k : Nat} (h : pv (ds.take (k + 1)) = pv ds) (hz : ds.getD k 0 = 0) : pv (ds.take k) = pv ds := by
  rw [pv_take_succ, hz] at h; omega
theorem trim_end {ds : List Nat} {k : Nat} (hk : k + 1 ≤ ds.length) (hz : ds.getD k 0 ≠ 0) : Tr (ds.take (k + 1)) := by
  refine Or.inr ?_
  rw [pv_take_succ, List.length_take, Nat.min_eq_left hk, Nat.add_sub_cancel]
  have := Nat.le_mul_of_pos_right (4294967296 ^ k) (Nat.pos_of_ne_zero hz)
  omega

/-- Comparing. -/
theorem pv_split (ds : List Nat) (k : Nat) (hk : k ≤ ds.length) : pv ds = pv (ds.take k) + 4294967296 ^ k * pv (ds.drop k) := by
  have h := pv_append (ds.take k) (ds.drop k)
  rw [List.take_append_drop, List.length_take, Nat.min_eq_left hk] at h
  exact h
theorem cmp_len {ds ms : List Nat} (hs : Sm ds) (hm : Tr ms) (h : ds.length < ms.length) : pv ds < pv ms := by
  rcases hm with h0 | h0
  · omega
  · have h1 := pv_lt ds hs
    have := Nat.pow_le_pow_right (show 0 < 4294967296 by decide) (show ds.length ≤ ms.length - 1 by omega)
    omega
theorem cmp_at {ds ms : List Nat} {k : Nat} (hs : Sm ds) (hk : k < ds.length) (hl : ds.length = ms.length) (hd : pv (ds.drop (k + 1)) = pv (ms.drop (k + 1))) (h : ds.getD k 0 < ms.getD k 0) : pv ds < pv ms := by
  rw [pv_split ds (k + 1) hk, pv_split ms (k + 1) (by omega), hd, pv_take_succ, pv_take_succ]
  have h1 := pv_lt (ds.take k) (sm_take k hs)
  rw [List.length_take, Nat.min_eq_left (by omega)] at h1
  have h2 := Nat.mul_le_mul_left (4294967296 ^ k) (show ds.getD k 0 + 1 ≤ ms.getD k 0 from h)
  rw [Nat.mul_add] at h2
  omega
theorem drop_succ (ds : List Nat) (k : Nat) : pv (ds.drop k) = ds.getD k 0 + 4294967296 * pv (ds.drop (k + 1)) := by
  induction ds generalizing k with
  | nil => simp [pv]
  | cons d r ih =>
    cases k with
    | zero => simp [pv]
    | succ k => rw [List.drop_succ_cons, List.drop_succ_cons, List.getD_cons_succ]; exact ih k

/-- Bits. -/
theorem bl_of {n e : Nat} (h1 : 2 ^ e ≤ n) (h2 : n < 2 ^ (e + 1)) : bl n = e + 1 := by
  have h0 : n ≠ 0 := by have := Nat.two_pow_pos e; omega
  unfold bl
  rw [if_neg h0]
  have a := (Nat.le_log2 h0).2 h1
  have b := (Nat.log2_lt h0).2 h2
  omega
theorem bl_lt (n : Nat) : n < 2 ^ bl n := by
  unfold bl
  split
  · rename_i h; subst h; simp
  · exact Nat.lt_log2_self
theorem bl_ge {n : Nat} (h : n ≠ 0) : 2 ^ (bl n - 1) ≤ n := by
  unfold bl
  rw [if_neg h, Nat.add_sub_cancel]
  exact Nat.log2_self_le h
theorem bl_le {n k : Nat} (h : n < 2 ^ k) : bl n ≤ k := by
  unfold bl
  split
  · omega
  · rename_i h0
    have := (Nat.log2_lt h0).2 h
    omega
theorem bl_parts {ds : List Nat} {l : Nat} (hs : Sm ds) (hl : ds.length = l + 1) (ht : Tr ds) : ds.getD l 0 ≠ 0 ∧ bl (pv ds) = 32 * l + bl (ds.getD l 0) := by
  have hv : pv ds = pv (ds.take l) + 4294967296 ^ l * ds.getD l 0 := by
    rw [← pv_take_succ, List.take_of_length_le (by omega)]
  have h1 := pv_lt (ds.take l) (sm_take l hs)
  rw [List.length_take, Nat.min_eq_left (by omega)] at h1
  rcases ht with h0 | h0
  · omega
  · rw [hl, Nat.add_sub_cancel] at h0
    have hz : ds.getD l 0 ≠ 0 := by
      intro c
      rw [c, Nat.mul_zero] at hv
      omega
    refine ⟨hz, ?_⟩
    have b1 := bl_ge hz
    have b2 := bl_lt (ds.getD l 0)
    have b3 : 1 ≤ bl (ds.getD l 0) := by unfold bl; rw [if_neg hz]; omega
    obtain ⟨e, he⟩ : ∃ e, bl (ds.getD l 0) = e + 1 := ⟨bl (ds.getD l 0) - 1, by omega⟩
    rw [he] at b1 b2 ⊢
    rw [Nat.add_sub_cancel] at b1
    rw [← Nat.add_assoc]
    refine bl_of ?_ ?_
    · rw [hv, Nat.pow_add, ← pow32]
      have := Nat.mul_le_mul_left (4294967296 ^ l) b1
      omega
    · rw [hv, Nat.add_assoc, Nat.pow_add, ← pow32]
      have := Nat.mul_le_mul_left (4294967296 ^ l) (show ds.getD l 0 + 1 ≤ 2 ^ (e + 1) from b2)
      rw [Nat.mul_add] at this
      omega
theorem len_bound {ds : List Nat} {K : Nat} (ht : Tr ds) (h : pv ds < 2 ^ K) : ds.length ≤ K + 1 := by
  rcases ht with h0 | h0
  · omega
  · have h1 : 2 ^ (32 * (ds.length - 1)) < 2 ^ K := by rw [← pow32]; omega
    have := (Nat.pow_lt_pow_iff_right (by decide : 1 < 2)).1 h1
    omega

/-- The borrow, by its bits. -/
theorem nat_borrow {x y b : Nat} (hx : x < 4294967296) (hy : y < 4294967296) (hb : b ≤ 1) :
    ((x + 8589934592 - y - b) % 4294967296) + y + b = x + 4294967296 * (if x < y + b then 1 else 0) := by
  split <;> omega

end Go.Proofs.YtjkedocppbcncaaDoor.Pt
