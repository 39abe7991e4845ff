/-
  HpTv, HpObj, Val, Val2, ValMath, HpHv
-/
import Derived.Deep.RegionWith
import Derived.Deep.DeepCutAuto
import Derived.Laws.OwnMore
import Derived.Test.YtjkedocppbcncaaDoorZ15

/-
  Layer 9: a table as a whole: what it owns, and what a key that comes does to it.
-/
namespace Go.Proofs.YtjkedocppbcncaaDoor
set_option maxRecDepth 100000
open Go.RowKit

/-- From w to w' no more is written of what there was than blocks of X. -/
structure Wx (X : Nat → Prop) (w w' : World) : Prop where
  os : w'.os = w.os
  tape : w'.tape = w.tape
  output : w'.output = w.output
  size : w.heap.size ≤ w'.heap.size
  block : ∀ k, k < w.heap.size → ¬ X k → w'.heap[k]? = w.heap[k]?
theorem Wx.of {A : List (Nat × Nat)} {X : Nat → Prop} {w w' : World} (h : Wr A w w') (hA : ∀ k o, (k, o) ∈ A → X k ∨ w.heap.size ≤ k) : Wx X w w' := by
  have hb := h.below 0 (fun _ _ => Nat.zero_le _) (Nat.zero_le _)
  refine ⟨hb.os, hb.tape, hb.output, h.size, fun k hk hx => h.block hk (fun o hm => ?_)⟩
  rcases hA k o hm with c | c
  · exact hx c
  · omega
theorem Wx.trans {X Y : Nat → Prop} {a b c : World} (h : Wx X a b) (k : Wx Y b c) (hY : ∀ i, Y i → X i ∨ a.heap.size ≤ i) : Wx X a c :=
  ⟨k.os.trans h.os, k.tape.trans h.tape, k.output.trans h.output, Nat.le_trans h.size k.size, fun i hi hx => (k.block i (Nat.lt_of_lt_of_le hi h.size) (fun hy => by
    rcases hY i hy with c | c
    · exact hx c
    · omega)).trans (h.block i hi hx)⟩
theorem Wx.more {X Y : Nat → Prop} {w w' : World} (h : Wx X w w') (hX : ∀ k, X k → Y k ∨ w.heap.size ≤ k) : Wx Y w w' :=
  ⟨h.os, h.tape, h.output, h.size, fun k hk hy => h.block k hk (fun hx => by
    rcases hX k hx with c | c
    · exact hy c
    · omega)⟩
theorem Wx.of_below {w w' : World} (X : Nat → Prop) (h : Below w.heap.size w w') : Wx X w w' := ⟨h.os, h.tape, h.output, h.size, fun k hk _ => h.block k hk⟩
theorem Wx.refl (X : Nat → Prop) (w : World) : Wx X w w := ⟨rfl, rfl, rfl, Nat.le_refl _, fun _ _ _ => rfl⟩
theorem Wx.set {X : Nat → Prop} (w : World) {k : Nat} (o : Nat) (v : Value) (h : X k) : Wx X w (w.setCell ⟨k, o, none⟩ v) := by
  have hb : Below k w (w.setCell ⟨k, o, none⟩ v) := (Below.refl _ _).setCell (p := ⟨k, o, none⟩) (Nat.le_refl _) v
  exact ⟨hb.os, hb.tape, hb.output, hb.size, fun j _ hx => heap_setCell_other _ _ _ _ (fun e => hx (by simp only at e; rw [e]; exact h))⟩
theorem Wx.cell {X : Nat → Prop} {w w' : World} (h : Wx X w w') {k o : Nat} {v : Value} (hX : ¬ X k) (hc : w.cell? ⟨k, o, none⟩ = some v) : w'.cell? ⟨k, o, none⟩ = some v :=
  (World.cell?_of_block (w := w) (a := ⟨k, o, none⟩) (h.block k (World.block_lt_of_cell? w _ hc) hX)).trans hc
theorem Wx.frozen {X : Nat → Prop} {w w' : World} (h : Wx X w w') {k o : Nat} (hk : k < w.heap.size) (hX : ¬ X k) : w'.frozen? ⟨k, o, none⟩ = w.frozen? ⟨k, o, none⟩ :=
  World.frozen?_of_block (w := w) (a := ⟨k, o, none⟩) (h.block k hk hX)
theorem Wx.below {X : Nat → Prop} {w w' : World} (h : Wx X w w') {B : Nat} (hB : ∀ k, X k → B ≤ k) (hs : B ≤ w.heap.size) : Below B w w' :=
  ⟨h.os, h.tape, h.output, h.size, fun k hk => h.block k (by omega) (fun hx => by have := hB k hx; omega)⟩
theorem Wx.blk {X : Nat → Prop} {w w' : World} (h : Wx X w w') {k : Nat} (hX : ¬ X k) (hk : Blk w k) : Blk w' k := by
  have hl := hk.lt
  obtain ⟨cs, t, hk⟩ := hk
  exact ⟨cs, t, (h.block k hl hX).trans hk⟩
theorem Lk.wx {X : Nat → Prop} {w w' : World} {o : Nat} (h : Wx X w w') : ∀ {l : List En}, Lk w o l → (∀ e ∈ l, ¬ X e.b) → Lk w' o l
  | [], _, _ => trivial
  | e :: _, k, hX => ⟨h.cell (hX e List.mem_cons_self) k.1, Lk.wx h k.2 fun x hx => hX x (List.mem_cons_of_mem _ hx)⟩
theorem EnC.wx {X : Nat → Prop} {w w' : World} {e : En} (h : EnC w e) (k : Wx X w w') (hX : ¬ X e.b) : EnC w' e := by
  obtain ⟨h0, h1, h2, h3, h4, h5, h6, h7, h8⟩ := h
  exact ⟨k.cell hX h0, k.cell hX h1, k.cell hX h2, k.cell hX h3, k.cell hX h4, k.cell hX h5, k.cell hX h6, k.cell hX h7, k.cell hX h8⟩
theorem Or.wx {X : Nat → Prop} {w w' : World} {tb : Nat} {es : List En} (h : Or w tb es) (k : Wx X w w') (ht : ¬ X tb) (he : ∀ e ∈ es, ¬ X e.b) : Or w' tb es :=
  ⟨k.cell ht h.keys, k.cell ht h.first, k.cell ht h.last, h.behind.wx k he, h.ahead.wx k (fun e hm => he e (List.mem_reverse.1 hm)), h.once, h.apart⟩
theorem Bk.wx {X : Nat → Prop} {w w' : World} {g n : Nat} {cs : Nat → List En} {es : List En} (h : Bk w g n cs es) (k : Wx X w w') (hg : ¬ X g) (he : ∀ e ∈ es, ¬ X e.b) : Bk w' g n cs es :=
  ⟨h.pos, h.few, Nat.lt_of_lt_of_le h.lt k.size, fun j hj => k.cell hg (h.head j hj), fun j hj => (h.chain j hj).wx k fun e hm => he e ((h.mem j hj e).1 hm).1, h.mem,
   fun e hm => ⟨(h.lies e hm).1.wx k (he e hm), Nat.lt_of_lt_of_le (h.lies e hm).2 k.size⟩, h.hash, h.own, h.once, h.block, h.apart⟩
theorem Ct.wx {X : Nat → Prop} {w w' : World} {tb c m s : Nat} {W : Nat → Nat} (h : Ct w tb c m W s) (k : Wx X w w') (ht : ¬ X tb) (hc : ¬ X c) : Ct w' tb c m W s :=
  ⟨Nat.lt_of_lt_of_le h.tlt k.size, Nat.lt_of_lt_of_le h.clt k.size, h.ne, h.one, h.few, k.cell ht h.row, k.cell ht h.size, h.fit, fun j hj => ⟨(h.words j hj).1, k.cell hc (h.words j hj).2⟩, fun i => (k.frozen h.clt hc).trans (h.wfree i), (k.frozen h.tlt ht).trans h.sfree⟩

/-- A value's parts. -/
structure V4 where
  K : Int
  N : Int
  S : ByteArray
  O : Int
def V4.val (v : V4) : Value := vl4 v.K v.N v.S v.O
/-- A value in four cells of a block. -/
structure At4 (w : World) (b o : Nat) (v : V4) : Prop where
  c0 : w.cell? ⟨b, o, none⟩ = some (.int .i64 v.K)
  c1 : w.cell? ⟨b, o + 1, none⟩ = some (.int .u64 v.N)
  c2 : w.cell? ⟨b, o + 2, none⟩ = some (.string v.S)
  c3 : w.cell? ⟨b, o + 3, none⟩ = some (.int .i64 v.O)
theorem At4.wr {A : List (Nat × Nat)} {w w' : World} {b o : Nat} {v : V4} (h : At4 w b o v) (k : Wr A w w') (hA : ∀ i, i < 4 → (b, o + i) ∉ A) : At4 w' b o v :=
  ⟨k.cell (hA 0 (by omega)) h.c0, k.cell (hA 1 (by omega)) h.c1, k.cell (hA 2 (by omega)) h.c2, k.cell (hA 3 (by omega)) h.c3⟩
theorem At4.wx {X : Nat → Prop} {w w' : World} {b o : Nat} {v : V4} (h : At4 w b o v) (k : Wx X w w') (hX : ¬ X b) : At4 w' b o v :=
  ⟨k.cell hX h.c0, k.cell hX h.c1, k.cell hX h.c2, k.cell hX h.c3⟩

/-- The body of a table that has buckets. -/
structure Tb (w : World) (tb : Nat) (X : Nat → Prop) (es : List En) (g n c m : Nat) (cs : Nat → List En) (W : Nat → Nat) (s : Nat) : Prop where
  kb : Bk w g n cs es
  kc : Ct w tb c m W s
  sz : Sz m W s (hasP m es)
  row : Rw w tb g n
  full : es.length ≤ n
  words : n ≤ m * 64
  n4 : ∃ k, n = 4 * 2 ^ k
  nfew : n ≤ 4194304
  xg : X g
  xc : X c
  gt : g ≠ tb
  gc : g ≠ c
  ec : ∀ f ∈ es, f.b ≠ c

/-- The table in the block tb, which owns the blocks X, has the entries es, and M stands in for it. -/
structure Tv (w : World) (tb : Nat) (X : Nat → Prop) (es : List En) (M : V4) : Prop where
  own : X tb
  lt : ∀ k, X k → k < w.heap.size
  no1 : ¬ X 1
  free : ∀ k o, X k → w.frozen? ⟨k, o, none⟩ = false
  db : Db w
  mt : At4 w tb 0 M
  ord : Or w tb es
  few : es.length ≤ 1048576
  u64 : ∀ e ∈ es, Flo.U64 e.N
  ent : ∀ e ∈ es, X e.b ∧ Blk w e.b
  bod : (es = [] ∧ w.cell? ⟨tb, 7, none⟩ = some (.slice none 0 0) ∧ w.cell? ⟨tb, 8, none⟩ = some (.slice none 0 0) ∧ w.cell? ⟨tb, 9, none⟩ = some (.int .i64 0)) ∨
    ∃ g n c m cs W s, Tb w tb X es g n c m cs W s

theorem Db.wx {X : Nat → Prop} {w w' : World} (h : Db w) (k : Wx X w w') (hX : ¬ X 1) : Db w' := fun j hj => k.cell hX (h j hj)
/-- What is written elsewhere leaves a table as it is. -/
theorem Tv.wx {w w' : World} {tb : Nat} {X Y : Nat → Prop} {es : List En} {M : V4} (h : Tv w tb X es M) (k : Wx Y w w') (hY : ∀ i, X i → ¬ Y i) (h1 : ¬ Y 1) : Tv w' tb X es M := by
  have hfr : ∀ i o, X i → w'.frozen? ⟨i, o, none⟩ = false := fun i o hi => (k.frozen (h.lt i hi) (hY i hi)).trans (h.free i o hi)
  have ht := hY _ h.own
  have he : ∀ e ∈ es, ¬ Y e.b := fun e hm => hY _ (h.ent e hm).1
  refine ⟨h.own, fun i hi => Nat.lt_of_lt_of_le (h.lt i hi) k.size, h.no1, hfr, h.db.wx k h1, h.mt.wx k ht, h.ord.wx k ht he, h.few, h.u64, fun e hm => ⟨(h.ent e hm).1, k.blk (he e hm) (h.ent e hm).2⟩, ?_⟩
  rcases h.bod with ⟨e0, c7, c8, c9⟩ | ⟨g, n, c, m, cs, W, s, t⟩
  · exact Or.inl ⟨e0, k.cell ht c7, k.cell ht c8, k.cell ht c9⟩
  · exact Or.inr ⟨g, n, c, m, cs, W, s, t.kb.wx k (hY _ t.xg) he, t.kc.wx k ht (hY _ t.xc), t.sz, ⟨k.cell ht t.row.1, fun j => hfr g j t.xg⟩, t.full, t.words, t.n4, t.nfew, t.xg, t.xc, t.gt, t.gc, t.ec⟩

theorem Tv.se {w : World} {tb : Nat} {X : Nat → Prop} {es : List En} {M : V4} (h : Tv w tb X es M) : Se w tb es := by
  have hnd : es.Nodup := List.Pairwise.of_map En.b (fun a b q k => q (by rw [k])) h.ord.once
  have ht1 : tb ≠ 1 := fun k => h.no1 (k ▸ h.own)
  have hn1 : ∀ e ∈ es, e.b ≠ 1 := fun e he k => h.no1 (k ▸ (h.ent e he).1)
  rcases h.bod with ⟨e0, c7, c8, c9⟩ | ⟨g, n, c, m, cs, W, s, t⟩
  · subst e0
    exact ⟨by simp, by simp, by simp, by simp, by simp, by simp, by simp, List.Pairwise.nil, h.ord.once, h.ord.behind, h.ord.first, ht1, h.db, h.lt _ h.own, ⟨_, c7⟩, ⟨_, c8⟩, ⟨_, c9⟩, fun o => h.free tb o h.own⟩
  · refine ⟨t.kb.lies, t.kb.hash, h.u64, fun f hf => ?_, fun f hf => h.free f.b 9 (h.ent f hf).1, h.ord.apart, hn1, ?_, h.ord.once, h.ord.behind, h.ord.first, ht1, h.db, h.lt _ h.own, ⟨_, t.row.1⟩, ⟨_, t.kc.row⟩, ⟨_, t.kc.size⟩, fun o => h.free tb o h.own⟩
    · have hjf := bk_lt f.H t.kb.pos
      exact lkSome (t.kb.chain _ hjf) f ((t.kb.mem _ hjf f).2 ⟨hf, rfl⟩)
    · exact List.Pairwise.imp_of_mem (fun {a b} ha hb q k => q (t.kb.own a ha b hb k.1 k.2.1 k.2.2.1 k.2.2.2)) hnd

/-- A table is one again behind what was written within Y and in memory of its own. -/
theorem Tv.mk' {w w' : World} {tb : Nat} {Y : Nat → Prop} {es : List En} {M : V4} {A : List (Nat × Nat)} {g n c m : Nat} {cs : Nat → List En} {W : Nat → Nat} {s : Nat}
    (hY : Y tb) (hlt : ∀ k, Y k → k < w.heap.size) (h1 : ¬ Y 1) (hf : ∀ k o, Y k → w.frozen? ⟨k, o, none⟩ = false) (db : Db w) (mt : At4 w tb 0 M) (hw : Wr A w w')
    (hA : ∀ k o, (k, o) ∈ A → (Y k ∧ (k = tb → 4 ≤ o)) ∨ w.heap.size ≤ k) (ord : Or w' tb es) (few : es.length ≤ 1048576) (u64 : ∀ e ∈ es, Flo.U64 e.N) (ent : ∀ e ∈ es, Y e.b ∧ Blk w e.b)
    (t : Tb w' tb (fun _ => True) es g n c m cs W s) (hg : Y g ∨ w.heap.size ≤ g) (hc : Y c ∨ w.heap.size ≤ c) :
    ∃ X', Tv w' tb X' es M ∧ Wx Y w w' ∧ ∀ k, X' k → Y k ∨ w.heap.size ≤ k := by
  have hwx : Wx Y w w' := Wx.of hw (fun k o hm => (hA k o hm).imp (fun h => h.1) id)
  have two : 1 < w.heap.size := World.block_lt_of_cell? w ⟨1, 0, none⟩ (db 0 (by decide))
  refine ⟨fun k => Y k ∨ k = g ∨ k = c, ⟨Or.inl hY, fun k hk => ?_, ?_, fun k o hk => ?_, db.wx hwx h1, ?_, ord, few, u64, fun e he => ⟨Or.inl (ent e he).1, hw.blk (ent e he).2⟩, Or.inr ⟨g, n, c, m, cs, W, s, ?_⟩⟩, hwx, fun k hk => ?_⟩
  · rcases hk with k1 | k1 | k1
    · exact Nat.lt_of_lt_of_le (hlt k k1) hw.size
    · rw [k1]; exact t.kb.lt
    · rw [k1]; exact t.kc.clt
  · rintro (k1 | k1 | k1)
    · exact h1 k1
    · rcases hg with q | q
      · exact h1 (k1 ▸ q)
      · omega
    · rcases hc with q | q
      · exact h1 (k1 ▸ q)
      · omega
  · rcases hk with k1 | k1 | k1
    · exact (hw.2.1 k o (hlt k k1)).trans (hf k o k1)
    · rw [k1]; exact t.row.2 o
    · rw [k1]; exact t.kc.wfree o
  · refine mt.wr hw (fun i hi hm => ?_)
    rcases hA _ _ hm with ⟨_, q⟩ | q
    · have := q rfl; omega
    · have := hlt _ hY; omega
  · exact ⟨t.kb, t.kc, t.sz, t.row, t.full, t.words, t.n4, t.nfew, Or.inr (Or.inl rfl), Or.inr (Or.inr rfl), t.gt, t.gc, t.ec⟩
  · rcases hk with k1 | k1 | k1
    · exact Or.inl k1
    · rw [k1]; exact hg
    · rw [k1]; exact hc

/-- An entry that is to come. -/
structure Nw (w : World) (X : Nat → Prop) (es : List En) (e : En) : Prop where
  lies : EnC w e ∧ e.b < w.heap.size
  hash : e.H = hN e.K e.N e.S e.O
  u64 : Flo.U64 e.N
  c9 : w.cell? ⟨e.b, 9, none⟩ = some (.pointer none)
  c10 : w.cell? ⟨e.b, 10, none⟩ = some (.pointer none)
  c11 : w.cell? ⟨e.b, 11, none⟩ = some (.pointer none)
  free : ∀ o, w.frozen? ⟨e.b, o, none⟩ = false
  blk : Blk w e.b
  nx : ¬ X e.b
  n1 : e.b ≠ 1
  new : ∀ f ∈ es, ¬ (e.K = f.K ∧ e.N = f.N ∧ e.S = f.S ∧ e.O = f.O)

theorem addA_cases {tb : Nat} {es : List En} {e : En} {k o : Nat} (hm : (k, o) ∈ addA tb es e) : (k = tb ∧ (o = 4 ∨ o = 5 ∨ o = 6)) ∨ (k = e.b ∧ o = 10) ∨ (o = 11 ∧ ∃ z ∈ es, k = z.b) := by
  unfold addA at hm
  rcases List.mem_cons.1 hm with c | c
  · cases hz : es.getLast? with
    | none => rw [hz] at c; injection c with c1 c2; exact Or.inl ⟨c1, by omega⟩
    | some z => rw [hz] at c; injection c with c1 c2; exact Or.inr (Or.inr ⟨c2, z, List.mem_of_getLast? hz, c1⟩)
  · simp only [List.mem_cons, Prod.mk.injEq, List.not_mem_nil, or_false] at c
    rcases c with ⟨c1, c2⟩ | ⟨c1, c2⟩ | ⟨c1, c2⟩
    · exact Or.inr (Or.inl ⟨c1, c2⟩)
    · exact Or.inl ⟨c1, by omega⟩
    · exact Or.inl ⟨c1, by omega⟩

theorem sz_snoc {m s : Nat} {W : Nat → Nat} {es : List En} (h : Sz m W s (hasP m es)) (e : En) : Sz m (cntW m W e.K e.N) (cntS m W s e.K e.N) (hasP m (es ++ [e])) := by
  refine (h.count e.K e.N).same fun p _ => ?_
  unfold hasP
  simp only [List.mem_append, List.mem_singleton]
  constructor
  · rintro (⟨f, h1, h2⟩ | h)
    · exact ⟨f, Or.inl h1, h2⟩
    · exact ⟨e, Or.inr rfl, h⟩
  · rintro ⟨f, h1 | h1, h2⟩
    · exact Or.inl ⟨f, h1, h2⟩
    · subst h1; exact Or.inr h2

/-- A key that is not there comes. -/
theorem tab_add {w : World} {tb : Nat} {X : Nat → Prop} {es : List En} {M : V4} {e : En} (h : Tv w tb X es M) (q : Nw w X es e) (hfew : es.length < 1048576) :
    Calls Tryd.prog 51 #[.pointer (some ⟨tb, 0, none⟩), .pointer (some ⟨e.b, 0, none⟩)] w fun x w' => x = .returned (.tuple #[]) ∧
      ∃ X', Tv w' tb X' (es ++ [e]) M ∧ Wx (fun k => X k ∨ k = e.b) w w' ∧ ∀ k, X' k → (X k ∨ k = e.b) ∨ w.heap.size ≤ k := by
  have hse := h.se
  have two : 1 < w.heap.size := World.block_lt_of_cell? w ⟨1, 0, none⟩ (h.db 0 (by decide))
  have hntb : e.b ≠ tb := fun k => q.nx (k ▸ h.own)
  have hblk : ∀ f ∈ es, f.b ≠ e.b := fun f hf k => q.nx (k ▸ (h.ent f hf).1)
  have hY : (fun k => X k ∨ k = e.b) tb := Or.inl h.own
  have hlt : ∀ k, (X k ∨ k = e.b) → k < w.heap.size := fun k hk => by
    rcases hk with c | c
    · exact h.lt k c
    · rw [c]; exact q.lies.2
  have hn1 : ¬ (X 1 ∨ 1 = e.b) := by
    rintro (c | c)
    · exact h.no1 c
    · exact q.n1 c.symm
  have hfr : ∀ k o, (X k ∨ k = e.b) → w.frozen? ⟨k, o, none⟩ = false := fun k o hk => by
    rcases hk with c | c
    · exact h.free k o c
    · rw [c]; exact q.free o
  have hu : ∀ f ∈ es ++ [e], Flo.U64 f.N := fun f hf => by
    rcases List.mem_append.1 hf with c | c
    · exact h.u64 f c
    · rw [List.mem_singleton.1 c]; exact q.u64
  have hent : ∀ f ∈ es ++ [e], (X f.b ∨ f.b = e.b) ∧ Blk w f.b := fun f hf => by
    rcases List.mem_append.1 hf with c | c
    · exact ⟨Or.inl (h.ent f c).1, (h.ent f c).2⟩
    · rw [List.mem_singleton.1 c]; exact ⟨Or.inr rfl, q.blk⟩
  have hlen : (es ++ [e]).length = es.length + 1 := by simp
  have hful : (∃ a, w.cell? ⟨tb, 7, none⟩ = some (.slice a es.length es.length)) → Ful w tb es e := fun hr =>
    ⟨hse, h.ord, by have := h.few; omega, hr, two, fun f hf => h.free f.b 11 (h.ent f hf).1, q.lies, q.hash, q.u64, q.c9, q.c10, q.c11, q.free, hntb, q.n1, q.new, hblk⟩
  have hfull : (∃ a, w.cell? ⟨tb, 7, none⟩ = some (.slice a es.length es.length)) → (es.length = 0 ∨ ∃ k, es.length = 4 * 2 ^ k) → Calls Tryd.prog 51 #[.pointer (some ⟨tb, 0, none⟩), .pointer (some ⟨e.b, 0, none⟩)] w fun x w' => x = .returned (.tuple #[]) ∧
      ∃ X', Tv w' tb X' (es ++ [e]) M ∧ Wx (fun k => X k ∨ k = e.b) w w' ∧ ∀ k, X' k → (X k ∨ k = e.b) ∨ w.heap.size ≤ k := fun hr hp => by
    have hn4 : ∃ k, max 4 (2 * es.length) = 4 * 2 ^ k := by
      rcases hp with c | ⟨k, c⟩
      · exact ⟨0, by rw [c]; rfl⟩
      · refine ⟨k + 1, ?_⟩
        have hpos : 1 ≤ 2 ^ k := Nat.one_le_two_pow
        rw [Nat.pow_succ, c]; omega
    refine (add_full tb es e _ _ w (hful hr) rfl rfl).mono ?_
    rintro x w' ⟨rfl, g, c, cs, w1, w2, rfl, rfl, a1, a2, a3, b1, b2, b3, b4⟩
    refine ⟨rfl, Tv.mk' (Y := fun k => X k ∨ k = e.b) hY hlt hn1 hfr h.db h.mt ((a1.trans a2).trans a3) (fun k o hm => ?_) b1 (by omega) hu hent ⟨b2, b3, sz_snoc (cntF_sz _ _) e, b4, by omega, by omega, hn4, by omega, trivial, trivial, ?_, by omega, fun f hf => ?_⟩ (Or.inr (Nat.le_refl _)) (Or.inr (by omega))⟩
    · rcases List.mem_append.1 hm with hm | hm
      · rcases List.mem_append.1 hm with hm | hm
        · unfold fulA at hm
          rcases List.mem_append.1 hm with hm | hm
          · simp only [List.mem_cons, Prod.mk.injEq, List.not_mem_nil, or_false] at hm
            have hk : k = tb := by omega
            exact Or.inl ⟨Or.inl (hk ▸ h.own), fun _ => by omega⟩
          · obtain ⟨f, hf, he⟩ := List.mem_map.1 hm
            injection he with e1 e2
            exact Or.inl ⟨Or.inl (e1 ▸ (h.ent f hf).1), fun _ => by omega⟩
        · rcases addA_cases hm with ⟨c1, c2⟩ | ⟨c1, c2⟩ | ⟨c1, z, hz, c2⟩
          · exact Or.inl ⟨Or.inl (c1 ▸ h.own), fun _ => by omega⟩
          · exact Or.inl ⟨Or.inr c1, fun _ => by omega⟩
          · exact Or.inl ⟨Or.inl (c2 ▸ (h.ent z hz).1), fun _ => by omega⟩
      · simp only [List.mem_cons, Prod.mk.injEq, List.not_mem_nil, or_false] at hm
        rcases hm with ⟨c1, c2⟩ | ⟨c1, _⟩ | ⟨c1, _⟩ | ⟨c1, c2⟩
        · exact Or.inl ⟨Or.inr c1, fun _ => by omega⟩
        · exact Or.inr (by omega)
        · exact Or.inr (by omega)
        · exact Or.inl ⟨Or.inl (c1 ▸ h.own), fun _ => by omega⟩
    · have := h.lt tb h.own; omega
    · have := hlt f.b (hent f hf).1; omega
  rcases h.bod with ⟨e0, c7, c8, c9⟩ | ⟨g, n, c, m, cs, W, s, t⟩
  · exact hfull ⟨none, by rw [c7, e0]; rfl⟩ (Or.inl (by rw [e0]; rfl))
  · by_cases hne : es.length = n
    · exact hfull ⟨_, by rw [t.row.1, hne]⟩ (Or.inr (by rw [hne]; exact t.n4))
    · have hg1 : g ≠ 1 := fun k => h.no1 (k ▸ t.xg)
      have hrdy : Rdy w tb g n c m cs W s es e :=
        ⟨h.ord, t.kb, t.kc, t.row.1, by omega, fun o => h.free tb o h.own, fun f hf => h.free f.b 11 (h.ent f hf).1, q.lies, q.hash, q.u64, q.c9, q.c10, q.c11, q.free, t.row.2, h.db, hntb, fun k => q.nx (k ▸ t.xg), fun k => q.nx (k ▸ t.xc), q.n1, t.gt, t.gc, hg1,
          fun k => h.no1 (k ▸ h.own), q.new, hblk, t.ec, fun f hf k => h.no1 (k ▸ (h.ent f hf).1)⟩
      refine (add_room tb g n c m cs W s es e w hrdy hne).mono ?_
      rintro x w' ⟨rfl, w2, a2, a3, b1, b2, b3, b4⟩
      have hfl := t.full
      refine ⟨rfl, Tv.mk' (Y := fun k => X k ∨ k = e.b) hY hlt hn1 hfr h.db h.mt (a2.trans a3) (fun k o hm => ?_) b1 (by omega) hu hent ⟨b2, b3, sz_snoc t.sz e, b4, by omega, t.words, t.n4, t.nfew, trivial, trivial, t.gt, t.gc, fun f hf => ?_⟩ (Or.inl (Or.inl t.xg)) (Or.inl (Or.inl t.xc))⟩
      · rcases List.mem_append.1 hm with hm | hm
        · rcases addA_cases hm with ⟨c1, c2⟩ | ⟨c1, c2⟩ | ⟨c1, z, hz, c2⟩
          · exact Or.inl ⟨Or.inl (c1 ▸ h.own), fun _ => by omega⟩
          · exact Or.inl ⟨Or.inr c1, fun _ => by omega⟩
          · exact Or.inl ⟨Or.inl (c2 ▸ (h.ent z hz).1), fun _ => by omega⟩
        · simp only [List.mem_cons, Prod.mk.injEq, List.not_mem_nil, or_false] at hm
          rcases hm with ⟨c1, c2⟩ | ⟨c1, _⟩ | ⟨c1, _⟩ | ⟨c1, c2⟩
          · exact Or.inl ⟨Or.inr c1, fun _ => by omega⟩
          · exact Or.inl ⟨Or.inl (c1 ▸ t.xg), fun k1 => absurd (c1.symm.trans k1) t.gt⟩
          · exact Or.inl ⟨Or.inl (c1 ▸ t.xc), fun k1 => absurd (k1.symm.trans c1) t.kc.ne⟩
          · exact Or.inl ⟨Or.inl (c1 ▸ h.own), fun _ => by omega⟩
      · rcases List.mem_append.1 hf with k1 | k1
        · exact t.ec f k1
        · rw [List.mem_singleton.1 k1]; exact fun k2 => q.nx (k2 ▸ t.xc)

end Go.Proofs.YtjkedocppbcncaaDoor

/-
  Layer 9: the objects of a heap: left, find, tableOf.
-/
namespace Go.Proofs.YtjkedocppbcncaaDoor
set_option maxRecDepth 100000
open Go.RowKit

theorem left_any (hb : Nat) (l u : Int) (w : World) (h0 : w.cell? ⟨hb, 0, none⟩ = some (.int .i64 l)) (h1 : w.cell? ⟨hb, 1, none⟩ = some (.int .i64 u)) (hl : 0 ≤ l ∧ l ≤ 1099511627776) (hu : 0 ≤ u ∧ u ≤ 1099511627776) :
    Calls Tryd.prog 28 #[.pointer (some ⟨hb, 0, none⟩)] w fun e w' => e = .returned (.int .i64 (l - u)) ∧ ∃ q, w' = w.drewN q := by
  go_enter Tryd.func28, Tryd.ntmps28
  go_wp2_with fail
  go_quiet (fail)
  go_wp2
  go_ret
  exact ⟨rfl, nq, rfl⟩

/-- The place of the object o among n in the block ob, nil of none. -/
def objAt (ob n : Nat) (o : Int) : Option Addr := if 1 ≤ o ∧ o ≤ n then some ⟨ob, 5 * (o - 1).toNat, none⟩ else none

set_option maxHeartbeats 1000000 in
theorem hfind_any (hb ob n cap : Nat) (a : Option Addr) (o : Int) (w : World) (h2 : w.cell? ⟨hb, 2, none⟩ = some (.slice a n cap)) (ha : 0 < n → a = some ⟨ob, 0, none⟩) (hn : n ≤ 1099511627776) :
    Calls Tryd.prog 44 #[.pointer (some ⟨hb, 0, none⟩), .int .i64 o] w fun e w' => e = .returned (.pointer (objAt ob n o)) ∧ w' = w := by
  by_cases c : o < 1
  · rw [show objAt ob n o = none from by unfold objAt; rw [if_neg (by omega)]]
    clear ha
    go_enter Tryd.func44, Tryd.ntmps44
    go_wp2
    go_ret
    exact ⟨rfl, rfl⟩
  · by_cases d : o > (n : Int)
    · rw [show objAt ob n o = none from by unfold objAt; rw [if_neg (by omega)]]
      clear ha
      go_enter Tryd.func44, Tryd.ntmps44
      go_wp2
      go_ret
      exact ⟨rfl, rfl⟩
    · obtain ⟨k, rfl⟩ : ∃ k : Nat, o = (k : Int) + 1 := ⟨(o - 1).toNat, by omega⟩
      rw [show objAt ob n ((k : Int) + 1) = some ⟨ob, 5 * k, none⟩ from by unfold objAt; rw [if_pos (by omega)]; congr 2; omega]
      have := ha (by omega)
      subst this
      have hk : k < n := by omega
      clear ha c d
      have c : ¬ ((k : Int) + 1 < 1) := by omega
      have d : ¬ ((k : Int) + 1 > (n : Int)) := by omega
      go_enter Tryd.func44, Tryd.ntmps44
      go_wp2
      go_ret
      exact ⟨by simp <;> omega, rfl⟩

set_option maxHeartbeats 1000000 in
theorem tableOf_any (hb ob n cap : Nat) (a : Option Addr) (o : Int) (T : Nat → Option Addr) (w : World) (h2 : w.cell? ⟨hb, 2, none⟩ = some (.slice a n cap)) (ha : 0 < n → a = some ⟨ob, 0, none⟩) (hn : n ≤ 1099511627776)
    (hT : ∀ k, k < n → w.cell? ⟨ob, 5 * k + 4, none⟩ = some (.pointer (T k))) :
    Calls Tryd.prog 30 #[.pointer (some ⟨hb, 0, none⟩), .int .i64 o] w fun e w' => e = .returned (.pointer (if 1 ≤ o ∧ o ≤ n then T (o - 1).toNat else none)) ∧ w' = w := by
  have HF := hfind_any hb ob n cap a o w h2 ha hn
  unfold objAt at HF
  by_cases c : 1 ≤ o ∧ o ≤ n
  · rw [if_pos c] at HF ⊢
    have ht := hT (o - 1).toNat (by omega)
    generalize (o - 1).toNat = k at *
    clear hT ha
    go_enter Tryd.func30, Tryd.ntmps30
    go_wp2_with fail
    refine HF.mono ?_
    rintro e w' ⟨rfl, rfl⟩
    clear HF
    go_wp2
    go_ret
    exact ⟨rfl, rfl⟩
  · rw [if_neg c] at HF ⊢
    clear hT ha c
    go_enter Tryd.func30, Tryd.ntmps30
    go_wp2_with fail
    refine HF.mono ?_
    rintro e w' ⟨rfl, rfl⟩
    clear HF
    go_wp2
    go_ret
    exact ⟨rfl, rfl⟩
end Go.Proofs.YtjkedocppbcncaaDoor

/-
  Layer 8: a value's plain form; the landed and the reference's Normal, walked.
-/
namespace Go.Proofs.YtjkedocppbcncaaDoor
set_option maxRecDepth 100000
open Go.RowKit Flo

/-- The plain form of a value: its kind, its number, its text, its object. -/
def nK (K : Int) : Int := if 0 ≤ K ∧ K ≤ 8 then K else 0
def nN (K N : Int) : Int := if K = 3 then canonZ N else 0
def nS (K : Int) (S : ByteArray) : ByteArray := if K = 4 then S else ⟨#[]⟩
def nO (K O : Int) : Int := if 5 ≤ K ∧ K ≤ 8 then O else 0
/-- A value. -/
def vl (K N : Int) (S : ByteArray) (O : Int) : Value := .agg #[.int .i64 K, .int .u64 N, .string S, .int .i64 O]
/-- Its plain form. -/
def nv (K N : Int) (S : ByteArray) (O : Int) : Value := vl (nK K) (nN K N) (nS K S) (nO K O)

theorem nv3 (N : Int) (S : ByteArray) (O : Int) : nv 3 N S O = .agg #[.int .i64 3, .int .u64 (canonZ N), .string ⟨#[]⟩, .int .i64 0] := rfl
theorem nv4 (N : Int) (S : ByteArray) (O : Int) : nv 4 N S O = .agg #[.int .i64 4, .int .u64 0, .string S, .int .i64 0] := rfl
theorem nvO {K : Int} (N : Int) (S : ByteArray) (O : Int) (h1 : 5 ≤ K) (h2 : K ≤ 8) : nv K N S O = .agg #[.int .i64 K, .int .u64 0, .string ⟨#[]⟩, .int .i64 O] := by
  unfold nv vl nK nN nS nO
  rw [if_pos (by omega), if_neg (by omega), if_neg (by omega), if_pos (by omega)]
theorem nvB {K : Int} (N : Int) (S : ByteArray) (O : Int) (h : K = 1 ∨ K = 2) : nv K N S O = .agg #[.int .i64 K, .int .u64 0, .string ⟨#[]⟩, .int .i64 0] := by
  unfold nv vl nK nN nS nO
  rw [if_pos (by omega), if_neg (by omega), if_neg (by omega), if_neg (by omega)]
theorem nv0 {K : Int} (N : Int) (S : ByteArray) (O : Int) (h : K ≤ 0 ∨ 9 ≤ K) : nv K N S O = .agg #[.int .i64 0, .int .u64 0, .string ⟨#[]⟩, .int .i64 0] := by
  unfold nv vl nK nN nS nO
  rw [if_neg (by omega : ¬ K = 3), if_neg (by omega : ¬ K = 4), if_neg (by omega : ¬ (5 ≤ K ∧ K ≤ 8))]
  by_cases k : K = 0
  · subst k; rfl
  · rw [if_neg (by omega)]

theorem vnum_any (N : Int) (w : World) : Calls Tryd.prog 52 #[.int .u64 N] w fun e w' => e = .returned (.agg #[.int .i64 3, .int .u64 N, .string ⟨#[]⟩, .int .i64 0]) ∧ Below w.heap.size w w' := by
  go_enter Tryd.func52, Tryd.ntmps52
  go_wp2
  exact bodyPost_ret (v := .agg #[.int .i64 3, .int .u64 N, .string ⟨#[]⟩, .int .i64 0]) (by simp [results, Tryd.results52, go_sem]) rfl ⟨rfl, by first | exact (Below.refl _ _).alloc (Nat.le_refl _) _ | skip⟩
theorem vtext_any (S : ByteArray) (w : World) : Calls Tryd.prog 54 #[.string S] w fun e w' => e = .returned (.agg #[.int .i64 4, .int .u64 0, .string S, .int .i64 0]) ∧ Below w.heap.size w w' := by
  go_enter Tryd.func54, Tryd.ntmps54
  go_wp2
  exact bodyPost_ret (v := .agg #[.int .i64 4, .int .u64 0, .string S, .int .i64 0]) (by simp [results, Tryd.results54, go_sem]) rfl ⟨rfl, (Below.refl _ _).alloc (Nat.le_refl _) _⟩

/-- What was there reads as before. -/
theorem bcell {W w1 : World} (hb : Below W.heap.size W w1) : (∀ b o, b < W.heap.size → w1.cell? ⟨b, o, none⟩ = W.cell? ⟨b, o, none⟩) ∧ (∀ b o, b < W.heap.size → w1.frozen? ⟨b, o, none⟩ = W.frozen? ⟨b, o, none⟩) :=
  ⟨fun _ _ h => hb.cell h, fun _ _ h => hb.frozen h⟩

theorem set4 {B b i0 i1 i2 i3 : Nat} {W w1 : World} (h : Below B W w1) (hb : B ≤ b) (v0 v1 v2 v3 : Value) :
    Below B W ((((w1.setCell ⟨b, i0, none⟩ v0).setCell ⟨b, i1, none⟩ v1).setCell ⟨b, i2, none⟩ v2).setCell ⟨b, i3, none⟩ v3) :=
  (((h.setCell (p := ⟨b, i0, none⟩) hb _).setCell (p := ⟨b, i1, none⟩) hb _).setCell (p := ⟨b, i2, none⟩) hb _).setCell (p := ⟨b, i3, none⟩) hb _

set_option maxHeartbeats 1000000 in
theorem normal_any (K N : Int) (S : ByteArray) (O : Int) (w : World) (hN : U64 N) :
    Calls Tryd.prog 33 #[.agg #[.int .i64 K, .int .u64 N, .string S, .int .i64 O]] w fun e w' => e = .returned (nv K N S O) ∧ Below w.heap.size w w' := by
  have hc : K = 3 ∨ K = 4 ∨ (K = 5 ∨ K = 6 ∨ K = 7 ∨ K = 8) ∨ (K = 1 ∨ K = 2) ∨ (K ≤ 0 ∨ 9 ≤ K) := by omega
  rcases hc with c | c | c | c | c
  · subst c
    rw [nv3]
    have HC := fun w => canon_any N w hN
    generalize canonZ N = M at *
    go_enter Tryd.func33, Tryd.ntmps33
    go_wp2_with fail
    refine (HC _).mono ?_
    rintro e w' ⟨rfl, rfl⟩
    go_wp2_with fail
    refine (vnum_any M _).mono ?_
    rintro e w1 ⟨rfl, hb⟩
    obtain ⟨hc, hf⟩ := bcell hb
    go_wp2
    exact bodyPost_ret (v := .agg #[.int .i64 3, .int .u64 M, .string ⟨#[]⟩, .int .i64 0]) (by simp [results, Tryd.results33, go_sem, hc]) rfl ⟨rfl, set4 (((((Below.refl _ _).alloc (Nat.le_refl _) _).alloc (by simp) _)).trans (hb.mono (by simp; omega))) (by omega) _ _ _ _⟩
  · subst c
    rw [nv4]
    go_enter Tryd.func33, Tryd.ntmps33
    go_wp2_with fail
    refine (vtext_any S _).mono ?_
    rintro e w1 ⟨rfl, hb⟩
    obtain ⟨hc, hf⟩ := bcell hb
    go_wp2
    exact bodyPost_ret (v := .agg #[.int .i64 4, .int .u64 0, .string S, .int .i64 0]) (by simp [results, Tryd.results33, go_sem, hc]) rfl ⟨rfl, set4 (((((Below.refl _ _).alloc (Nat.le_refl _) _).alloc (by simp) _)).trans (hb.mono (by simp; omega))) (by omega) _ _ _ _⟩
  · rw [nvO _ _ _ (by omega) (by omega)]
    rcases c with c | c | c | c <;> subst c
    all_goals
      go_enter Tryd.func33, Tryd.ntmps33
      go_wp2
      exact bodyPost_ret (v := .agg #[.int .i64 _, .int .u64 0, .string ⟨#[]⟩, .int .i64 O]) (by simp [results, Tryd.results33, go_sem]) rfl ⟨rfl, ((Below.refl _ _).alloc (Nat.le_refl _) _).alloc (by simp) _⟩
  · rw [nvB _ _ _ c]
    rcases c with c | c <;> subst c
    all_goals
      go_enter Tryd.func33, Tryd.ntmps33
      go_wp2
      exact bodyPost_ret (v := .agg #[.int .i64 _, .int .u64 0, .string ⟨#[]⟩, .int .i64 0]) (by simp [results, Tryd.results33, go_sem]) rfl ⟨rfl, ((Below.refl _ _).alloc (Nat.le_refl _) _).alloc (by simp) _⟩
  · rw [nv0 _ _ _ c]
    rcases c with c | c
    all_goals
      go_enter Tryd.func33, Tryd.ntmps33
      go_wp2
      exact bodyPost_ret (v := .agg #[.int .i64 0, .int .u64 0, .string ⟨#[]⟩, .int .i64 0]) (by simp [results, Tryd.results33, go_sem]) rfl ⟨rfl, ((Below.refl _ _).alloc (Nat.le_refl _) _).alloc (by simp) _⟩

set_option maxHeartbeats 1000000 in
theorem refNormal_any (K N : Int) (S : ByteArray) (O : Int) (w : World) (hN : U64 N) :
    Calls Tryd.prog 40 #[.agg #[.int .i64 K, .int .u64 N, .string S, .int .i64 O]] w fun e w' => e = .returned (nv K N S O) ∧ Below w.heap.size w w' := by
  have hc : K = 3 ∨ K = 4 ∨ (K = 5 ∨ K = 6 ∨ K = 7 ∨ K = 8) ∨ (K = 1 ∨ K = 2) ∨ (K ≤ 0 ∨ 9 ≤ K) := by omega
  rcases hc with c | c | c | c | c
  · subst c
    rw [nv3]
    have HC := fun w => refCanon_any N w hN
    generalize canonZ N = M at *
    go_enter Tryd.func40, Tryd.ntmps40
    go_wp2_with fail
    go_region_with (go_at_call 55; refine (HC _).mono ?_; rintro e w' ⟨rfl, rfl⟩)
    all_goals
      go_wp2
      exact bodyPost_ret (v := .agg #[.int .i64 3, .int .u64 M, .string ⟨#[]⟩, .int .i64 0]) (by simp [results, Tryd.results40, go_sem]) rfl ⟨rfl, (((Below.refl _ _).alloc (Nat.le_refl _) _).alloc (by simp) _).drew⟩
  · subst c
    rw [nv4]
    go_enter Tryd.func40, Tryd.ntmps40
    go_wp2
    exact bodyPost_ret (v := .agg #[.int .i64 4, .int .u64 0, .string S, .int .i64 0]) (by simp [results, Tryd.results40, go_sem]) rfl ⟨rfl, ((Below.refl _ _).alloc (Nat.le_refl _) _).alloc (by simp) _⟩
  · rw [nvO _ _ _ (by omega) (by omega)]
    rcases c with c | c | c | c <;> subst c
    all_goals
      go_enter Tryd.func40, Tryd.ntmps40
      go_wp2
      exact bodyPost_ret (v := .agg #[.int .i64 _, .int .u64 0, .string ⟨#[]⟩, .int .i64 O]) (by simp [results, Tryd.results40, go_sem]) rfl ⟨rfl, ((Below.refl _ _).alloc (Nat.le_refl _) _).alloc (by simp) _⟩
  · rw [nvB _ _ _ c]
    rcases c with c | c <;> subst c
    all_goals
      go_enter Tryd.func40, Tryd.ntmps40
      go_wp2
      exact bodyPost_ret (v := .agg #[.int .i64 _, .int .u64 0, .string ⟨#[]⟩, .int .i64 0]) (by simp [results, Tryd.results40, go_sem]) rfl ⟨rfl, ((Below.refl _ _).alloc (Nat.le_refl _) _).alloc (by simp) _⟩
  · rw [nv0 _ _ _ c]
    have b1 : (K == 1) = false := by simp; omega
    have b2 : (K == 2) = false := by simp; omega
    rcases c with c | c
    all_goals
      go_enter Tryd.func40, Tryd.ntmps40
      go_wp2
      exact bodyPost_ret (v := .agg #[.int .i64 0, .int .u64 0, .string ⟨#[]⟩, .int .i64 0]) (by simp [results, Tryd.results40, go_sem]) rfl ⟨rfl, ((Below.refl _ _).alloc (Nat.le_refl _) _).alloc (by simp) _⟩

end Go.Proofs.YtjkedocppbcncaaDoor

/-
  Layer 8: which values are the same; the landed and the reference's Same, walked.
-/
namespace Go.Proofs.YtjkedocppbcncaaDoor
set_option maxRecDepth 100000
open Go.RowKit Flo

theorem vset_same (w : World) (b i : Nat) (v u : Value) (h : w.cell? ⟨b, i, none⟩ = some u) : (w.setCell ⟨b, i, none⟩ v).cell? ⟨b, i, none⟩ = some v :=
  World.cell?_setCell_same _ _ _ h
theorem vset_far (w : World) (b i j : Nat) (v : Value) (h : i ≠ j) : (w.setCell ⟨b, i, none⟩ v).cell? ⟨b, j, none⟩ = w.cell? ⟨b, j, none⟩ :=
  World.cell?_setCell_other w _ _ v (fun e => h (congrArg Addr.off e))
theorem vset_off (w : World) (b c i j : Nat) (v : Value) (h : b ≠ c) : (w.setCell ⟨b, i, none⟩ v).cell? ⟨c, j, none⟩ = w.cell? ⟨c, j, none⟩ :=
  World.cell?_setCell_other w _ _ v (fun e => h (congrArg Addr.block e))
/-- A value that is stored is there. -/
theorem stored4 (w x : World) (b : Nat) (v0 v1 v2 v3 u0 u1 u2 u3 : Value) (h0 : w.cell? ⟨b, 0, none⟩ = some u0) (h1 : w.cell? ⟨b, 1, none⟩ = some u1) (h2 : w.cell? ⟨b, 2, none⟩ = some u2) (h3 : w.cell? ⟨b, 3, none⟩ = some u3)
    (hx : x = (((w.setCell ⟨b, 0, none⟩ v0).setCell ⟨b, 1, none⟩ v1).setCell ⟨b, 2, none⟩ v2).setCell ⟨b, 3, none⟩ v3) :
    (x.cell? ⟨b, 0, none⟩ = some v0 ∧ x.cell? ⟨b, 1, none⟩ = some v1 ∧ x.cell? ⟨b, 2, none⟩ = some v2 ∧ x.cell? ⟨b, 3, none⟩ = some v3) ∧ ∀ c i, b ≠ c → x.cell? ⟨c, i, none⟩ = w.cell? ⟨c, i, none⟩ := by
  subst hx
  have g0 := vset_same w b 0 v0 u0 h0
  have f1 := (vset_far w b 0 1 v0 (by decide)).trans h1
  have f2 := (vset_far w b 0 2 v0 (by decide)).trans h2
  have f3 := (vset_far w b 0 3 v0 (by decide)).trans h3
  have fo := fun c i (h : b ≠ c) => vset_off w b c 0 i v0 h
  generalize w.setCell ⟨b, 0, none⟩ v0 = w1 at *
  have k1 := vset_same w1 b 1 v1 u1 f1
  have k0 := (vset_far w1 b 1 0 v1 (by decide)).trans g0
  have k2 := (vset_far w1 b 1 2 v1 (by decide)).trans f2
  have k3 := (vset_far w1 b 1 3 v1 (by decide)).trans f3
  have ko := fun c i (h : b ≠ c) => (vset_off w1 b c 1 i v1 h).trans (fo c i h)
  generalize w1.setCell ⟨b, 1, none⟩ v1 = w2 at *
  have m2 := vset_same w2 b 2 v2 u2 k2
  have m0 := (vset_far w2 b 2 0 v2 (by decide)).trans k0
  have m1 := (vset_far w2 b 2 1 v2 (by decide)).trans k1
  have m3 := (vset_far w2 b 2 3 v2 (by decide)).trans k3
  have mo := fun c i (h : b ≠ c) => (vset_off w2 b c 2 i v2 h).trans (ko c i h)
  generalize w2.setCell ⟨b, 2, none⟩ v2 = w3 at *
  exact ⟨⟨(vset_far w3 b 3 0 v3 (by decide)).trans m0, (vset_far w3 b 3 1 v3 (by decide)).trans m1, (vset_far w3 b 3 2 v3 (by decide)).trans m2, vset_same w3 b 3 v3 u3 m3⟩, fun c i h => (vset_off w3 b c 3 i v3 h).trans (mo c i h)⟩

/-- Texts with the same bytes are the same. -/
theorem toList_loop (s : ByteArray) : ∀ (n i : Nat) (r : List UInt8), s.size - i = n → ByteArray.toList.loop s i r = r.reverse ++ s.data.toList.drop i := by
  intro n
  induction n with
  | zero =>
    intro i r h
    unfold ByteArray.toList.loop
    rw [if_neg (by omega), List.drop_eq_nil_of_le (by simp only [Array.length_toList]; exact Nat.le_of_sub_eq_zero h), List.append_nil]
  | succ n ih =>
    intro i r h
    unfold ByteArray.toList.loop
    have hi : i < s.data.toList.length := by simp only [Array.length_toList]; exact Nat.lt_of_sub_eq_succ h
    rw [if_pos (by omega), ih (i + 1) _ (by omega), List.reverse_cons, List.append_assoc, List.drop_eq_getElem_cons hi]
    congr 1
    have : s.get! i = s.data.toList[i] := by
      simp only [ByteArray.get!, Array.getElem_toList]
      exact getElem!_pos s.data i (by simpa using hi)
    rw [this]; rfl
theorem toList_data (s : ByteArray) : s.toList = s.data.toList := by
  unfold ByteArray.toList
  rw [toList_loop s _ 0 [] rfl]; rfl
theorem text_inj {s t : ByteArray} (h : s.toList = t.toList) : s = t := by
  rw [toList_data, toList_data] at h
  cases s; cases t; congr 1; exact Array.toList_inj.1 h
/-- Whether two plain forms are the same. -/
def sameV (k n : Int) (s : ByteArray) (o : Int) (k' n' : Int) (s' : ByteArray) (o' : Int) : Bool := if k = 3 ∧ k' = 3 then equalB n n' else decide (k = k' ∧ n = n' ∧ s = s' ∧ o = o')
/-- Whether two values are the same. -/
def sameB (K N : Int) (S : ByteArray) (O : Int) (K' N' : Int) (S' : ByteArray) (O' : Int) : Bool := sameV (nK K) (nN K N) (nS K S) (nO K O) (nK K') (nN K' N') (nS K' S') (nO K' O')
theorem nK_eq {K : Int} {j : Int} (hj : 1 ≤ j) : nK K = j → K = j := by unfold nK; split <;> omega
theorem nN_zero {K N : Int} (h : nK K ≠ 3) : nN K N = 0 := by
  unfold nN; rw [if_neg]; intro e; subst e; exact h rfl
theorem canon_u64 {N : Int} (h : U64 N) : U64 (canonZ N) := by
  unfold canonZ; split
  · exact ⟨by decide, by decide⟩
  · exact h
theorem nN_u64 {K N : Int} (h : U64 N) : U64 (nN K N) := by
  unfold nN; split
  · exact canon_u64 h
  · exact ⟨by decide, by decide⟩

set_option maxHeartbeats 4000000 in
theorem same_any (K N : Int) (S : ByteArray) (O : Int) (K' N' : Int) (S' : ByteArray) (O' : Int) (w : World) (hN : U64 N) (hN' : U64 N') :
    Calls Tryd.prog 46 #[.agg #[.int .i64 K, .int .u64 N, .string S, .int .i64 O], .agg #[.int .i64 K', .int .u64 N', .string S', .int .i64 O']] w fun e w' => e = .returned (.bool (sameB K N S O K' N' S' O')) ∧ Below w.heap.size w w' := by
  have H0 : Hid ((nK K ≠ 3 → nN K N = 0) ∧ (nK K' ≠ 3 → nN K' N' = 0)) := ⟨nN_zero, nN_zero⟩
  have HE : Hid (∀ w, Calls Tryd.prog 61 #[.int .u64 (nN K N), .int .u64 (nN K' N')] w fun e w' => e = .returned (.bool (equalB (nN K N) (nN K' N'))) ∧ w' = w) := fun w => equal_any _ _ w (nN_u64 hN) (nN_u64 hN')
  unfold sameB
  go_enter Tryd.func46, Tryd.ntmps46
  go_wp2_with fail
  go_cut [4] (fun t wx => t = .bool false ∧ wx.cell? ⟨w.heap.size, 0, none⟩ = some (.int .i64 (nK K)) ∧ wx.cell? ⟨w.heap.size, 1, none⟩ = some (.int .u64 (nN K N)) ∧ wx.cell? ⟨w.heap.size, 2, none⟩ = some (.string (nS K S)) ∧ wx.cell? ⟨w.heap.size, 3, none⟩ = some (.int .i64 (nO K O)) ∧
    wx.cell? ⟨w.heap.size + 1, 0, none⟩ = some (.int .i64 (nK K')) ∧ wx.cell? ⟨w.heap.size + 1, 1, none⟩ = some (.int .u64 (nN K' N')) ∧ wx.cell? ⟨w.heap.size + 1, 2, none⟩ = some (.string (nS K' S')) ∧ wx.cell? ⟨w.heap.size + 1, 3, none⟩ = some (.int .i64 (nO K' O')) ∧ Hid (Below w.heap.size w wx))
  case first =>
    go_region_with (go_at_call 33; refine (normal_any _ _ _ _ _ (by assumption)).mono ?_; rintro e wn ⟨he, hb⟩; unfold nv vl at he; subst he; obtain ⟨hc, hf⟩ := bcell hb; have hz0 : w.heap.size < wn.heap.size := (by have := hb.size; (try simp at this); omega); have hz1 : w.heap.size + 1 < wn.heap.size := (by have := hb.size; (try simp at this); omega))
    all_goals
      rename_i wm hbm hcm hfm hzm0 hzm1
      have a0 : wn.cell? ⟨w.heap.size, 0, none⟩ = some (.int .i64 K) := by rw [hc _ _ hzm0, hcm _ _ (by simp; try omega)]; simp
      have a1 : wn.cell? ⟨w.heap.size, 1, none⟩ = some (.int .u64 N) := by rw [hc _ _ hzm0, hcm _ _ (by simp; try omega)]; simp
      have a2 : wn.cell? ⟨w.heap.size, 2, none⟩ = some (.string S) := by rw [hc _ _ hzm0, hcm _ _ (by simp; try omega)]; simp
      have a3 : wn.cell? ⟨w.heap.size, 3, none⟩ = some (.int .i64 O) := by rw [hc _ _ hzm0, hcm _ _ (by simp; try omega)]; simp
      have b0 : wn.cell? ⟨w.heap.size + 1, 0, none⟩ = some (.int .i64 K') := by rw [hc _ _ hzm1, hcm _ _ (by simp; try omega)]; simp
      have b1 : wn.cell? ⟨w.heap.size + 1, 1, none⟩ = some (.int .u64 N') := by rw [hc _ _ hzm1, hcm _ _ (by simp; try omega)]; simp
      have b2 : wn.cell? ⟨w.heap.size + 1, 2, none⟩ = some (.string S') := by rw [hc _ _ hzm1, hcm _ _ (by simp; try omega)]; simp
      have b3 : wn.cell? ⟨w.heap.size + 1, 3, none⟩ = some (.int .i64 O') := by rw [hc _ _ hzm1, hcm _ _ (by simp; try omega)]; simp
      have hB : Below w.heap.size w wn := Below.trans (by first | exact (((Below.refl _ _).alloc (Nat.le_refl _) _).alloc (by simp) _).drew.trans (hbm.mono (by simp; omega)) | exact (((Below.refl _ _).alloc (Nat.le_refl _) _).alloc (by simp) _).trans (hbm.mono (by simp; omega)) | exact ((((Below.refl _ _).alloc (Nat.le_refl _) _).alloc (by simp) _).drew.drew).trans (hbm.mono (by simp; omega))) (by first | exact hb.mono (by omega) | exact (Below.refl _ _).drew.trans (hb.mono (by simp; omega)))
      have q1 := stored4 wn _ w.heap.size (.int .i64 (nK K)) (.int .u64 (nN K N)) (.string (nS K S)) (.int .i64 (nO K O)) _ _ _ _ a0 a1 a2 a3 rfl
      have hB1 := set4 (i0 := 0) (i1 := 1) (i2 := 2) (i3 := 3) hB (Nat.le_refl _) (.int .i64 (nK K)) (.int .u64 (nN K N)) (.string (nS K S)) (.int .i64 (nO K O))
      generalize ((((wn.setCell ⟨w.heap.size, 0, none⟩ (.int .i64 (nK K))).setCell ⟨w.heap.size, 1, none⟩ (.int .u64 (nN K N))).setCell ⟨w.heap.size, 2, none⟩ (.string (nS K S))).setCell ⟨w.heap.size, 3, none⟩ (.int .i64 (nO K O))) = wp at q1 hB1 ⊢
      have q2 := stored4 wp _ (w.heap.size + 1) (.int .i64 (nK K')) (.int .u64 (nN K' N')) (.string (nS K' S')) (.int .i64 (nO K' O')) _ _ _ _ ((q1.2 _ _ (by omega)).trans b0) ((q1.2 _ _ (by omega)).trans b1) ((q1.2 _ _ (by omega)).trans b2) ((q1.2 _ _ (by omega)).trans b3) rfl
      have hB2 := set4 (b := w.heap.size + 1) (i0 := 0) (i1 := 1) (i2 := 2) (i3 := 3) hB1 (by omega) (.int .i64 (nK K')) (.int .u64 (nN K' N')) (.string (nS K' S')) (.int .i64 (nO K' O'))
      generalize ((((wp.setCell ⟨w.heap.size + 1, 0, none⟩ (.int .i64 (nK K'))).setCell ⟨w.heap.size + 1, 1, none⟩ (.int .u64 (nN K' N'))).setCell ⟨w.heap.size + 1, 2, none⟩ (.string (nS K' S'))).setCell ⟨w.heap.size + 1, 3, none⟩ (.int .i64 (nO K' O'))) = wq at q2 hB2 ⊢
      go_wp2_with fail
      go_meet
      exact ⟨rfl, (q2.2 _ _ (by omega)).trans q1.1.1, (q2.2 _ _ (by omega)).trans q1.1.2.1, (q2.2 _ _ (by omega)).trans q1.1.2.2.1, (q2.2 _ _ (by omega)).trans q1.1.2.2.2, q2.1.1, q2.1.2.1, q2.1.2.2.1, q2.1.2.2.2, hB2⟩
  case rest =>
    obtain ⟨rfl, a0, a1, a2, a3, b0, b1, b2, b3, HB⟩ := hcut
    by_cases c3 : (nK K) = 3 ∧ (nK K') = 3
    · have hv : Hid (sameV (nK K) (nN K N) (nS K S) (nO K O) (nK K') (nN K' N') (nS K' S') (nO K' O') = equalB (nN K N) (nN K' N')) := if_pos c3
      generalize equalB (nN K N) (nN K' N') = r at *
      obtain ⟨d1, d2⟩ := c3
      go_wp2_with fail
      refine (HE.out _).mono ?_
      rintro e w1 ⟨rfl, rfl⟩
      go_wp2
      go_ret
      exact ⟨ret_bool hv.out.symm, HB.out⟩
    · have hv : sameV (nK K) (nN K N) (nS K S) (nO K O) (nK K') (nN K' N') (nS K' S') (nO K' O') = decide ((nK K) = (nK K') ∧ (nN K N) = (nN K' N') ∧ (nS K S) = (nS K' S') ∧ (nO K O) = (nO K' O')) := if_neg c3
      by_cases ck : (nK K) = 3
      · have ck' : ¬ (nK K') = 3 := fun h => c3 ⟨ck, h⟩
        have cb : ((nK K') == 3) = false := by simpa using ck'
        rw [decide_eq_false (fun h => ck' (h.1.symm.trans ck))] at hv
        have HV : Hid (_ = _) := hv
        clear hv
        go_wp2
        all_goals
          go_ret
          exact ⟨by first | exact ret_bool HV.out.symm | (exfalso; omega), HB.out⟩
      · have cb : ((nK K) == 3) = false := by simpa using ck
        by_cases ce : (nK K) = (nK K') ∧ (nN K N) = (nN K' N') ∧ (nS K S) = (nS K' S') ∧ (nO K O) = (nO K' O')
        · rw [decide_eq_true ce] at hv
          have HV : Hid (_ = _) := hv
          clear hv
          obtain ⟨e1, e2, e3, e4⟩ := ce
          go_wp2
          all_goals
            go_ret
            exact ⟨ret_bool HV.out.symm, HB.out⟩
        · rw [decide_eq_false ce] at hv
          have HV : Hid (_ = _) := hv
          have HCE : Hid (¬ ((nK K) = (nK K') ∧ (nN K N) = (nN K' N') ∧ (nS K S) = (nS K' S') ∧ (nO K O) = (nO K' O'))) := ce
          clear ce c3 hv
          go_wp2
          all_goals
            go_ret
            exact ⟨by first | exact ret_bool HV.out.symm | (exfalso; have q := HCE.out; first | exact q ⟨by assumption, by assumption, text_inj (by assumption), by assumption⟩ | exact q ⟨by first | assumption | exact text_inj (by assumption), by assumption⟩ | (clear HV; simp_all)), HB.out⟩

end Go.Proofs.YtjkedocppbcncaaDoor

/-
  Layer 8: plain mathematics of values: keys, and which values are the same.
-/
namespace Go.Proofs.YtjkedocppbcncaaDoor
set_option maxRecDepth 100000
open Go.RowKit Flo

/-- Whether a value has a key, and its number there. -/
def kok (K N : Int) : Bool := !decide (nK K = 0) && !(decide (K = 3) && nanB N)
def kN (K N : Int) : Int := if mag (nN K N) = 0 then 0 else nN K N
/-- A value's key, or the zero value. -/
def yK (K N : Int) : Int := if kok K N then nK K else 0
def yN (K N : Int) : Int := if kok K N then kN K N else 0
def yS (K N : Int) (S : ByteArray) : ByteArray := if kok K N then nS K S else ⟨#[]⟩
def yO (K N O : Int) : Int := if kok K N then nO K O else 0

theorem nK_nK (K : Int) : nK (nK K) = nK K := by
  by_cases h : 0 ≤ K ∧ K ≤ 8
  · have e : nK K = K := if_pos h
    rw [e, e]
  · have e : nK K = 0 := if_neg h
    rw [e]; rfl
theorem nK_3 (K : Int) : nK K = 3 ↔ K = 3 := by unfold nK; split <;> omega
theorem nK_0 (K : Int) : nK K = 0 ↔ (K ≤ 0 ∨ 9 ≤ K) := by unfold nK; split <;> omega
theorem nK_bd (K : Int) : 0 ≤ nK K ∧ nK K ≤ 8 := by unfold nK; split <;> omega
theorem nK_of {K : Int} (h : nK K ≠ 0) : nK K = K := by unfold nK at *; split <;> simp_all
theorem canon_canon (N : Int) : canonZ (canonZ N) = canonZ N := by
  unfold canonZ
  cases h : nanB N
  · simp [h]
  · have : nanB 9221120237041090560 = true := by decide
    simp [this]
theorem nan_canon (N : Int) : nanB (canonZ N) = nanB N := by
  unfold canonZ
  cases h : nanB N
  · simp [h]
  · have : nanB 9221120237041090560 = true := by decide
    simp [this]
theorem nN_nN (K N : Int) : nN (nK K) (nN K N) = nN K N := by
  unfold nN
  by_cases h : K = 3
  · subst h; rw [if_pos rfl, if_pos (by rfl), canon_canon]
  · rw [if_neg h, if_neg (by rw [nK_3]; exact h)]
theorem nS_nS (K : Int) (S : ByteArray) : nS (nK K) (nS K S) = nS K S := by
  unfold nS
  by_cases h : K = 4
  · subst h; rw [if_pos rfl, if_pos (by rfl)]
  · rw [if_neg h]; split <;> rfl
theorem nO_nO (K O : Int) : nO (nK K) (nO K O) = nO K O := by
  unfold nO
  by_cases h : 5 ≤ K ∧ K ≤ 8
  · rw [if_pos h, if_pos (by unfold nK; split <;> omega)]
  · rw [if_neg h]; split <;> rfl
theorem nil_form {K : Int} (N : Int) (S : ByteArray) (O : Int) (h : nK K = 0) : nN K N = 0 ∧ nS K S = ⟨#[]⟩ ∧ nO K O = 0 := by
  rw [nK_0] at h
  unfold nN nS nO
  exact ⟨if_neg (by omega), if_neg (by omega), if_neg (by omega)⟩
theorem kN_plain {K : Int} (N : Int) (h : K ≠ 3) : kN K N = 0 ∧ nN K N = 0 := by
  have : nN K N = 0 := by unfold nN; exact if_neg h
  exact ⟨by unfold kN; rw [this]; rfl, this⟩
theorem kok_plain {K : Int} (N : Int) (h : K ≠ 3) : kok K N = true ↔ nK K ≠ 0 := by
  unfold kok; simp [h]
theorem kok_3 (N : Int) : kok 3 N = !nanB N := by unfold kok; simp [show nK 3 = 3 from rfl]
theorem kN_3 {N : Int} (h : nanB N = false) : kN 3 N = if mag N = 0 then 0 else N := by
  have : nN 3 N = N := by unfold nN canonZ; rw [if_pos rfl, h]; rfl
  unfold kN; rw [this]
/-- Numbers that are equal are those with the same key. -/
theorem equal_key {N M : Int} (hN : U64 N) (hM : U64 M) : equalB (canonZ N) (canonZ M) = true ↔ (nanB N = false ∧ nanB M = false ∧ (if mag N = 0 then 0 else N) = (if mag M = 0 then 0 else M)) := by
  unfold equalB
  rw [nan_canon, nan_canon]
  cases hn : nanB N <;> cases hm : nanB M <;> simp
  have e1 : canonZ N = N := by unfold canonZ; rw [hn]; rfl
  have e2 : canonZ M = M := by unfold canonZ; rw [hm]; rfl
  rw [e1, e2]
  obtain ⟨a1, a2⟩ := hN
  obtain ⟨b1, b2⟩ := hM
  unfold sv mag
  constructor
  · intro h
    split at h <;> split at h <;> split <;> split <;> omega
  · intro h
    split at h <;> split at h <;> split <;> split <;> omega
/-- Two values are the same just where they have the same key, or are both Nil. -/
theorem same_key {K N : Int} {S : ByteArray} {O K' N' : Int} {S' : ByteArray} {O' : Int} (hN : U64 N) (hN' : U64 N') :
    sameB K N S O K' N' S' O' = true ↔ ((kok K N = true ∧ kok K' N' = true ∧ nK K = nK K' ∧ kN K N = kN K' N' ∧ nS K S = nS K' S' ∧ nO K O = nO K' O') ∨ (nK K = 0 ∧ nK K' = 0)) := by
  unfold sameB sameV
  by_cases c : K = 3 ∧ K' = 3
  · obtain ⟨rfl, rfl⟩ := c
    rw [if_pos ⟨rfl, rfl⟩, show nN 3 N = canonZ N from rfl, show nN 3 N' = canonZ N' from rfl, equal_key hN hN', kok_3, kok_3]
    constructor
    · rintro ⟨h1, h2, h3⟩
      left
      rw [h1, h2, kN_3 h1, kN_3 h2]
      exact ⟨rfl, rfl, rfl, h3, rfl, rfl⟩
    · rintro (⟨h1, h2, _, h3, _, _⟩ | ⟨h, _⟩)
      · have g1 : nanB N = false := by simpa using h1
        have g2 : nanB N' = false := by simpa using h2
        rw [kN_3 g1, kN_3 g2] at h3
        exact ⟨g1, g2, h3⟩
      · exact absurd h (by decide)
  · rw [if_neg (by rw [nK_3, nK_3]; exact c), decide_eq_true_iff]
    by_cases c1 : K = 3
    · have c2 : K' ≠ 3 := fun h => c ⟨c1, h⟩
      have h3 : nK K = 3 := (nK_3 K).2 c1
      have h4 : nK K' ≠ 3 := fun h => c2 ((nK_3 K').1 h)
      constructor
      · rintro ⟨h, _⟩; omega
      · rintro (⟨_, _, h, _⟩ | ⟨h, _⟩) <;> omega
    · by_cases c2 : K' = 3
      · have h3 : nK K' = 3 := (nK_3 K').2 c2
        have h4 : nK K ≠ 3 := fun h => c1 ((nK_3 K).1 h)
        constructor
        · rintro ⟨h, _⟩; omega
        · rintro (⟨_, _, h, _⟩ | ⟨_, h⟩) <;> omega
      · obtain ⟨k1, k2⟩ := kN_plain N c1
        obtain ⟨k3, k4⟩ := kN_plain N' c2
        rw [k1, k2, k3, k4, kok_plain N c1, kok_plain N' c2]
        constructor
        · rintro ⟨h1, _, h2, h3⟩
          by_cases z : nK K = 0
          · right; exact ⟨z, by omega⟩
          · left; exact ⟨z, by omega, h1, rfl, h2, h3⟩
        · rintro (⟨_, _, h1, _, h2, h3⟩ | ⟨h1, h2⟩)
          · exact ⟨h1, rfl, h2, h3⟩
          · obtain ⟨_, a2, a3⟩ := nil_form N S O h1
            obtain ⟨_, b2, b3⟩ := nil_form N' S' O' h2
            exact ⟨by omega, rfl, by rw [a2, b2], by rw [a3, b3]⟩
theorem kok_nil {K N : Int} (h : kok K N = true) : nK K ≠ 0 := by
  unfold kok at h; simp at h; exact h.1
theorem same_symm {K N : Int} {S : ByteArray} {O K' N' : Int} {S' : ByteArray} {O' : Int} (hN : U64 N) (hN' : U64 N') : sameB K' N' S' O' K N S O = sameB K N S O K' N' S' O' := by
  rw [Bool.eq_iff_iff, same_key hN hN', same_key hN' hN]
  constructor
  · rintro (⟨a, b, c, d, e, f⟩ | ⟨a, b⟩)
    · exact Or.inl ⟨b, a, c.symm, d.symm, e.symm, f.symm⟩
    · exact Or.inr ⟨b, a⟩
  · rintro (⟨a, b, c, d, e, f⟩ | ⟨a, b⟩)
    · exact Or.inl ⟨b, a, c.symm, d.symm, e.symm, f.symm⟩
    · exact Or.inr ⟨b, a⟩
theorem same_trans {K N : Int} {S : ByteArray} {O K' N' : Int} {S' : ByteArray} {O' K2 N2 : Int} {S2 : ByteArray} {O2 : Int} (hN : U64 N) (hN' : U64 N') (hN2 : U64 N2) (h1 : sameB K N S O K' N' S' O' = true) (h2 : sameB K' N' S' O' K2 N2 S2 O2 = true) : sameB K N S O K2 N2 S2 O2 = true := by
  rw [same_key hN hN'] at h1
  rw [same_key hN' hN2] at h2
  rw [same_key hN hN2]
  rcases h1 with ⟨a, b, c, d, e, f⟩ | ⟨a, b⟩
  · rcases h2 with ⟨a', b', c', d', e', f'⟩ | ⟨a', b'⟩
    · exact Or.inl ⟨a, b', c.trans c', d.trans d', e.trans e', f.trans f'⟩
    · exact absurd a' (kok_nil b)
  · rcases h2 with ⟨a', b', c', d', e', f'⟩ | ⟨a', b'⟩
    · exact absurd b (kok_nil a')
    · exact Or.inr ⟨a, b'⟩
theorem kN_u64 {K N : Int} (h : U64 N) : U64 (kN K N) := by
  unfold kN; split
  · exact ⟨by decide, by decide⟩
  · exact nN_u64 h
/-- Keys of keys. -/
theorem key_key {K N : Int} (S : ByteArray) (O : Int) (h : kok K N = true) : kok (nK K) (kN K N) = true ∧ nK (nK K) = nK K ∧ kN (nK K) (kN K N) = kN K N ∧ nS (nK K) (nS K S) = nS K S ∧ nO (nK K) (nO K O) = nO K O := by
  refine ⟨?_, nK_nK K, ?_, nS_nS K S, nO_nO K O⟩
  · by_cases c : K = 3
    · subst c
      rw [kok_3] at h
      have g : nanB N = false := by simpa using h
      rw [show nK 3 = 3 from rfl, kok_3, kN_3 g]
      split
      · decide
      · simpa using g
    · rw [kok_plain _ (by rw [Ne, nK_3]; exact c), nK_nK]
      exact kok_nil h
  · by_cases c : K = 3
    · subst c
      rw [kok_3] at h
      have g : nanB N = false := by simpa using h
      rw [show nK 3 = 3 from rfl, kN_3 g]
      split
      · decide
      · next z => rw [kN_3 g, if_neg z]
    · rw [(kN_plain N c).1]
      exact (kN_plain 0 (by rw [Ne, nK_3]; exact c)).1
/-- The plain form again. -/
theorem kok_norm (K N : Int) : kok (nK K) (nN K N) = kok K N := by
  by_cases c : K = 3
  · subst c
    rw [show nK 3 = 3 from rfl, show nN 3 N = canonZ N from rfl, kok_3, kok_3, nan_canon]
  · rw [Bool.eq_iff_iff, kok_plain _ (by rw [Ne, nK_3]; exact c), kok_plain _ c, nK_nK]
theorem kN_norm (K N : Int) : kN (nK K) (nN K N) = kN K N := by unfold kN; rw [nN_nN]

end Go.Proofs.YtjkedocppbcncaaDoor

/-
  Layer 9: a heap as a whole: its objects, and the blocks that they own.
-/
namespace Go.Proofs.YtjkedocppbcncaaDoor
set_option maxRecDepth 100000
open Go.RowKit Flo

/-- An object: its numbers; its slots, in the block sb; or its table; the blocks that it owns. -/
structure Ob where
  k : Int
  a : Int
  b : Int
  sb : Nat
  sl : List V4
  tb : Option Nat
  es : List En
  M : V4
  X : Nat → Prop
def Ob.slV (o : Ob) : Value := match o.tb with
  | some _ => .slice none 0 0
  | none => .slice (some ⟨o.sb, 0, none⟩) o.sl.length o.sl.length
def Ob.ptr (o : Ob) : Option Addr := o.tb.map fun b => ⟨b, 0, none⟩
def Ob.cells (o : Ob) : List Value := [.int .i64 o.k, .int .i64 o.a, .int .i64 o.b, o.slV, .pointer o.ptr]
/-- How many cells of the heap it takes. -/
def Ob.wt (o : Ob) : Nat := 1 + o.es.length + o.sl.length
def obC (os : List Ob) : List Value := os.flatMap Ob.cells
theorem obC_length : ∀ os : List Ob, (obC os).length = os.length * 5
  | [] => rfl
  | o :: l => by
    have := obC_length l
    unfold obC at *
    rw [List.flatMap_cons, List.length_append, this]
    simp [Ob.cells]; omega
theorem obC_snoc (os : List Ob) (o : Ob) : obC (os ++ [o]) = obC os ++ o.cells := by unfold obC; simp
theorem obC_at : ∀ (os : List Ob) (i : Nat) (o : Ob), os[i]? = some o → ∀ j, j < 5 → (obC os)[i * 5 + j]? = o.cells[j]?
  | [], i, o, h, j, _ => by simp at h
  | p :: l, 0, o, h, j, hj => by
    simp only [List.getElem?_cons_zero, Option.some.injEq] at h
    subst h
    unfold obC
    rw [List.flatMap_cons, List.getElem?_append_left (by simp [Ob.cells]; omega)]
    simp
  | p :: l, i + 1, o, h, j, hj => by
    rw [List.getElem?_cons_succ] at h
    have := obC_at l i o h j hj
    unfold obC at *
    have hl : p.cells.length = 5 := rfl
    rw [List.flatMap_cons, List.getElem?_append_right (by rw [hl]; omega), hl, show (i + 1) * 5 + j - 5 = i * 5 + j by omega]
    exact this
theorem obC_set : ∀ (os : List Ob) (i : Nat) (o o' : Ob), os[i]? = some o → o'.cells = o.cells → obC (os.set i o') = obC os
  | [], i, o, o', h, _ => by simp at h
  | p :: l, 0, o, o', h, e => by
    simp only [List.getElem?_cons_zero, Option.some.injEq] at h
    subst h
    unfold obC
    rw [List.set_cons_zero, List.flatMap_cons, List.flatMap_cons, e]
  | p :: l, i + 1, o, o', h, e => by
    rw [List.getElem?_cons_succ] at h
    have := obC_set l i o o' h e
    unfold obC at *
    rw [List.set_cons_succ, List.flatMap_cons, List.flatMap_cons, this]

/-- An entry's key is a key in its form. -/
def keyOk (e : En) : Prop := kok e.K e.N = true ∧ nK e.K = e.K ∧ kN e.K e.N = e.N ∧ nS e.K e.S = e.S ∧ nO e.K e.O = e.O
structure Obv (w : World) (o : Ob) : Prop where
  tab : ∀ tb, o.tb = some tb → (o.k = 5 ∧ o.a = 0 ∧ o.b = 0 ∧ o.sl = []) ∧ Tv w tb o.X o.es o.M ∧ ∀ e ∈ o.es, keyOk e
  oth : o.tb = none → (o.es = [] ∧ o.k ≠ 5) ∧ (∀ k, o.X k ↔ k = o.sb) ∧ o.sb < w.heap.size ∧ (∀ j, w.frozen? ⟨o.sb, j, none⟩ = false) ∧ ∀ i v, o.sl[i]? = some v → At4 w o.sb (4 * i) v
theorem Obv.wx {w w' : World} {o : Ob} {Y : Nat → Prop} (h : Obv w o) (k : Wx Y w w') (hY : ∀ i, o.X i → ¬ Y i) (h1 : ¬ Y 1) : Obv w' o := by
  refine ⟨fun tb e => ?_, fun e => ?_⟩
  · obtain ⟨a, b, c⟩ := h.tab tb e
    exact ⟨a, b.wx k hY h1, c⟩
  · obtain ⟨a, b, c, d, f⟩ := h.oth e
    exact ⟨a, b, Nat.lt_of_lt_of_le c k.size, fun j => (k.frozen c (hY _ ((b _).2 rfl))).trans (d j), fun i v hv => (f i v hv).wx k (hY _ ((b _).2 rfl))⟩

/-- The heap in the block hb: how many cells at most, how many are used, its row of objects; all that it owns lies in Z. -/
structure Hv (w : World) (hb lim used : Nat) (R : Value) (os : List Ob) (Z : Nat → Prop) : Prop where
  c0 : w.cell? ⟨hb, 0, none⟩ = some (.int .i64 lim)
  c1 : w.cell? ⟨hb, 1, none⟩ = some (.int .i64 used)
  c2 : w.cell? ⟨hb, 2, none⟩ = some R
  hfree : ∀ o, w.frozen? ⟨hb, o, none⟩ = false
  row : w.ownsRow 0 72 5 R os.length (obC os)
  hl : lim ≤ 1048576
  hu : used ≤ lim
  sum : used = (os.map Ob.wt).sum
  ob : ∀ (i : Nat) o, os[i]? = some o → Obv w o
  mt : ∀ (i : Nat) o, os[i]? = some o → o.M.K = 0 ∨ (o.M.K = 5 ∧ 1 ≤ o.M.O ∧ ∃ p, os[(o.M.O - 1).toNat]? = some p ∧ p.tb ≠ none)
  lt : ∀ k, Z k → k < w.heap.size
  no1 : ¬ Z 1
  zh : Z hb
  zr : ∀ g, R.ownBlock = some g → Z g ∧ g ≠ hb
  zx : ∀ (i : Nat) o, os[i]? = some o → ∀ k, o.X k → Z k ∧ k ≠ hb ∧ R.ownBlock ≠ some k
  xx : ∀ (i j : Nat) o p, os[i]? = some o → os[j]? = some p → i ≠ j → ∀ k, o.X k → ¬ p.X k
  db : Db w

theorem rowStay {w w' : World} {B e s n : Nat} {v : Value} {xs : List Value} (h : w.ownsRow B e s v n xs) (hk : ∀ g, v.ownBlock = some g → w'.heap[g]? = w.heap[g]?) : w'.ownsRow B e s v n xs := by
  refine ⟨h.1, ?_⟩
  rcases h.2 with k2 | ⟨g, cap, cur, e1, e2, e3, rest⟩
  · exact Or.inl k2
  · exact Or.inr ⟨g, cap, cur, e1, e2, (hk g (by rw [e1]; rfl)).trans e3, rest⟩
theorem rowForm {w : World} {B e s n : Nat} {v : Value} {xs : List Value} (h : w.ownsRow B e s v n xs) : (v = .slice none 0 0 ∧ n = 0) ∨ ∃ g cap, v = .slice (some ⟨g, 0, none⟩) n cap ∧ g < w.heap.size := by
  rcases h.2 with k2 | ⟨g, cap, cur, e1, e2, e3, rest⟩
  · exact Or.inl k2
  · refine Or.inr ⟨g, cap, e1, ?_⟩
    rcases Nat.lt_or_ge g w.heap.size with c | c
    · exact c
    · rw [Array.getElem?_eq_none c] at e3; cases e3

/-- What is written elsewhere leaves a heap as it is. -/
theorem Hv.wx {w w' : World} {hb lim used : Nat} {R : Value} {os : List Ob} {Z Y : Nat → Prop} (h : Hv w hb lim used R os Z) (k : Wx Y w w') (hY : ∀ i, Z i → ¬ Y i) (h1 : ¬ Y 1) : Hv w' hb lim used R os Z :=
  ⟨k.cell (hY _ h.zh) h.c0, k.cell (hY _ h.zh) h.c1, k.cell (hY _ h.zh) h.c2, fun o => (k.frozen (h.lt _ h.zh) (hY _ h.zh)).trans (h.hfree o), rowStay h.row (fun g hg => k.block g (h.lt g (h.zr g hg).1) (hY g (h.zr g hg).1)), h.hl, h.hu, h.sum,
    fun i o ho => (h.ob i o ho).wx k (fun j hj => hY j (h.zx i o ho j hj).1) h1, h.mt, fun i hi => Nat.lt_of_lt_of_le (h.lt i hi) k.size, h.no1, h.zh, h.zr, h.zx, h.xx, h.db.wx k h1⟩
theorem Hv.below {w w' : World} {hb lim used : Nat} {R : Value} {os : List Ob} {Z : Nat → Prop} (h : Hv w hb lim used R os Z) (k : Below w.heap.size w w') : Hv w' hb lim used R os Z :=
  h.wx (Wx.of_below (fun _ => False) k) (fun _ _ c => c) (fun c => c)
/-- Its blocks and those that are new. -/
def Zn (Z : Nat → Prop) (a b : Nat) : Nat → Prop := fun k => Z k ∨ (a ≤ k ∧ k < b)
theorem Hv.grow {w : World} {hb lim used : Nat} {R : Value} {os : List Ob} {Z : Nat → Prop} (h : Hv w hb lim used R os Z) (a b : Nat) (ha : 1 < a) (hbs : b ≤ w.heap.size) : Hv w hb lim used R os (Zn Z a b) :=
  ⟨h.c0, h.c1, h.c2, h.hfree, h.row, h.hl, h.hu, h.sum, h.ob, h.mt, fun k hk => by
      rcases hk with c | c
      · exact h.lt k c
      · omega,
    fun c => by
      rcases c with c | c
      · exact h.no1 c
      · omega,
    Or.inl h.zh, fun g hg => ⟨Or.inl (h.zr g hg).1, (h.zr g hg).2⟩, fun i o ho k hk => ⟨Or.inl (h.zx i o ho k hk).1, (h.zx i o ho k hk).2⟩, h.xx, h.db⟩
theorem Hv.two {w : World} {hb lim used : Nat} {R : Value} {os : List Ob} {Z : Nat → Prop} (h : Hv w hb lim used R os Z) : 1 < w.heap.size := World.block_lt_of_cell? w ⟨1, 0, none⟩ (h.db 0 (by decide))

theorem sum_set : ∀ (os : List Ob) (i : Nat) (o o' : Ob), os[i]? = some o → ((os.set i o').map Ob.wt).sum + o.wt = (os.map Ob.wt).sum + o'.wt
  | [], i, o, o', h => by simp at h
  | p :: l, 0, o, o', h => by
    simp only [List.getElem?_cons_zero, Option.some.injEq] at h
    subst h
    simp only [List.set_cons_zero, List.map_cons, List.sum_cons]; omega
  | p :: l, i + 1, o, o', h => by
    rw [List.getElem?_cons_succ] at h
    have := sum_set l i o o' h
    simp only [List.set_cons_succ, List.map_cons, List.sum_cons]; omega
theorem sum_ge : ∀ (os : List Ob) (i : Nat) (o : Ob), os[i]? = some o → o.wt ≤ (os.map Ob.wt).sum
  | [], i, o, h => by simp at h
  | p :: l, 0, o, h => by
    simp only [List.getElem?_cons_zero, Option.some.injEq] at h
    subst h
    simp only [List.map_cons, List.sum_cons]; omega
  | p :: l, i + 1, o, h => by
    rw [List.getElem?_cons_succ] at h
    have := sum_ge l i o h
    simp only [List.map_cons, List.sum_cons]; omega
theorem sum_len : ∀ os : List Ob, os.length ≤ (os.map Ob.wt).sum
  | [] => Nat.le_refl _
  | o :: l => by
    have := sum_len l
    simp only [List.map_cons, List.sum_cons, List.length_cons]
    unfold Ob.wt at *; omega

/-- One object becomes another in the place of it, what is written lying within its blocks; then the number of cells is written. -/
theorem Hv.put' {w w' w2 : World} {hb lim used used' : Nat} {R : Value} {os : List Ob} {Z : Nat → Prop} {i : Nat} {o o' : Ob} (h : Hv w hb lim used R os Z) (ho : os[i]? = some o) {Y : Nat → Prop} (k : Wx Y w w') (hY : ∀ j, Y j → o.X j ∨ w.heap.size ≤ j)
    (hc : o'.cells = o.cells) (hv : Obv w' o') (hX : ∀ j, o'.X j → o.X j ∨ w.heap.size ≤ j) (hlt : ∀ j, o'.X j → j < w'.heap.size) (htb : o'.tb = o.tb)
    (hm : o'.M.K = 0 ∨ (o'.M.K = 5 ∧ 1 ≤ o'.M.O ∧ ∃ p, os[(o'.M.O - 1).toNat]? = some p ∧ p.tb ≠ none)) (hu : used' + o.wt = used + o'.wt) (hul : used' ≤ lim)
    (hset : Wx (fun j => j = hb) w' w2) (hs2 : w2.heap.size = w'.heap.size) (e0 : w2.cell? ⟨hb, 0, none⟩ = w'.cell? ⟨hb, 0, none⟩) (e1 : w2.cell? ⟨hb, 1, none⟩ = some (.int .i64 (used' : Int))) (e2 : w2.cell? ⟨hb, 2, none⟩ = w'.cell? ⟨hb, 2, none⟩) (ef : ∀ i, w2.frozen? ⟨hb, i, none⟩ = w'.frozen? ⟨hb, i, none⟩) :
    Hv w2 hb lim used' R (os.set i o') (Zn Z w.heap.size w2.heap.size) ∧ Wx Z w w2 := by
  rw [hs2]
  have hs := k.size
  have hnX : ∀ j, Z j → ¬ o.X j → ¬ Y j := fun j hj hx hy => by
    rcases hY j hy with c | c
    · exact hx c
    · have := h.lt j hj; omega
  have hhb : ¬ o.X hb := fun c => (h.zx i o ho hb c).2.1 rfl
  have hk2 : Wx Z w w' := k.more (fun j hj => by
    rcases hY j hj with c | c
    · exact Or.inl (h.zx i o ho j c).1
    · exact Or.inr c)
  have hall : Wx Z w w2 := hk2.trans hset (fun j hj => Or.inl (by rw [hj]; exact h.zh))
  have hin : ∀ j, j < os.length → ∃ p, os[j]? = some p := fun j hj => ⟨os[j], List.getElem?_eq_getElem hj⟩
  have hi : i < os.length := by
    rcases Nat.lt_or_ge i os.length with c | c
    · exact c
    · rw [List.getElem?_eq_none c] at ho; cases ho
  have hgs : ∀ (j : Nat) p, (os.set i o')[j]? = some p → (j = i ∧ p = o') ∨ (j ≠ i ∧ os[j]? = some p) := by
    intro j p hp
    rw [List.getElem?_set] at hp
    by_cases c : i = j
    · rw [if_pos c] at hp
      by_cases d : j < os.length
      · rw [if_pos (by omega)] at hp
        exact Or.inl ⟨c.symm, (Option.some.inj hp).symm⟩
      · rw [if_neg (by omega)] at hp; cases hp
    · rw [if_neg c] at hp
      exact Or.inr ⟨fun q => c q.symm, hp⟩
  have hob : ∀ (j : Nat) p, (os.set i o')[j]? = some p → Obv w2 p := by
    intro j p hp
    rcases hgs j p hp with ⟨_, rfl⟩ | ⟨hj, hp⟩
    · refine hv.wx hset (fun x hx c => ?_) (fun c => h.no1 (c ▸ h.zh))
      rw [c] at hx
      rcases hX hb hx with q | q
      · exact hhb q
      · have := h.lt hb h.zh; omega
    · have h1 : Obv w' p := (h.ob j p hp).wx k (fun x hx => hnX x (h.zx j p hp x hx).1 (fun q => h.xx j i p o hp ho hj x hx q)) (fun c => by
        rcases hY 1 c with q | q
        · exact h.no1 (h.zx i o ho 1 q).1
        · have := h.two; omega)
      exact h1.wx hset (fun x hx c => (h.zx j p hp x hx).2.1 c) (fun c => h.no1 (c ▸ h.zh))
  have hptb : ∀ (j : Nat) p, os[j]? = some p → p.tb ≠ none → ∃ q, (os.set i o')[j]? = some q ∧ q.tb ≠ none := by
    intro j p hp hne
    rw [List.getElem?_set]
    by_cases c : i = j
    · refine ⟨o', by rw [if_pos c, if_pos (by omega)], ?_⟩
      rw [htb]
      subst c
      rw [ho] at hp
      rw [Option.some.inj hp]; exact hne
    · exact ⟨p, by rw [if_neg c]; exact hp, hne⟩
  refine ⟨⟨?_, ?_, ?_, fun x => ?_, ?_, h.hl, hul, ?_, hob, ?_, ?_, ?_, Or.inl h.zh, ?_, ?_, ?_, ?_⟩, ?_⟩
  · rw [e0]
    exact k.cell (hnX hb h.zh hhb) h.c0
  · exact e1
  · rw [e2]
    exact k.cell (hnX hb h.zh hhb) h.c2
  · rw [ef]
    exact (k.frozen (h.lt hb h.zh) (hnX hb h.zh hhb)).trans (h.hfree x)
  · rw [List.length_set, obC_set os i o o' ho hc]
    refine rowStay h.row (fun g hg => ?_)
    have hg2 := h.zr g hg
    refine (hset.block g (Nat.lt_of_lt_of_le (h.lt g hg2.1) hs) hg2.2).trans ?_
    exact k.block g (h.lt g hg2.1) (hnX g hg2.1 (fun q => (h.zx i o ho g q).2.2 hg))
  · have := sum_set os i o o' ho
    have := h.sum
    omega
  · intro j p hp
    rcases hgs j p hp with ⟨_, rfl⟩ | ⟨_, hp⟩
    · rcases hm with c | ⟨c1, c2, q, c3, c4⟩
      · exact Or.inl c
      · exact Or.inr ⟨c1, c2, hptb _ q c3 c4⟩
    · rcases h.mt j p hp with c | ⟨c1, c2, q, c3, c4⟩
      · exact Or.inl c
      · exact Or.inr ⟨c1, c2, hptb _ q c3 c4⟩
  · intro j hj
    rw [hs2]
    rcases hj with c | c
    · exact Nat.lt_of_lt_of_le (h.lt j c) hs
    · exact c.2
  · rintro (c | c)
    · exact h.no1 c
    · have := h.two; omega
  · intro g hg
    exact ⟨Or.inl (h.zr g hg).1, (h.zr g hg).2⟩
  · intro j p hp x hx
    rcases hgs j p hp with ⟨_, rfl⟩ | ⟨_, hp⟩
    · rcases hX x hx with q | q
      · exact ⟨Or.inl (h.zx i o ho x q).1, (h.zx i o ho x q).2⟩
      · refine ⟨Or.inr ⟨q, hlt x hx⟩, ?_, fun c => ?_⟩
        · have := h.lt hb h.zh; omega
        · have := h.lt x (h.zr x c).1; omega
    · exact ⟨Or.inl (h.zx j p hp x hx).1, (h.zx j p hp x hx).2⟩
  · intro j l p q hp hq hjl x hx hx2
    rcases hgs j p hp with ⟨e1, f1⟩ | ⟨e1, hp1⟩
    · rw [f1] at hx
      rcases hgs l q hq with ⟨e2, _⟩ | ⟨e2, hq1⟩
      · omega
      · rcases hX x hx with c | c
        · exact h.xx i l o q ho hq1 (by omega) x c hx2
        · have := h.lt x (h.zx l q hq1 x hx2).1; omega
    · rcases hgs l q hq with ⟨e2, f2⟩ | ⟨e2, hq1⟩
      · rw [f2] at hx2
        rcases hX x hx2 with c | c
        · exact h.xx j i p o hp1 ho (by omega) x hx c
        · have := h.lt x (h.zx j p hp1 x hx).1; omega
      · exact h.xx j l p q hp1 hq1 hjl x hx hx2
  · exact h.db.wx hall h.no1
  · exact hall

theorem Hv.put {w w' : World} {hb lim used used' : Nat} {R : Value} {os : List Ob} {Z : Nat → Prop} {i : Nat} {o o' : Ob} (h : Hv w hb lim used R os Z) (ho : os[i]? = some o) {Y : Nat → Prop} (k : Wx Y w w') (hY : ∀ j, Y j → o.X j ∨ w.heap.size ≤ j)
    (hc : o'.cells = o.cells) (hv : Obv w' o') (hX : ∀ j, o'.X j → o.X j ∨ w.heap.size ≤ j) (hlt : ∀ j, o'.X j → j < w'.heap.size) (htb : o'.tb = o.tb)
    (hm : o'.M.K = 0 ∨ (o'.M.K = 5 ∧ 1 ≤ o'.M.O ∧ ∃ p, os[(o'.M.O - 1).toNat]? = some p ∧ p.tb ≠ none)) (hu : used' + o.wt = used + o'.wt) (hul : used' ≤ lim) :
    Hv (w'.setCell ⟨hb, 1, none⟩ (.int .i64 used')) hb lim used' R (os.set i o') (Zn Z w.heap.size (w'.setCell ⟨hb, 1, none⟩ (.int .i64 used')).heap.size) ∧ Wx Z w (w'.setCell ⟨hb, 1, none⟩ (.int .i64 used')) := by
  refine h.put' ho k hY hc hv hX hlt htb hm hu hul (Wx.set w' 1 _ rfl) (World.size_setCell _ _ _) (World.cell?_setCell_other _ _ _ _ (by simp)) ?_ (World.cell?_setCell_other _ _ _ _ (by simp)) (fun j => World.frozen?_setCell _ _ _ _)
  have hhb : ¬ Y hb := fun c => by
    rcases hY hb c with q | q
    · exact (h.zx i o ho hb q).2.1 rfl
    · have := h.lt hb h.zh; omega
  exact World.cell?_setCell_same _ _ _ (k.cell hhb h.c1)
theorem Hv.put0 {w w' : World} {hb lim used : Nat} {R : Value} {os : List Ob} {Z : Nat → Prop} {i : Nat} {o o' : Ob} (h : Hv w hb lim used R os Z) (ho : os[i]? = some o) {Y : Nat → Prop} (k : Wx Y w w') (hY : ∀ j, Y j → o.X j ∨ w.heap.size ≤ j)
    (hc : o'.cells = o.cells) (hv : Obv w' o') (hX : ∀ j, o'.X j → o.X j ∨ w.heap.size ≤ j) (hlt : ∀ j, o'.X j → j < w'.heap.size) (htb : o'.tb = o.tb)
    (hm : o'.M.K = 0 ∨ (o'.M.K = 5 ∧ 1 ≤ o'.M.O ∧ ∃ p, os[(o'.M.O - 1).toNat]? = some p ∧ p.tb ≠ none)) (hu : o.wt = o'.wt) :
    Hv w' hb lim used R (os.set i o') (Zn Z w.heap.size w'.heap.size) ∧ Wx Z w w' := by
  have hhb : ¬ Y hb := fun c => by
    rcases hY hb c with q | q
    · exact (h.zx i o ho hb q).2.1 rfl
    · have := h.lt hb h.zh; omega
  exact h.put' ho k hY hc hv hX hlt htb hm (by omega) h.hu (Wx.refl _ w') rfl rfl (k.cell hhb h.c1) rfl (fun _ => rfl)

end Go.Proofs.YtjkedocppbcncaaDoor
