/-
  HpTv, HpObj, HpHv, HpTf, HpNew, HpNew2
-/
import Derived.Laws.OwnMore
import Derived.Deep.AppendLies
import Derived.Deep.RegionLaw
import Derived.Test.YthmocdabakkfhaaGreatDoorZ20

/-
  Layer 9: a table as a whole: what it owns, and what a key that comes does to it.
-/
namespace Go.Proofs.YthmocdabakkfhaaGreatDoor
set_option maxRecDepth 100000
open Go.RowKit

/-- From w to w' no more is written of what there was than blocks of X. -/
structure Wx (X : Nat → Prop) (w w' : World) : Prop where
  os : w'.os = w.os
  tape : w'.tape = w.tape
  output : w'.output = w.output
  size : w.heap.size ≤ w'.heap.size
  block : ∀ k, k < w.heap.size → ¬ X k → w'.heap[k]? = w.heap[k]?
theorem Wx.of {A : List (Nat × Nat)} {X : Nat → Prop} {w w' : World} (h : Wr A w w') (hA : ∀ k o, (k, o) ∈ A → X k ∨ w.heap.size ≤ k) : Wx X w w' := by
  have hb := h.below 0 (fun _ _ => Nat.zero_le _) (Nat.zero_le _)
  refine ⟨hb.os, hb.tape, hb.output, h.size, fun k hk hx => h.block hk (fun o hm => ?_)⟩
  rcases hA k o hm with c | c
  · exact hx c
  · omega
theorem Wx.trans {X Y : Nat → Prop} {a b c : World} (h : Wx X a b) (k : Wx Y b c) (hY : ∀ i, Y i → X i ∨ a.heap.size ≤ i) : Wx X a c :=
  ⟨k.os.trans h.os, k.tape.trans h.tape, k.output.trans h.output, Nat.le_trans h.size k.size, fun i hi hx => (k.block i (Nat.lt_of_lt_of_le hi h.size) (fun hy => by
    rcases hY i hy with c | c
    · exact hx c
    · omega)).trans (h.block i hi hx)⟩
theorem Wx.more {X Y : Nat → Prop} {w w' : World} (h : Wx X w w') (hX : ∀ k, X k → Y k ∨ w.heap.size ≤ k) : Wx Y w w' :=
  ⟨h.os, h.tape, h.output, h.size, fun k hk hy => h.block k hk (fun hx => by
    rcases hX k hx with c | c
    · exact hy c
    · omega)⟩
theorem Wx.of_below {w w' : World} (X : Nat → Prop) (h : Below w.heap.size w w') : Wx X w w' := ⟨h.os, h.tape, h.output, h.size, fun k hk _ => h.block k hk⟩
theorem Wx.refl (X : Nat → Prop) (w : World) : Wx X w w := ⟨rfl, rfl, rfl, Nat.le_refl _, fun _ _ _ => rfl⟩
theorem Wx.set {X : Nat → Prop} (w : World) {k : Nat} (o : Nat) (v : Value) (h : X k) : Wx X w (w.setCell ⟨k, o, none⟩ v) := by
  have hb : Below k w (w.setCell ⟨k, o, none⟩ v) := (Below.refl _ _).setCell (p := ⟨k, o, none⟩) (Nat.le_refl _) v
  exact ⟨hb.os, hb.tape, hb.output, hb.size, fun j _ hx => heap_setCell_other _ _ _ _ (fun e => hx (by simp only at e; rw [e]; exact h))⟩
theorem Wx.cell {X : Nat → Prop} {w w' : World} (h : Wx X w w') {k o : Nat} {v : Value} (hX : ¬ X k) (hc : w.cell? ⟨k, o, none⟩ = some v) : w'.cell? ⟨k, o, none⟩ = some v :=
  (World.cell?_of_block (w := w) (a := ⟨k, o, none⟩) (h.block k (World.block_lt_of_cell? w _ hc) hX)).trans hc
theorem Wx.frozen {X : Nat → Prop} {w w' : World} (h : Wx X w w') {k o : Nat} (hk : k < w.heap.size) (hX : ¬ X k) : w'.frozen? ⟨k, o, none⟩ = w.frozen? ⟨k, o, none⟩ :=
  World.frozen?_of_block (w := w) (a := ⟨k, o, none⟩) (h.block k hk hX)
theorem Wx.below {X : Nat → Prop} {w w' : World} (h : Wx X w w') {B : Nat} (hB : ∀ k, X k → B ≤ k) (hs : B ≤ w.heap.size) : Below B w w' :=
  ⟨h.os, h.tape, h.output, h.size, fun k hk => h.block k (by omega) (fun hx => by have := hB k hx; omega)⟩
theorem Wx.blk {X : Nat → Prop} {w w' : World} (h : Wx X w w') {k : Nat} (hX : ¬ X k) (hk : Blk w k) : Blk w' k := by
  have hl := hk.lt
  obtain ⟨cs, t, hk⟩ := hk
  exact ⟨cs, t, (h.block k hl hX).trans hk⟩
theorem Lk.wx {X : Nat → Prop} {w w' : World} {o : Nat} (h : Wx X w w') : ∀ {l : List En}, Lk w o l → (∀ e ∈ l, ¬ X e.b) → Lk w' o l
  | [], _, _ => trivial
  | e :: _, k, hX => ⟨h.cell (hX e List.mem_cons_self) k.1, Lk.wx h k.2 fun x hx => hX x (List.mem_cons_of_mem _ hx)⟩
theorem EnC.wx {X : Nat → Prop} {w w' : World} {e : En} (h : EnC w e) (k : Wx X w w') (hX : ¬ X e.b) : EnC w' e := by
  obtain ⟨h0, h1, h2, h3, h4, h5, h6, h7, h8⟩ := h
  exact ⟨k.cell hX h0, k.cell hX h1, k.cell hX h2, k.cell hX h3, k.cell hX h4, k.cell hX h5, k.cell hX h6, k.cell hX h7, k.cell hX h8⟩
theorem Or.wx {X : Nat → Prop} {w w' : World} {tb : Nat} {es : List En} (h : Or w tb es) (k : Wx X w w') (ht : ¬ X tb) (he : ∀ e ∈ es, ¬ X e.b) : Or w' tb es :=
  ⟨k.cell ht h.keys, k.cell ht h.first, k.cell ht h.last, h.behind.wx k he, h.ahead.wx k (fun e hm => he e (List.mem_reverse.1 hm)), h.once, h.apart⟩
theorem Bk.wx {X : Nat → Prop} {w w' : World} {g n : Nat} {cs : Nat → List En} {es : List En} (h : Bk w g n cs es) (k : Wx X w w') (hg : ¬ X g) (he : ∀ e ∈ es, ¬ X e.b) : Bk w' g n cs es :=
  ⟨h.pos, h.few, Nat.lt_of_lt_of_le h.lt k.size, fun j hj => k.cell hg (h.head j hj), fun j hj => (h.chain j hj).wx k fun e hm => he e ((h.mem j hj e).1 hm).1, h.mem,
   fun e hm => ⟨(h.lies e hm).1.wx k (he e hm), Nat.lt_of_lt_of_le (h.lies e hm).2 k.size⟩, h.hash, h.own, h.once, h.block, h.apart⟩
theorem Ct.wx {X : Nat → Prop} {w w' : World} {tb c m s : Nat} {W : Nat → Nat} (h : Ct w tb c m W s) (k : Wx X w w') (ht : ¬ X tb) (hc : ¬ X c) : Ct w' tb c m W s :=
  ⟨Nat.lt_of_lt_of_le h.tlt k.size, Nat.lt_of_lt_of_le h.clt k.size, h.ne, h.one, h.few, k.cell ht h.row, k.cell ht h.size, h.fit, fun j hj => ⟨(h.words j hj).1, k.cell hc (h.words j hj).2⟩, fun i => (k.frozen h.clt hc).trans (h.wfree i), (k.frozen h.tlt ht).trans h.sfree⟩

/-- A value's parts. -/
structure V4 where
  K : Int
  N : Int
  S : ByteArray
  O : Int
def V4.val (v : V4) : Value := vl4 v.K v.N v.S v.O
/-- A value in four cells of a block. -/
structure At4 (w : World) (b o : Nat) (v : V4) : Prop where
  c0 : w.cell? ⟨b, o, none⟩ = some (.int .i64 v.K)
  c1 : w.cell? ⟨b, o + 1, none⟩ = some (.int .u64 v.N)
  c2 : w.cell? ⟨b, o + 2, none⟩ = some (.string v.S)
  c3 : w.cell? ⟨b, o + 3, none⟩ = some (.int .i64 v.O)
theorem At4.wr {A : List (Nat × Nat)} {w w' : World} {b o : Nat} {v : V4} (h : At4 w b o v) (k : Wr A w w') (hA : ∀ i, i < 4 → (b, o + i) ∉ A) : At4 w' b o v :=
  ⟨k.cell (hA 0 (by omega)) h.c0, k.cell (hA 1 (by omega)) h.c1, k.cell (hA 2 (by omega)) h.c2, k.cell (hA 3 (by omega)) h.c3⟩
theorem At4.wx {X : Nat → Prop} {w w' : World} {b o : Nat} {v : V4} (h : At4 w b o v) (k : Wx X w w') (hX : ¬ X b) : At4 w' b o v :=
  ⟨k.cell hX h.c0, k.cell hX h.c1, k.cell hX h.c2, k.cell hX h.c3⟩

/-- The body of a table that has buckets. -/
structure Tb (w : World) (tb : Nat) (X : Nat → Prop) (es : List En) (g n c m : Nat) (cs : Nat → List En) (W : Nat → Nat) (s : Nat) : Prop where
  kb : Bk w g n cs es
  kc : Ct w tb c m W s
  sz : Sz m W s (hasP m es)
  row : Rw w tb g n
  full : es.length ≤ n
  words : n ≤ m * 64
  n4 : ∃ k, n = 4 * 2 ^ k
  nfew : n ≤ 4194304
  xg : X g
  xc : X c
  gt : g ≠ tb
  gc : g ≠ c
  ec : ∀ f ∈ es, f.b ≠ c

/-- The table in the block tb, which owns the blocks X, has the entries es, and M stands in for it. -/
structure Tv (w : World) (tb : Nat) (X : Nat → Prop) (es : List En) (M : V4) : Prop where
  own : X tb
  lt : ∀ k, X k → k < w.heap.size
  no1 : ¬ X 1
  free : ∀ k o, X k → w.frozen? ⟨k, o, none⟩ = false
  db : Db w
  mt : At4 w tb 0 M
  ord : Or w tb es
  few : es.length ≤ 1048576
  u64 : ∀ e ∈ es, Flo.U64 e.N
  ent : ∀ e ∈ es, X e.b ∧ Blk w e.b
  bod : (es = [] ∧ w.cell? ⟨tb, 7, none⟩ = some (.slice none 0 0) ∧ w.cell? ⟨tb, 8, none⟩ = some (.slice none 0 0) ∧ w.cell? ⟨tb, 9, none⟩ = some (.int .i64 0)) ∨
    ∃ g n c m cs W s, Tb w tb X es g n c m cs W s

theorem Db.wx {X : Nat → Prop} {w w' : World} (h : Db w) (k : Wx X w w') (hX : ¬ X 1) : Db w' := fun j hj => k.cell hX (h j hj)
/-- What is written elsewhere leaves a table as it is. -/
theorem Tv.wx {w w' : World} {tb : Nat} {X Y : Nat → Prop} {es : List En} {M : V4} (h : Tv w tb X es M) (k : Wx Y w w') (hY : ∀ i, X i → ¬ Y i) (h1 : ¬ Y 1) : Tv w' tb X es M := by
  have hfr : ∀ i o, X i → w'.frozen? ⟨i, o, none⟩ = false := fun i o hi => (k.frozen (h.lt i hi) (hY i hi)).trans (h.free i o hi)
  have ht := hY _ h.own
  have he : ∀ e ∈ es, ¬ Y e.b := fun e hm => hY _ (h.ent e hm).1
  refine ⟨h.own, fun i hi => Nat.lt_of_lt_of_le (h.lt i hi) k.size, h.no1, hfr, h.db.wx k h1, h.mt.wx k ht, h.ord.wx k ht he, h.few, h.u64, fun e hm => ⟨(h.ent e hm).1, k.blk (he e hm) (h.ent e hm).2⟩, ?_⟩
  rcases h.bod with ⟨e0, c7, c8, c9⟩ | ⟨g, n, c, m, cs, W, s, t⟩
  · exact Or.inl ⟨e0, k.cell ht c7, k.cell ht c8, k.cell ht c9⟩
  · exact Or.inr ⟨g, n, c, m, cs, W, s, t.kb.wx k (hY _ t.xg) he, t.kc.wx k ht (hY _ t.xc), t.sz, ⟨k.cell ht t.row.1, fun j => hfr g j t.xg⟩, t.full, t.words, t.n4, t.nfew, t.xg, t.xc, t.gt, t.gc, t.ec⟩

theorem Tv.se {w : World} {tb : Nat} {X : Nat → Prop} {es : List En} {M : V4} (h : Tv w tb X es M) : Se w tb es := by
  have hnd : es.Nodup := List.Pairwise.of_map En.b (fun a b q k => q (by rw [k])) h.ord.once
  have ht1 : tb ≠ 1 := fun k => h.no1 (k ▸ h.own)
  have hn1 : ∀ e ∈ es, e.b ≠ 1 := fun e he k => h.no1 (k ▸ (h.ent e he).1)
  rcases h.bod with ⟨e0, c7, c8, c9⟩ | ⟨g, n, c, m, cs, W, s, t⟩
  · subst e0
    exact ⟨by simp, by simp, by simp, by simp, by simp, by simp, by simp, List.Pairwise.nil, h.ord.once, h.ord.behind, h.ord.first, ht1, h.db, h.lt _ h.own, ⟨_, c7⟩, ⟨_, c8⟩, ⟨_, c9⟩, fun o => h.free tb o h.own⟩
  · refine ⟨t.kb.lies, t.kb.hash, h.u64, fun f hf => ?_, fun f hf => h.free f.b 9 (h.ent f hf).1, h.ord.apart, hn1, ?_, h.ord.once, h.ord.behind, h.ord.first, ht1, h.db, h.lt _ h.own, ⟨_, t.row.1⟩, ⟨_, t.kc.row⟩, ⟨_, t.kc.size⟩, fun o => h.free tb o h.own⟩
    · have hjf := bk_lt f.H t.kb.pos
      exact lkSome (t.kb.chain _ hjf) f ((t.kb.mem _ hjf f).2 ⟨hf, rfl⟩)
    · exact List.Pairwise.imp_of_mem (fun {a b} ha hb q k => q (t.kb.own a ha b hb k.1 k.2.1 k.2.2.1 k.2.2.2)) hnd

/-- A table is one again behind what was written within Y and in memory of its own. -/
theorem Tv.mk' {w w' : World} {tb : Nat} {Y : Nat → Prop} {es : List En} {M : V4} {A : List (Nat × Nat)} {g n c m : Nat} {cs : Nat → List En} {W : Nat → Nat} {s : Nat}
    (hY : Y tb) (hlt : ∀ k, Y k → k < w.heap.size) (h1 : ¬ Y 1) (hf : ∀ k o, Y k → w.frozen? ⟨k, o, none⟩ = false) (db : Db w) (mt : At4 w tb 0 M) (hw : Wr A w w')
    (hA : ∀ k o, (k, o) ∈ A → (Y k ∧ (k = tb → 4 ≤ o)) ∨ w.heap.size ≤ k) (ord : Or w' tb es) (few : es.length ≤ 1048576) (u64 : ∀ e ∈ es, Flo.U64 e.N) (ent : ∀ e ∈ es, Y e.b ∧ Blk w e.b)
    (t : Tb w' tb (fun _ => True) es g n c m cs W s) (hg : Y g ∨ w.heap.size ≤ g) (hc : Y c ∨ w.heap.size ≤ c) :
    ∃ X', Tv w' tb X' es M ∧ Wx Y w w' ∧ ∀ k, X' k → Y k ∨ w.heap.size ≤ k := by
  have hwx : Wx Y w w' := Wx.of hw (fun k o hm => (hA k o hm).imp (fun h => h.1) id)
  have two : 1 < w.heap.size := World.block_lt_of_cell? w ⟨1, 0, none⟩ (db 0 (by decide))
  refine ⟨fun k => Y k ∨ k = g ∨ k = c, ⟨Or.inl hY, fun k hk => ?_, ?_, fun k o hk => ?_, db.wx hwx h1, ?_, ord, few, u64, fun e he => ⟨Or.inl (ent e he).1, hw.blk (ent e he).2⟩, Or.inr ⟨g, n, c, m, cs, W, s, ?_⟩⟩, hwx, fun k hk => ?_⟩
  · rcases hk with k1 | k1 | k1
    · exact Nat.lt_of_lt_of_le (hlt k k1) hw.size
    · rw [k1]; exact t.kb.lt
    · rw [k1]; exact t.kc.clt
  · rintro (k1 | k1 | k1)
    · exact h1 k1
    · rcases hg with q | q
      · exact h1 (k1 ▸ q)
      · omega
    · rcases hc with q | q
      · exact h1 (k1 ▸ q)
      · omega
  · rcases hk with k1 | k1 | k1
    · exact (hw.2.1 k o (hlt k k1)).trans (hf k o k1)
    · rw [k1]; exact t.row.2 o
    · rw [k1]; exact t.kc.wfree o
  · refine mt.wr hw (fun i hi hm => ?_)
    rcases hA _ _ hm with ⟨_, q⟩ | q
    · have := q rfl; omega
    · have := hlt _ hY; omega
  · exact ⟨t.kb, t.kc, t.sz, t.row, t.full, t.words, t.n4, t.nfew, Or.inr (Or.inl rfl), Or.inr (Or.inr rfl), t.gt, t.gc, t.ec⟩
  · rcases hk with k1 | k1 | k1
    · exact Or.inl k1
    · rw [k1]; exact hg
    · rw [k1]; exact hc

/-- An entry that is to come. -/
structure Nw (w : World) (X : Nat → Prop) (es : List En) (e : En) : Prop where
  lies : EnC w e ∧ e.b < w.heap.size
  hash : e.H = hN e.K e.N e.S e.O
  u64 : Flo.U64 e.N
  c9 : w.cell? ⟨e.b, 9, none⟩ = some (.pointer none)
  c10 : w.cell? ⟨e.b, 10, none⟩ = some (.pointer none)
  c11 : w.cell? ⟨e.b, 11, none⟩ = some (.pointer none)
  free : ∀ o, w.frozen? ⟨e.b, o, none⟩ = false
  blk : Blk w e.b
  nx : ¬ X e.b
  n1 : e.b ≠ 1
  new : ∀ f ∈ es, ¬ (e.K = f.K ∧ e.N = f.N ∧ e.S = f.S ∧ e.O = f.O)

theorem addA_cases {tb : Nat} {es : List En} {e : En} {k o : Nat} (hm : (k, o) ∈ addA tb es e) : (k = tb ∧ (o = 4 ∨ o = 5 ∨ o = 6)) ∨ (k = e.b ∧ o = 10) ∨ (o = 11 ∧ ∃ z ∈ es, k = z.b) := by
  unfold addA at hm
  rcases List.mem_cons.1 hm with c | c
  · cases hz : es.getLast? with
    | none => rw [hz] at c; injection c with c1 c2; exact Or.inl ⟨c1, by omega⟩
    | some z => rw [hz] at c; injection c with c1 c2; exact Or.inr (Or.inr ⟨c2, z, List.mem_of_getLast? hz, c1⟩)
  · simp only [List.mem_cons, Prod.mk.injEq, List.not_mem_nil, or_false] at c
    rcases c with ⟨c1, c2⟩ | ⟨c1, c2⟩ | ⟨c1, c2⟩
    · exact Or.inr (Or.inl ⟨c1, c2⟩)
    · exact Or.inl ⟨c1, by omega⟩
    · exact Or.inl ⟨c1, by omega⟩

theorem sz_snoc {m s : Nat} {W : Nat → Nat} {es : List En} (h : Sz m W s (hasP m es)) (e : En) : Sz m (cntW m W e.K e.N) (cntS m W s e.K e.N) (hasP m (es ++ [e])) := by
  refine (h.count e.K e.N).same fun p _ => ?_
  unfold hasP
  simp only [List.mem_append, List.mem_singleton]
  constructor
  · rintro (⟨f, h1, h2⟩ | h)
    · exact ⟨f, Or.inl h1, h2⟩
    · exact ⟨e, Or.inr rfl, h⟩
  · rintro ⟨f, h1 | h1, h2⟩
    · exact Or.inl ⟨f, h1, h2⟩
    · subst h1; exact Or.inr h2

/-- A key that is not there comes. -/
theorem tab_add {w : World} {tb : Nat} {X : Nat → Prop} {es : List En} {M : V4} {e : En} (h : Tv w tb X es M) (q : Nw w X es e) (hfew : es.length < 1048576) :
    Calls Tryz.prog 68 #[.pointer (some ⟨tb, 0, none⟩), .pointer (some ⟨e.b, 0, none⟩)] w fun x w' => x = .returned (.tuple #[]) ∧
      ∃ X', Tv w' tb X' (es ++ [e]) M ∧ Wx (fun k => X k ∨ k = e.b) w w' ∧ ∀ k, X' k → (X k ∨ k = e.b) ∨ w.heap.size ≤ k := by
  have hse := h.se
  have two : 1 < w.heap.size := World.block_lt_of_cell? w ⟨1, 0, none⟩ (h.db 0 (by decide))
  have hntb : e.b ≠ tb := fun k => q.nx (k ▸ h.own)
  have hblk : ∀ f ∈ es, f.b ≠ e.b := fun f hf k => q.nx (k ▸ (h.ent f hf).1)
  have hY : (fun k => X k ∨ k = e.b) tb := Or.inl h.own
  have hlt : ∀ k, (X k ∨ k = e.b) → k < w.heap.size := fun k hk => by
    rcases hk with c | c
    · exact h.lt k c
    · rw [c]; exact q.lies.2
  have hn1 : ¬ (X 1 ∨ 1 = e.b) := by
    rintro (c | c)
    · exact h.no1 c
    · exact q.n1 c.symm
  have hfr : ∀ k o, (X k ∨ k = e.b) → w.frozen? ⟨k, o, none⟩ = false := fun k o hk => by
    rcases hk with c | c
    · exact h.free k o c
    · rw [c]; exact q.free o
  have hu : ∀ f ∈ es ++ [e], Flo.U64 f.N := fun f hf => by
    rcases List.mem_append.1 hf with c | c
    · exact h.u64 f c
    · rw [List.mem_singleton.1 c]; exact q.u64
  have hent : ∀ f ∈ es ++ [e], (X f.b ∨ f.b = e.b) ∧ Blk w f.b := fun f hf => by
    rcases List.mem_append.1 hf with c | c
    · exact ⟨Or.inl (h.ent f c).1, (h.ent f c).2⟩
    · rw [List.mem_singleton.1 c]; exact ⟨Or.inr rfl, q.blk⟩
  have hlen : (es ++ [e]).length = es.length + 1 := by simp
  have hful : (∃ a, w.cell? ⟨tb, 7, none⟩ = some (.slice a es.length es.length)) → Ful w tb es e := fun hr =>
    ⟨hse, h.ord, by have := h.few; omega, hr, two, fun f hf => h.free f.b 11 (h.ent f hf).1, q.lies, q.hash, q.u64, q.c9, q.c10, q.c11, q.free, hntb, q.n1, q.new, hblk⟩
  have hfull : (∃ a, w.cell? ⟨tb, 7, none⟩ = some (.slice a es.length es.length)) → (es.length = 0 ∨ ∃ k, es.length = 4 * 2 ^ k) → Calls Tryz.prog 68 #[.pointer (some ⟨tb, 0, none⟩), .pointer (some ⟨e.b, 0, none⟩)] w fun x w' => x = .returned (.tuple #[]) ∧
      ∃ X', Tv w' tb X' (es ++ [e]) M ∧ Wx (fun k => X k ∨ k = e.b) w w' ∧ ∀ k, X' k → (X k ∨ k = e.b) ∨ w.heap.size ≤ k := fun hr hp => by
    have hn4 : ∃ k, max 4 (2 * es.length) = 4 * 2 ^ k := by
      rcases hp with c | ⟨k, c⟩
      · exact ⟨0, by rw [c]; rfl⟩
      · refine ⟨k + 1, ?_⟩
        have hpos : 1 ≤ 2 ^ k := Nat.one_le_two_pow
        rw [Nat.pow_succ, c]; omega
    refine (add_full tb es e _ _ w (hful hr) rfl rfl).mono ?_
    rintro x w' ⟨rfl, g, c, cs, w1, w2, rfl, rfl, a1, a2, a3, b1, b2, b3, b4⟩
    refine ⟨rfl, Tv.mk' (Y := fun k => X k ∨ k = e.b) hY hlt hn1 hfr h.db h.mt ((a1.trans a2).trans a3) (fun k o hm => ?_) b1 (by omega) hu hent ⟨b2, b3, sz_snoc (cntF_sz _ _) e, b4, by omega, by omega, hn4, by omega, trivial, trivial, ?_, by omega, fun f hf => ?_⟩ (Or.inr (Nat.le_refl _)) (Or.inr (by omega))⟩
    · rcases List.mem_append.1 hm with hm | hm
      · rcases List.mem_append.1 hm with hm | hm
        · unfold fulA at hm
          rcases List.mem_append.1 hm with hm | hm
          · simp only [List.mem_cons, Prod.mk.injEq, List.not_mem_nil, or_false] at hm
            have hk : k = tb := by omega
            exact Or.inl ⟨Or.inl (hk ▸ h.own), fun _ => by omega⟩
          · obtain ⟨f, hf, he⟩ := List.mem_map.1 hm
            injection he with e1 e2
            exact Or.inl ⟨Or.inl (e1 ▸ (h.ent f hf).1), fun _ => by omega⟩
        · rcases addA_cases hm with ⟨c1, c2⟩ | ⟨c1, c2⟩ | ⟨c1, z, hz, c2⟩
          · exact Or.inl ⟨Or.inl (c1 ▸ h.own), fun _ => by omega⟩
          · exact Or.inl ⟨Or.inr c1, fun _ => by omega⟩
          · exact Or.inl ⟨Or.inl (c2 ▸ (h.ent z hz).1), fun _ => by omega⟩
      · simp only [List.mem_cons, Prod.mk.injEq, List.not_mem_nil, or_false] at hm
        rcases hm with ⟨c1, c2⟩ | ⟨c1, _⟩ | ⟨c1, _⟩ | ⟨c1, c2⟩
        · exact Or.inl ⟨Or.inr c1, fun _ => by omega⟩
        · exact Or.inr (by omega)
        · exact Or.inr (by omega)
        · exact Or.inl ⟨Or.inl (c1 ▸ h.own), fun _ => by omega⟩
    · have := h.lt tb h.own; omega
    · have := hlt f.b (hent f hf).1; omega
  rcases h.bod with ⟨e0, c7, c8, c9⟩ | ⟨g, n, c, m, cs, W, s, t⟩
  · exact hfull ⟨none, by rw [c7, e0]; rfl⟩ (Or.inl (by rw [e0]; rfl))
  · by_cases hne : es.length = n
    · exact hfull ⟨_, by rw [t.row.1, hne]⟩ (Or.inr (by rw [hne]; exact t.n4))
    · have hg1 : g ≠ 1 := fun k => h.no1 (k ▸ t.xg)
      have hrdy : Rdy w tb g n c m cs W s es e :=
        ⟨h.ord, t.kb, t.kc, t.row.1, by omega, fun o => h.free tb o h.own, fun f hf => h.free f.b 11 (h.ent f hf).1, q.lies, q.hash, q.u64, q.c9, q.c10, q.c11, q.free, t.row.2, h.db, hntb, fun k => q.nx (k ▸ t.xg), fun k => q.nx (k ▸ t.xc), q.n1, t.gt, t.gc, hg1,
          fun k => h.no1 (k ▸ h.own), q.new, hblk, t.ec, fun f hf k => h.no1 (k ▸ (h.ent f hf).1)⟩
      refine (add_room tb g n c m cs W s es e w hrdy hne).mono ?_
      rintro x w' ⟨rfl, w2, a2, a3, b1, b2, b3, b4⟩
      have hfl := t.full
      refine ⟨rfl, Tv.mk' (Y := fun k => X k ∨ k = e.b) hY hlt hn1 hfr h.db h.mt (a2.trans a3) (fun k o hm => ?_) b1 (by omega) hu hent ⟨b2, b3, sz_snoc t.sz e, b4, by omega, t.words, t.n4, t.nfew, trivial, trivial, t.gt, t.gc, fun f hf => ?_⟩ (Or.inl (Or.inl t.xg)) (Or.inl (Or.inl t.xc))⟩
      · rcases List.mem_append.1 hm with hm | hm
        · rcases addA_cases hm with ⟨c1, c2⟩ | ⟨c1, c2⟩ | ⟨c1, z, hz, c2⟩
          · exact Or.inl ⟨Or.inl (c1 ▸ h.own), fun _ => by omega⟩
          · exact Or.inl ⟨Or.inr c1, fun _ => by omega⟩
          · exact Or.inl ⟨Or.inl (c2 ▸ (h.ent z hz).1), fun _ => by omega⟩
        · simp only [List.mem_cons, Prod.mk.injEq, List.not_mem_nil, or_false] at hm
          rcases hm with ⟨c1, c2⟩ | ⟨c1, _⟩ | ⟨c1, _⟩ | ⟨c1, c2⟩
          · exact Or.inl ⟨Or.inr c1, fun _ => by omega⟩
          · exact Or.inl ⟨Or.inl (c1 ▸ t.xg), fun k1 => absurd (c1.symm.trans k1) t.gt⟩
          · exact Or.inl ⟨Or.inl (c1 ▸ t.xc), fun k1 => absurd (k1.symm.trans c1) t.kc.ne⟩
          · exact Or.inl ⟨Or.inl (c1 ▸ h.own), fun _ => by omega⟩
      · rcases List.mem_append.1 hf with k1 | k1
        · exact t.ec f k1
        · rw [List.mem_singleton.1 k1]; exact fun k2 => q.nx (k2 ▸ t.xc)

end Go.Proofs.YthmocdabakkfhaaGreatDoor

/-
  Layer 9: the objects of a heap: left, find, tableOf.
-/
namespace Go.Proofs.YthmocdabakkfhaaGreatDoor
set_option maxRecDepth 100000
open Go.RowKit

theorem left_any (hb : Nat) (l u : Int) (w : World) (h0 : w.cell? ⟨hb, 0, none⟩ = some (.int .i64 l)) (h1 : w.cell? ⟨hb, 1, none⟩ = some (.int .i64 u)) (hl : 0 ≤ l ∧ l ≤ 1099511627776) (hu : 0 ≤ u ∧ u ≤ 1099511627776) :
    Calls Tryz.prog 49 #[.pointer (some ⟨hb, 0, none⟩)] w fun e w' => e = .returned (.int .i64 (l - u)) ∧ ∃ q, w' = w.drewN q := by
  go_enter Tryz.func49, Tryz.ntmps49
  go_wp2_with fail
  go_quiet (fail)
  go_wp2
  go_ret
  exact ⟨rfl, nq, rfl⟩

/-- The place of the object o among n in the block ob, nil of none. -/
def objAt (ob n : Nat) (o : Int) : Option Addr := if 1 ≤ o ∧ o ≤ n then some ⟨ob, 5 * (o - 1).toNat, none⟩ else none

set_option maxHeartbeats 1000000 in
theorem hfind_any (hb ob n cap : Nat) (a : Option Addr) (o : Int) (w : World) (h2 : w.cell? ⟨hb, 2, none⟩ = some (.slice a n cap)) (ha : 0 < n → a = some ⟨ob, 0, none⟩) (hn : n ≤ 1099511627776) :
    Calls Tryz.prog 46 #[.pointer (some ⟨hb, 0, none⟩), .int .i64 o] w fun e w' => e = .returned (.pointer (objAt ob n o)) ∧ w' = w := by
  by_cases c : o < 1
  · rw [show objAt ob n o = none from by unfold objAt; rw [if_neg (by omega)]]
    clear ha
    go_enter Tryz.func46, Tryz.ntmps46
    go_wp2
    go_ret
    exact ⟨rfl, rfl⟩
  · by_cases d : o > (n : Int)
    · rw [show objAt ob n o = none from by unfold objAt; rw [if_neg (by omega)]]
      clear ha
      go_enter Tryz.func46, Tryz.ntmps46
      go_wp2
      go_ret
      exact ⟨rfl, rfl⟩
    · obtain ⟨k, rfl⟩ : ∃ k : Nat, o = (k : Int) + 1 := ⟨(o - 1).toNat, by omega⟩
      rw [show objAt ob n ((k : Int) + 1) = some ⟨ob, 5 * k, none⟩ from by unfold objAt; rw [if_pos (by omega)]; congr 2; omega]
      have := ha (by omega)
      subst this
      have hk : k < n := by omega
      clear ha c d
      have c : ¬ ((k : Int) + 1 < 1) := by omega
      have d : ¬ ((k : Int) + 1 > (n : Int)) := by omega
      go_enter Tryz.func46, Tryz.ntmps46
      go_wp2
      go_ret
      exact ⟨by simp <;> omega, rfl⟩

set_option maxHeartbeats 1000000 in
theorem tableOf_any (hb ob n cap : Nat) (a : Option Addr) (o : Int) (T : Nat → Option Addr) (w : World) (h2 : w.cell? ⟨hb, 2, none⟩ = some (.slice a n cap)) (ha : 0 < n → a = some ⟨ob, 0, none⟩) (hn : n ≤ 1099511627776)
    (hT : ∀ k, k < n → w.cell? ⟨ob, 5 * k + 4, none⟩ = some (.pointer (T k))) :
    Calls Tryz.prog 21 #[.pointer (some ⟨hb, 0, none⟩), .int .i64 o] w fun e w' => e = .returned (.pointer (if 1 ≤ o ∧ o ≤ n then T (o - 1).toNat else none)) ∧ w' = w := by
  have HF := hfind_any hb ob n cap a o w h2 ha hn
  unfold objAt at HF
  by_cases c : 1 ≤ o ∧ o ≤ n
  · rw [if_pos c] at HF ⊢
    have ht := hT (o - 1).toNat (by omega)
    generalize (o - 1).toNat = k at *
    clear hT ha
    go_enter Tryz.func21, Tryz.ntmps21
    go_wp2_with fail
    refine HF.mono ?_
    rintro e w' ⟨rfl, rfl⟩
    clear HF
    go_wp2
    go_ret
    exact ⟨rfl, rfl⟩
  · rw [if_neg c] at HF ⊢
    clear hT ha c
    go_enter Tryz.func21, Tryz.ntmps21
    go_wp2_with fail
    refine HF.mono ?_
    rintro e w' ⟨rfl, rfl⟩
    clear HF
    go_wp2
    go_ret
    exact ⟨rfl, rfl⟩
end Go.Proofs.YthmocdabakkfhaaGreatDoor

/-
  Layer 9: a heap as a whole: its objects, and the blocks that they own.
-/
namespace Go.Proofs.YthmocdabakkfhaaGreatDoor
set_option maxRecDepth 100000
open Go.RowKit Flo

/-- An object: its numbers; its slots, in the block sb; or its table; the blocks that it owns. -/
structure Ob where
  k : Int
  a : Int
  b : Int
  sb : Nat
  sl : List V4
  tb : Option Nat
  es : List En
  M : V4
  X : Nat → Prop
def Ob.slV (o : Ob) : Value := match o.tb with
  | some _ => .slice none 0 0
  | none => .slice (some ⟨o.sb, 0, none⟩) o.sl.length o.sl.length
def Ob.ptr (o : Ob) : Option Addr := o.tb.map fun b => ⟨b, 0, none⟩
def Ob.cells (o : Ob) : List Value := [.int .i64 o.k, .int .i64 o.a, .int .i64 o.b, o.slV, .pointer o.ptr]
/-- How many cells of the heap it takes. -/
def Ob.wt (o : Ob) : Nat := 1 + o.es.length + o.sl.length
def obC (os : List Ob) : List Value := os.flatMap Ob.cells
theorem obC_length : ∀ os : List Ob, (obC os).length = os.length * 5
  | [] => rfl
  | o :: l => by
    have := obC_length l
    unfold obC at *
    rw [List.flatMap_cons, List.length_append, this]
    simp [Ob.cells]; omega
theorem obC_snoc (os : List Ob) (o : Ob) : obC (os ++ [o]) = obC os ++ o.cells := by unfold obC; simp
theorem obC_at : ∀ (os : List Ob) (i : Nat) (o : Ob), os[i]? = some o → ∀ j, j < 5 → (obC os)[i * 5 + j]? = o.cells[j]?
  | [], i, o, h, j, _ => by simp at h
  | p :: l, 0, o, h, j, hj => by
    simp only [List.getElem?_cons_zero, Option.some.injEq] at h
    subst h
    unfold obC
    rw [List.flatMap_cons, List.getElem?_append_left (by simp [Ob.cells]; omega)]
    simp
  | p :: l, i + 1, o, h, j, hj => by
    rw [List.getElem?_cons_succ] at h
    have := obC_at l i o h j hj
    unfold obC at *
    have hl : p.cells.length = 5 := rfl
    rw [List.flatMap_cons, List.getElem?_append_right (by rw [hl]; omega), hl, show (i + 1) * 5 + j - 5 = i * 5 + j by omega]
    exact this
theorem obC_set : ∀ (os : List Ob) (i : Nat) (o o' : Ob), os[i]? = some o → o'.cells = o.cells → obC (os.set i o') = obC os
  | [], i, o, o', h, _ => by simp at h
  | p :: l, 0, o, o', h, e => by
    simp only [List.getElem?_cons_zero, Option.some.injEq] at h
    subst h
    unfold obC
    rw [List.set_cons_zero, List.flatMap_cons, List.flatMap_cons, e]
  | p :: l, i + 1, o, o', h, e => by
    rw [List.getElem?_cons_succ] at h
    have := obC_set l i o o' h e
    unfold obC at *
    rw [List.set_cons_succ, List.flatMap_cons, List.flatMap_cons, this]

/-- An entry's key is a key in its form. -/
def keyOk (e : En) : Prop := kok e.K e.N = true ∧ nK e.K = e.K ∧ kN e.K e.N = e.N ∧ nS e.K e.S = e.S ∧ nO e.K e.O = e.O
structure Obv (w : World) (o : Ob) : Prop where
  tab : ∀ tb, o.tb = some tb → (o.k = 5 ∧ o.a = 0 ∧ o.b = 0 ∧ o.sl = []) ∧ Tv w tb o.X o.es o.M ∧ ∀ e ∈ o.es, keyOk e
  oth : o.tb = none → (o.es = [] ∧ o.k ≠ 5) ∧ (∀ k, o.X k ↔ k = o.sb) ∧ o.sb < w.heap.size ∧ (∀ j, w.frozen? ⟨o.sb, j, none⟩ = false) ∧ ∀ i v, o.sl[i]? = some v → At4 w o.sb (4 * i) v
theorem Obv.wx {w w' : World} {o : Ob} {Y : Nat → Prop} (h : Obv w o) (k : Wx Y w w') (hY : ∀ i, o.X i → ¬ Y i) (h1 : ¬ Y 1) : Obv w' o := by
  refine ⟨fun tb e => ?_, fun e => ?_⟩
  · obtain ⟨a, b, c⟩ := h.tab tb e
    exact ⟨a, b.wx k hY h1, c⟩
  · obtain ⟨a, b, c, d, f⟩ := h.oth e
    exact ⟨a, b, Nat.lt_of_lt_of_le c k.size, fun j => (k.frozen c (hY _ ((b _).2 rfl))).trans (d j), fun i v hv => (f i v hv).wx k (hY _ ((b _).2 rfl))⟩

/-- The heap in the block hb: how many cells at most, how many are used, its row of objects; all that it owns lies in Z. -/
structure Hv (w : World) (hb lim used : Nat) (R : Value) (os : List Ob) (Z : Nat → Prop) : Prop where
  c0 : w.cell? ⟨hb, 0, none⟩ = some (.int .i64 lim)
  c1 : w.cell? ⟨hb, 1, none⟩ = some (.int .i64 used)
  c2 : w.cell? ⟨hb, 2, none⟩ = some R
  hfree : ∀ o, w.frozen? ⟨hb, o, none⟩ = false
  row : w.ownsRow 0 85 5 R os.length (obC os)
  hl : lim ≤ 1048576
  hu : used ≤ lim
  sum : used = (os.map Ob.wt).sum
  ob : ∀ (i : Nat) o, os[i]? = some o → Obv w o
  mt : ∀ (i : Nat) o, os[i]? = some o → o.M.K = 0 ∨ (o.M.K = 5 ∧ 1 ≤ o.M.O ∧ ∃ p, os[(o.M.O - 1).toNat]? = some p ∧ p.tb ≠ none)
  lt : ∀ k, Z k → k < w.heap.size
  no1 : ¬ Z 1
  zh : Z hb
  zr : ∀ g, R.ownBlock = some g → Z g ∧ g ≠ hb
  zx : ∀ (i : Nat) o, os[i]? = some o → ∀ k, o.X k → Z k ∧ k ≠ hb ∧ R.ownBlock ≠ some k
  xx : ∀ (i j : Nat) o p, os[i]? = some o → os[j]? = some p → i ≠ j → ∀ k, o.X k → ¬ p.X k
  db : Db w

theorem rowStay {w w' : World} {B e s n : Nat} {v : Value} {xs : List Value} (h : w.ownsRow B e s v n xs) (hk : ∀ g, v.ownBlock = some g → w'.heap[g]? = w.heap[g]?) : w'.ownsRow B e s v n xs := by
  refine ⟨h.1, ?_⟩
  rcases h.2 with k2 | ⟨g, cap, cur, e1, e2, e3, rest⟩
  · exact Or.inl k2
  · exact Or.inr ⟨g, cap, cur, e1, e2, (hk g (by rw [e1]; rfl)).trans e3, rest⟩
theorem rowForm {w : World} {B e s n : Nat} {v : Value} {xs : List Value} (h : w.ownsRow B e s v n xs) : (v = .slice none 0 0 ∧ n = 0) ∨ ∃ g cap, v = .slice (some ⟨g, 0, none⟩) n cap ∧ g < w.heap.size := by
  rcases h.2 with k2 | ⟨g, cap, cur, e1, e2, e3, rest⟩
  · exact Or.inl k2
  · refine Or.inr ⟨g, cap, e1, ?_⟩
    rcases Nat.lt_or_ge g w.heap.size with c | c
    · exact c
    · rw [Array.getElem?_eq_none c] at e3; cases e3

/-- What is written elsewhere leaves a heap as it is. -/
theorem Hv.wx {w w' : World} {hb lim used : Nat} {R : Value} {os : List Ob} {Z Y : Nat → Prop} (h : Hv w hb lim used R os Z) (k : Wx Y w w') (hY : ∀ i, Z i → ¬ Y i) (h1 : ¬ Y 1) : Hv w' hb lim used R os Z :=
  ⟨k.cell (hY _ h.zh) h.c0, k.cell (hY _ h.zh) h.c1, k.cell (hY _ h.zh) h.c2, fun o => (k.frozen (h.lt _ h.zh) (hY _ h.zh)).trans (h.hfree o), rowStay h.row (fun g hg => k.block g (h.lt g (h.zr g hg).1) (hY g (h.zr g hg).1)), h.hl, h.hu, h.sum,
    fun i o ho => (h.ob i o ho).wx k (fun j hj => hY j (h.zx i o ho j hj).1) h1, h.mt, fun i hi => Nat.lt_of_lt_of_le (h.lt i hi) k.size, h.no1, h.zh, h.zr, h.zx, h.xx, h.db.wx k h1⟩
theorem Hv.below {w w' : World} {hb lim used : Nat} {R : Value} {os : List Ob} {Z : Nat → Prop} (h : Hv w hb lim used R os Z) (k : Below w.heap.size w w') : Hv w' hb lim used R os Z :=
  h.wx (Wx.of_below (fun _ => False) k) (fun _ _ c => c) (fun c => c)
/-- Its blocks and those that are new. -/
def Zn (Z : Nat → Prop) (a b : Nat) : Nat → Prop := fun k => Z k ∨ (a ≤ k ∧ k < b)
theorem Hv.two {w : World} {hb lim used : Nat} {R : Value} {os : List Ob} {Z : Nat → Prop} (h : Hv w hb lim used R os Z) : 1 < w.heap.size := World.block_lt_of_cell? w ⟨1, 0, none⟩ (h.db 0 (by decide))

theorem sum_set : ∀ (os : List Ob) (i : Nat) (o o' : Ob), os[i]? = some o → ((os.set i o').map Ob.wt).sum + o.wt = (os.map Ob.wt).sum + o'.wt
  | [], i, o, o', h => by simp at h
  | p :: l, 0, o, o', h => by
    simp only [List.getElem?_cons_zero, Option.some.injEq] at h
    subst h
    simp only [List.set_cons_zero, List.map_cons, List.sum_cons]; omega
  | p :: l, i + 1, o, o', h => by
    rw [List.getElem?_cons_succ] at h
    have := sum_set l i o o' h
    simp only [List.set_cons_succ, List.map_cons, List.sum_cons]; omega
theorem sum_ge : ∀ (os : List Ob) (i : Nat) (o : Ob), os[i]? = some o → o.wt ≤ (os.map Ob.wt).sum
  | [], i, o, h => by simp at h
  | p :: l, 0, o, h => by
    simp only [List.getElem?_cons_zero, Option.some.injEq] at h
    subst h
    simp only [List.map_cons, List.sum_cons]; omega
  | p :: l, i + 1, o, h => by
    rw [List.getElem?_cons_succ] at h
    have := sum_ge l i o h
    simp only [List.map_cons, List.sum_cons]; omega
theorem sum_len : ∀ os : List Ob, os.length ≤ (os.map Ob.wt).sum
  | [] => Nat.le_refl _
  | o :: l => by
    have := sum_len l
    simp only [List.map_cons, List.sum_cons, List.length_cons]
    unfold Ob.wt at *; omega

/-- One object becomes another in the place of it, what is written lying within its blocks; then the number of cells is written. -/
theorem Hv.put' {w w' w2 : World} {hb lim used used' : Nat} {R : Value} {os : List Ob} {Z : Nat → Prop} {i : Nat} {o o' : Ob} (h : Hv w hb lim used R os Z) (ho : os[i]? = some o) {Y : Nat → Prop} (k : Wx Y w w') (hY : ∀ j, Y j → o.X j ∨ w.heap.size ≤ j)
    (hc : o'.cells = o.cells) (hv : Obv w' o') (hX : ∀ j, o'.X j → o.X j ∨ w.heap.size ≤ j) (hlt : ∀ j, o'.X j → j < w'.heap.size) (htb : o'.tb = o.tb)
    (hm : o'.M.K = 0 ∨ (o'.M.K = 5 ∧ 1 ≤ o'.M.O ∧ ∃ p, os[(o'.M.O - 1).toNat]? = some p ∧ p.tb ≠ none)) (hu : used' + o.wt = used + o'.wt) (hul : used' ≤ lim)
    (hset : Wx (fun j => j = hb) w' w2) (hs2 : w2.heap.size = w'.heap.size) (e0 : w2.cell? ⟨hb, 0, none⟩ = w'.cell? ⟨hb, 0, none⟩) (e1 : w2.cell? ⟨hb, 1, none⟩ = some (.int .i64 (used' : Int))) (e2 : w2.cell? ⟨hb, 2, none⟩ = w'.cell? ⟨hb, 2, none⟩) (ef : ∀ i, w2.frozen? ⟨hb, i, none⟩ = w'.frozen? ⟨hb, i, none⟩) :
    Hv w2 hb lim used' R (os.set i o') (Zn Z w.heap.size w2.heap.size) ∧ Wx Z w w2 := by
  rw [hs2]
  have hs := k.size
  have hnX : ∀ j, Z j → ¬ o.X j → ¬ Y j := fun j hj hx hy => by
    rcases hY j hy with c | c
    · exact hx c
    · have := h.lt j hj; omega
  have hhb : ¬ o.X hb := fun c => (h.zx i o ho hb c).2.1 rfl
  have hk2 : Wx Z w w' := k.more (fun j hj => by
    rcases hY j hj with c | c
    · exact Or.inl (h.zx i o ho j c).1
    · exact Or.inr c)
  have hall : Wx Z w w2 := hk2.trans hset (fun j hj => Or.inl (by rw [hj]; exact h.zh))
  have hin : ∀ j, j < os.length → ∃ p, os[j]? = some p := fun j hj => ⟨os[j], List.getElem?_eq_getElem hj⟩
  have hi : i < os.length := by
    rcases Nat.lt_or_ge i os.length with c | c
    · exact c
    · rw [List.getElem?_eq_none c] at ho; cases ho
  have hgs : ∀ (j : Nat) p, (os.set i o')[j]? = some p → (j = i ∧ p = o') ∨ (j ≠ i ∧ os[j]? = some p) := by
    intro j p hp
    rw [List.getElem?_set] at hp
    by_cases c : i = j
    · rw [if_pos c] at hp
      by_cases d : j < os.length
      · rw [if_pos (by omega)] at hp
        exact Or.inl ⟨c.symm, (Option.some.inj hp).symm⟩
      · rw [if_neg (by omega)] at hp; cases hp
    · rw [if_neg c] at hp
      exact Or.inr ⟨fun q => c q.symm, hp⟩
  have hob : ∀ (j : Nat) p, (os.set i o')[j]? = some p → Obv w2 p := by
    intro j p hp
    rcases hgs j p hp with ⟨_, rfl⟩ | ⟨hj, hp⟩
    · refine hv.wx hset (fun x hx c => ?_) (fun c => h.no1 (c ▸ h.zh))
      rw [c] at hx
      rcases hX hb hx with q | q
      · exact hhb q
      · have := h.lt hb h.zh; omega
    · have h1 : Obv w' p := (h.ob j p hp).wx k (fun x hx => hnX x (h.zx j p hp x hx).1 (fun q => h.xx j i p o hp ho hj x hx q)) (fun c => by
        rcases hY 1 c with q | q
        · exact h.no1 (h.zx i o ho 1 q).1
        · have := h.two; omega)
      exact h1.wx hset (fun x hx c => (h.zx j p hp x hx).2.1 c) (fun c => h.no1 (c ▸ h.zh))
  have hptb : ∀ (j : Nat) p, os[j]? = some p → p.tb ≠ none → ∃ q, (os.set i o')[j]? = some q ∧ q.tb ≠ none := by
    intro j p hp hne
    rw [List.getElem?_set]
    by_cases c : i = j
    · refine ⟨o', by rw [if_pos c, if_pos (by omega)], ?_⟩
      rw [htb]
      subst c
      rw [ho] at hp
      rw [Option.some.inj hp]; exact hne
    · exact ⟨p, by rw [if_neg c]; exact hp, hne⟩
  refine ⟨⟨?_, ?_, ?_, fun x => ?_, ?_, h.hl, hul, ?_, hob, ?_, ?_, ?_, Or.inl h.zh, ?_, ?_, ?_, ?_⟩, ?_⟩
  · rw [e0]
    exact k.cell (hnX hb h.zh hhb) h.c0
  · exact e1
  · rw [e2]
    exact k.cell (hnX hb h.zh hhb) h.c2
  · rw [ef]
    exact (k.frozen (h.lt hb h.zh) (hnX hb h.zh hhb)).trans (h.hfree x)
  · rw [List.length_set, obC_set os i o o' ho hc]
    refine rowStay h.row (fun g hg => ?_)
    have hg2 := h.zr g hg
    refine (hset.block g (Nat.lt_of_lt_of_le (h.lt g hg2.1) hs) hg2.2).trans ?_
    exact k.block g (h.lt g hg2.1) (hnX g hg2.1 (fun q => (h.zx i o ho g q).2.2 hg))
  · have := sum_set os i o o' ho
    have := h.sum
    omega
  · intro j p hp
    rcases hgs j p hp with ⟨_, rfl⟩ | ⟨_, hp⟩
    · rcases hm with c | ⟨c1, c2, q, c3, c4⟩
      · exact Or.inl c
      · exact Or.inr ⟨c1, c2, hptb _ q c3 c4⟩
    · rcases h.mt j p hp with c | ⟨c1, c2, q, c3, c4⟩
      · exact Or.inl c
      · exact Or.inr ⟨c1, c2, hptb _ q c3 c4⟩
  · intro j hj
    rw [hs2]
    rcases hj with c | c
    · exact Nat.lt_of_lt_of_le (h.lt j c) hs
    · exact c.2
  · rintro (c | c)
    · exact h.no1 c
    · have := h.two; omega
  · intro g hg
    exact ⟨Or.inl (h.zr g hg).1, (h.zr g hg).2⟩
  · intro j p hp x hx
    rcases hgs j p hp with ⟨_, rfl⟩ | ⟨_, hp⟩
    · rcases hX x hx with q | q
      · exact ⟨Or.inl (h.zx i o ho x q).1, (h.zx i o ho x q).2⟩
      · refine ⟨Or.inr ⟨q, hlt x hx⟩, ?_, fun c => ?_⟩
        · have := h.lt hb h.zh; omega
        · have := h.lt x (h.zr x c).1; omega
    · exact ⟨Or.inl (h.zx j p hp x hx).1, (h.zx j p hp x hx).2⟩
  · intro j l p q hp hq hjl x hx hx2
    rcases hgs j p hp with ⟨e1, f1⟩ | ⟨e1, hp1⟩
    · rw [f1] at hx
      rcases hgs l q hq with ⟨e2, _⟩ | ⟨e2, hq1⟩
      · omega
      · rcases hX x hx with c | c
        · exact h.xx i l o q ho hq1 (by omega) x c hx2
        · have := h.lt x (h.zx l q hq1 x hx2).1; omega
    · rcases hgs l q hq with ⟨e2, f2⟩ | ⟨e2, hq1⟩
      · rw [f2] at hx2
        rcases hX x hx2 with c | c
        · exact h.xx j i p o hp1 ho (by omega) x hx c
        · have := h.lt x (h.zx j p hp1 x hx).1; omega
      · exact h.xx j l p q hp1 hq1 hjl x hx hx2
  · exact h.db.wx hall h.no1
  · exact hall

theorem Hv.put {w w' : World} {hb lim used used' : Nat} {R : Value} {os : List Ob} {Z : Nat → Prop} {i : Nat} {o o' : Ob} (h : Hv w hb lim used R os Z) (ho : os[i]? = some o) {Y : Nat → Prop} (k : Wx Y w w') (hY : ∀ j, Y j → o.X j ∨ w.heap.size ≤ j)
    (hc : o'.cells = o.cells) (hv : Obv w' o') (hX : ∀ j, o'.X j → o.X j ∨ w.heap.size ≤ j) (hlt : ∀ j, o'.X j → j < w'.heap.size) (htb : o'.tb = o.tb)
    (hm : o'.M.K = 0 ∨ (o'.M.K = 5 ∧ 1 ≤ o'.M.O ∧ ∃ p, os[(o'.M.O - 1).toNat]? = some p ∧ p.tb ≠ none)) (hu : used' + o.wt = used + o'.wt) (hul : used' ≤ lim) :
    Hv (w'.setCell ⟨hb, 1, none⟩ (.int .i64 used')) hb lim used' R (os.set i o') (Zn Z w.heap.size (w'.setCell ⟨hb, 1, none⟩ (.int .i64 used')).heap.size) ∧ Wx Z w (w'.setCell ⟨hb, 1, none⟩ (.int .i64 used')) := by
  refine h.put' ho k hY hc hv hX hlt htb hm hu hul (Wx.set w' 1 _ rfl) (World.size_setCell _ _ _) (World.cell?_setCell_other _ _ _ _ (by simp)) ?_ (World.cell?_setCell_other _ _ _ _ (by simp)) (fun j => World.frozen?_setCell _ _ _ _)
  have hhb : ¬ Y hb := fun c => by
    rcases hY hb c with q | q
    · exact (h.zx i o ho hb q).2.1 rfl
    · have := h.lt hb h.zh; omega
  exact World.cell?_setCell_same _ _ _ (k.cell hhb h.c1)
theorem Hv.put0 {w w' : World} {hb lim used : Nat} {R : Value} {os : List Ob} {Z : Nat → Prop} {i : Nat} {o o' : Ob} (h : Hv w hb lim used R os Z) (ho : os[i]? = some o) {Y : Nat → Prop} (k : Wx Y w w') (hY : ∀ j, Y j → o.X j ∨ w.heap.size ≤ j)
    (hc : o'.cells = o.cells) (hv : Obv w' o') (hX : ∀ j, o'.X j → o.X j ∨ w.heap.size ≤ j) (hlt : ∀ j, o'.X j → j < w'.heap.size) (htb : o'.tb = o.tb)
    (hm : o'.M.K = 0 ∨ (o'.M.K = 5 ∧ 1 ≤ o'.M.O ∧ ∃ p, os[(o'.M.O - 1).toNat]? = some p ∧ p.tb ≠ none)) (hu : o.wt = o'.wt) :
    Hv w' hb lim used R (os.set i o') (Zn Z w.heap.size w'.heap.size) ∧ Wx Z w w' := by
  have hhb : ¬ Y hb := fun c => by
    rcases hY hb c with q | q
    · exact (h.zx i o ho hb q).2.1 rfl
    · have := h.lt hb h.zh; omega
  exact h.put' ho k hY hc hv hX hlt htb hm (by omega) h.hu (Wx.refl _ w') rfl rfl (k.cell hhb h.c1) rfl (fun _ => rfl)

end Go.Proofs.YthmocdabakkfhaaGreatDoor

/-
  Layer 9: what a table tells of a key, of its size.
-/
namespace Go.Proofs.YthmocdabakkfhaaGreatDoor
set_option maxRecDepth 100000
open Go.RowKit Flo

/-- The pointer to what was found, the value of it. -/
def fndP (o : Option En) : Value := .pointer (o.map fun e => ⟨e.b, 0, none⟩)
def fndV (o : Option En) : V4 := match o with
  | some e => ⟨e.vK, e.vN, e.vS, e.vO⟩
  | none => ⟨0, 0, ⟨#[]⟩, 0⟩
theorem Tv.ch {w : World} {tb : Nat} {X : Nat → Prop} {es : List En} {M : V4} (h : Tv w tb X es M) (K N : Int) (S : ByteArray) (O : Int) :
    ∃ g n cap l, Ch w tb es.length g n cap (hN K N S O) l ∧ hd (seek K N S O (hN K N S O) l) = fndP (ofKey K N S O es) ∧ valOf (seek K N S O (hN K N S O) l) = (fndV (ofKey K N S O es)).val := by
  rcases h.bod with ⟨e0, c7, c8, c9⟩ | ⟨g, n, c, m, cs, W, s, t⟩
  · subst e0
    exact ⟨0, 0, 0, [], ⟨h.lt _ h.own, h.ord.keys, fun k => by simp at k, fun _ => rfl, hN_lt _ _ _ _⟩, rfl, rfl⟩
  · have hj := bk_lt (hN K N S O) t.kb.pos
    refine ⟨g, n, n, cs (bk (hN K N S O) n), ⟨h.lt _ h.own, h.ord.keys, fun _ => ⟨t.row.1, t.kb.pos, t.kb.few, t.kb.head _ hj, t.kb.chain _ hj, fun e he => t.kb.lies e ((t.kb.mem _ hj e).1 he).1, t.kb.lt⟩, fun k => ?_, hN_lt _ _ _ _⟩, ?_⟩
    · have e0 : es = [] := List.length_eq_zero_iff.1 k
      rcases hc : cs (bk (hN K N S O) n) with _ | ⟨e, r⟩
      · rfl
      · have := ((t.kb.mem _ hj e).1 (by rw [hc]; simp)).1
        rw [e0] at this; cases this
    · rcases t.kb.seek K N S O with ⟨a, b⟩ | ⟨e, r, a, _, b⟩
      · rw [a, b]; exact ⟨rfl, rfl⟩
      · rw [a, b]; exact ⟨rfl, rfl⟩
theorem tab_find {w : World} {tb : Nat} {X : Nat → Prop} {es : List En} {M : V4} (h : Tv w tb X es M) (K N : Int) (S : ByteArray) (O : Int) :
    Calls Tryz.prog 24 #[.pointer (some ⟨tb, 0, none⟩), .agg #[.int .i64 K, .int .u64 N, .string S, .int .i64 O], .int .u64 (hZ K N S O)] w fun e w' => e = .returned (fndP (ofKey K N S O es)) ∧ Below w.heap.size w w' := by
  obtain ⟨g, n, cap, l, hc, h1, _⟩ := h.ch K N S O
  have := find_ch K N S O hc
  rw [h1, hN_eq] at this
  exact this
theorem tab_get {w : World} {tb : Nat} {X : Nat → Prop} {es : List En} {M : V4} (h : Tv w tb X es M) (K N : Int) (S : ByteArray) (O : Int) :
    Calls Tryz.prog 26 #[.pointer (some ⟨tb, 0, none⟩), .agg #[.int .i64 K, .int .u64 N, .string S, .int .i64 O], .int .u64 (hZ K N S O)] w fun e w' => e = .returned (fndV (ofKey K N S O es)).val ∧ Below w.heap.size w w' := by
  obtain ⟨g, n, cap, l, hc, _, h1⟩ := h.ch K N S O
  have := get_any tb es.length g n cap (hN K N S O) l K N S O w hc
  rw [h1, hN_eq] at this
  exact this
/-- What a table's size says: so many of the first whole numbers are keys. -/
theorem Tv.size {w : World} {tb : Nat} {X : Nat → Prop} {es : List En} {M : V4} (h : Tv w tb X es M) :
    ∃ s : Nat, w.cell? ⟨tb, 9, none⟩ = some (.int .i64 (s : Int)) ∧ ∀ p, p < s → ∃ e ∈ es, e.K = 3 ∧ toB e.N = true ∧ toI e.N = (p : Int) + 1 := by
  rcases h.bod with ⟨e0, c7, c8, c9⟩ | ⟨g, n, c, m, cs, W, s, t⟩
  · exact ⟨0, c9, fun p hp => by omega⟩
  · refine ⟨s, t.kc.size, fun p hp => ?_⟩
    obtain ⟨e, he, hb, hp2⟩ := t.sz.all p hp
    have hb2 := hb
    unfold bitB at hb2
    have h2 := of_decide_eq_true hb2
    refine ⟨e, he, h2.1, h2.2.1, ?_⟩
    unfold bitN at hp2
    rw [if_pos hb] at hp2
    omega

/-- The table of a number. -/
def tabOf (os : List Ob) (o : Int) : Option Ob := if 1 ≤ o ∧ o ≤ os.length then (os[(o - 1).toNat]?).filter fun x => x.tb.isSome else none
theorem tabOf_some {os : List Ob} {o : Int} {x : Ob} (h : tabOf os o = some x) : ∃ (i : Nat) (tb : Nat), o = (i : Int) + 1 ∧ os[i]? = some x ∧ x.tb = some tb := by
  unfold tabOf at h
  split at h
  · next c =>
    obtain ⟨h1, h2⟩ := Option.filter_eq_some_iff.1 h
    obtain ⟨tb, ht⟩ := Option.isSome_iff_exists.1 h2
    exact ⟨(o - 1).toNat, tb, by omega, h1, ht⟩
  · cases h
theorem tabOf_of {os : List Ob} {i tb : Nat} {x : Ob} (h : os[i]? = some x) (ht : x.tb = some tb) : tabOf os ((i : Int) + 1) = some x := by
  have hi : i < os.length := by
    rcases Nat.lt_or_ge i os.length with c | c
    · exact c
    · rw [List.getElem?_eq_none c] at h; cases h
  unfold tabOf
  rw [if_pos (by omega), show ((i : Int) + 1 - 1).toNat = i by omega, h]
  simp [ht]
def ptrOf (os : List Ob) (o : Int) : Option Addr := (tabOf os o).bind Ob.ptr
theorem tableOf_hv {w : World} {hb lim used : Nat} {R : Value} {os : List Ob} {Z : Nat → Prop} (h : Hv w hb lim used R os Z) (o : Int) :
    Calls Tryz.prog 21 #[.pointer (some ⟨hb, 0, none⟩), .int .i64 o] w fun e w' => e = .returned (.pointer (ptrOf os o)) ∧ w' = w := by
  have hlen : os.length ≤ 1099511627776 := by have := sum_len os; have := h.sum; have := h.hu; have := h.hl; omega
  have key : ∀ ob, (0 < os.length → ∀ cap, R = .slice (some ⟨ob, 0, none⟩) os.length cap → ∀ k, k < os.length → w.cell? ⟨ob, 5 * k + 4, none⟩ = some (.pointer ((os[k]?).bind Ob.ptr))) := by
    intro ob h0 cap hR k hk
    have hr := h.row
    rw [hR] at hr
    have h5 := hr.cellAt (k * 5 + 4) (by omega)
    rw [show 5 * k + 4 = k * 5 + 4 by omega, h5, obC_at os k os[k] (List.getElem?_eq_getElem hk) 4 (by omega), List.getElem?_eq_getElem hk]
    rfl
  have hres : (if 1 ≤ o ∧ o ≤ (os.length : Int) then (os[(o - 1).toNat]?).bind Ob.ptr else none) = ptrOf os o := by
    unfold ptrOf tabOf
    split
    · rcases os[(o - 1).toNat]? with _ | x
      · rfl
      · simp only [Option.bind_some, Option.filter_some]
        unfold Ob.ptr
        cases ht : x.tb with
        | none => simp
        | some t => simp [ht]
    · rfl
  rcases rowForm h.row with ⟨hR, h0⟩ | ⟨g, cap, hR, _⟩
  · have := tableOf_any hb 0 os.length 0 none o (fun k => (os[k]?).bind Ob.ptr) w (by rw [h.c2, hR, h0]) (fun k => by omega) hlen (fun k hk => by omega)
    rw [hres] at this
    exact this
  · have := tableOf_any hb g os.length cap (some ⟨g, 0, none⟩) o (fun k => (os[k]?).bind Ob.ptr) w (by rw [h.c2, hR]) (fun _ => rfl) hlen (fun k hk => key g (by omega) cap hR k hk)
    rw [hres] at this
    exact this

theorem size_hv {w : World} {hb lim used : Nat} {R : Value} {os : List Ob} {Z : Nat → Prop} (h : Hv w hb lim used R os Z) (o : Int) :
    Calls Tryz.prog 19 #[.pointer (some ⟨hb, 0, none⟩), .int .i64 o] w fun e w' => w' = w ∧ ∃ s : Nat, e = .returned (.int .i64 s) ∧
      match tabOf os o with
      | none => s = 0
      | some x => ∃ tb, x.tb = some tb ∧ w.cell? ⟨tb, 9, none⟩ = some (.int .i64 (s : Int)) := by
  have HT := tableOf_hv h o
  unfold ptrOf at HT
  cases hx : tabOf os o with
  | none =>
    rw [hx] at HT
    have HT2 : Calls Tryz.prog 21 #[.pointer (some ⟨hb, 0, none⟩), .int .i64 o] w fun e w' => e = .returned (.pointer none) ∧ w' = w := HT
    clear HT hx h
    go_enter Tryz.func19, Tryz.ntmps19
    go_wp2_with fail
    refine HT2.mono ?_
    rintro e w' ⟨rfl, rfl⟩
    clear HT2
    go_wp2
    go_ret
    exact ⟨rfl, 0, rfl, rfl⟩
  | some x =>
    obtain ⟨i, tb, ho, hi, ht⟩ := tabOf_some hx
    rw [hx] at HT
    have HT2 : Calls Tryz.prog 21 #[.pointer (some ⟨hb, 0, none⟩), .int .i64 o] w fun e w' => e = .returned (.pointer (some ⟨tb, 0, none⟩)) ∧ w' = w := by
      have : (some x).bind Ob.ptr = some ⟨tb, 0, none⟩ := by simp [Ob.ptr, ht]
      rw [this] at HT; exact HT
    obtain ⟨s, hs, _⟩ := ((h.ob i x hi).tab tb ht).2.1.size
    have HQ : Hid (∃ t, x.tb = some t ∧ w.cell? ⟨t, 9, none⟩ = some (.int .i64 (s : Int))) := ⟨tb, ht, hs⟩
    clear HT hx h hi ho ht
    go_enter Tryz.func19, Tryz.ntmps19
    go_wp2_with fail
    refine HT2.mono ?_
    rintro e w' ⟨rfl, rfl⟩
    clear HT2
    go_wp2
    go_ret
    exact ⟨rfl, s, rfl, HQ.out⟩

end Go.Proofs.YthmocdabakkfhaaGreatDoor

/-
  Layer 9: a heap is made, an object is laid behind all others, a table is made.
-/
namespace Go.Proofs.YthmocdabakkfhaaGreatDoor
set_option maxRecDepth 100000
open Go.RowKit Flo

def V0 : V4 := ⟨0, 0, ⟨#[]⟩, 0⟩
theorem fresh_tab (w : World) (db : Db w) : Tv (w.alloc (.cells #[.int .i64 0, .int .u64 0, .string ⟨#[]⟩, .int .i64 0, .int .i64 0, .pointer none, .pointer none, .slice none 0 0, .slice none 0 0, .int .i64 0] 65)) w.heap.size (fun k => k = w.heap.size) [] V0 := by
  have two : 1 < w.heap.size := World.block_lt_of_cell? w ⟨1, 0, none⟩ (db 0 (by decide))
  have hc : ∀ o, (w.alloc (.cells #[.int .i64 0, .int .u64 0, .string ⟨#[]⟩, .int .i64 0, .int .i64 0, .pointer none, .pointer none, .slice none 0 0, .slice none 0 0, .int .i64 0] 65)).cell? ⟨w.heap.size, o, none⟩ = (#[.int .i64 0, .int .u64 0, .string ⟨#[]⟩, .int .i64 0, .int .i64 0, .pointer none, .pointer none, .slice none 0 0, .slice none 0 0, .int .i64 0] : Array Value)[o]? := fun o => World.cell?_alloc_at _ _ _ _ rfl
  refine ⟨rfl, fun k hk => (by rw [hk]; simp), fun k => (by omega), fun k o hk => ?_, ?_, ⟨hc 0, hc 1, hc 2, hc 3⟩, ⟨hc 4, hc 5, hc 6, trivial, trivial, List.nodup_nil, fun e he => (by cases he)⟩, by simp, fun e he => (by cases he), fun e he => (by cases he), Or.inl ⟨rfl, hc 7, hc 8, hc 9⟩⟩
  · rw [hk]; exact World.frozen?_alloc_at _ _ _ _ rfl
  · exact db.wx (Wx.of_below (fun _ => False) ((Below.refl _ _).alloc (Nat.le_refl _) _)) (fun c => c)

set_option maxHeartbeats 1000000 in
theorem hnew_any (lim : Nat) (w : World) (hl : lim ≤ 1048576) (db : Db w) :
    Calls Tryz.prog 10 #[.int .i64 (lim : Int)] w fun e w' => e = .returned (.tuple #[.pointer (some ⟨w.heap.size, 0, none⟩), .int .i64 0]) ∧ Hv w' w.heap.size lim 0 (.slice none 0 0) [] (fun k => k = w.heap.size) ∧ Below w.heap.size w w' := by
  have two : 1 < w.heap.size := World.block_lt_of_cell? w ⟨1, 0, none⟩ (db 0 (by decide))
  have HQ : Hid (Hv (w.alloc (.cells #[.int .i64 lim, .int .i64 0, .slice none 0 0] 76)) w.heap.size lim 0 (.slice none 0 0) [] (fun k => k = w.heap.size)) := by
    have hc : ∀ o, (w.alloc (.cells #[.int .i64 lim, .int .i64 0, .slice none 0 0] 76)).cell? ⟨w.heap.size, o, none⟩ = (#[.int .i64 lim, .int .i64 0, .slice none 0 0] : Array Value)[o]? := fun o => World.cell?_alloc_at _ _ _ _ rfl
    refine ⟨hc 0, hc 1, hc 2, fun o => World.frozen?_alloc_at _ _ _ _ rfl, World.ownsRow_nil _ _ _ _, hl, Nat.zero_le _, rfl, fun i o h => (by simp at h), fun i o h => (by simp at h), fun k hk => (by rw [hk]; simp), fun k => (by omega), rfl, fun g hg => (by cases hg), fun i o h => (by simp at h), fun i j o p h => (by simp at h), ?_⟩
    exact db.wx (Wx.of_below (fun _ => False) ((Below.refl _ _).alloc (Nat.le_refl _) _)) (fun c => c)
  have h1 : ¬ (lim : Int) < 0 := by omega
  have h2 : ¬ (lim : Int) > 1048576 := by omega
  go_enter Tryz.func10, Tryz.ntmps10
  go_wp2
  go_ret2
  exact ⟨rfl, HQ.out, (Below.refl _ _).alloc (Nat.le_refl _) _⟩

end Go.Proofs.YthmocdabakkfhaaGreatDoor

/-
  Layer 9: an object laid behind all others: add; Table.
-/
namespace Go.Proofs.YthmocdabakkfhaaGreatDoor
set_option maxRecDepth 100000
open Go.RowKit Flo

theorem infoOb : (Tryz.prog.info? 85).map (fun i => (i.zero, i.size, i.bytes)) = some (some (.agg #[.int .i64 0, .int .i64 0, .int .i64 0, .slice none 0 0, .pointer none]), 5, 56) := by kernel_rfl

/-- The heap behind an object that is laid behind all others. -/
theorem Hv.snoc {w w1 w2 : World} {hb lim used g cap : Nat} {R : Value} {os : List Ob} {Z : Nat → Prop} {o : Ob} (h : Hv w hb lim used R os Z) (hv : Obv w o) (hX : ∀ k, o.X k → k < w.heap.size ∧ ¬ Z k ∧ k ≠ 1) (hM : o.M.K = 0) (hes : o.es = []) (hwt : used + 1 + o.sl.length ≤ lim)
    (hb1 : Below w.heap.size w w1) (hown : w2.ownsRow 0 85 5 (.slice (some ⟨g, 0, none⟩) (os.length + 1) cap) (os.length + 1) (obC os ++ o.cells)) (hgrow : w1.grownBy w2 R.ownBlock) (hg : R.ownBlock = some g ∨ g = w1.heap.size) :
    w2.cell? ⟨hb, 2, none⟩ = some R ∧ w2.cell? ⟨hb, 1, none⟩ = some (.int .i64 used) ∧ (∀ i, w2.frozen? ⟨hb, i, none⟩ = false) ∧
    ∀ w4, (w4.heap = ((w2.setCell ⟨hb, 2, none⟩ (.slice (some ⟨g, 0, none⟩) (os.length + 1) cap)).setCell ⟨hb, 1, none⟩ (.int .i64 ((used + 1 + o.sl.length : Nat) : Int))).heap) → w4.os = w2.os → w4.tape = w2.tape → w4.output = w2.output →
      Hv w4 hb lim (used + 1 + o.sl.length) (.slice (some ⟨g, 0, none⟩) (os.length + 1) cap) (os ++ [o]) (fun k => Zn Z w.heap.size w4.heap.size k ∨ o.X k) ∧ Wx Z w w4 := by
  have hs1 := hb1.size
  have hs2 := hgrow.size
  have hrl : ∀ k, R.ownBlock = some k → k < w.heap.size ∧ Z k ∧ k ≠ hb := fun k hk => ⟨h.lt k (h.zr k hk).1, (h.zr k hk).1, (h.zr k hk).2⟩
  have hhl := h.lt hb h.zh
  have hblk : ∀ k, k < w.heap.size → R.ownBlock ≠ some k → w2.heap[k]? = w.heap[k]? := fun k hk hne => (hgrow.block k (by omega) (fun e => hne e.symm)).trans (hb1.block k hk)
  have hne : R.ownBlock ≠ some hb := fun e => (hrl hb e).2.2 rfl
  have hcb : ∀ i, w2.cell? ⟨hb, i, none⟩ = w.cell? ⟨hb, i, none⟩ := fun i => World.cell?_of_block (w := w) (a := ⟨hb, i, none⟩) (hblk hb hhl hne)
  have hfb : ∀ i, w2.frozen? ⟨hb, i, none⟩ = false := fun i => (World.frozen?_of_block (w := w) (a := ⟨hb, i, none⟩) (hblk hb hhl hne)).trans (h.hfree i)
  have hgb : g ≠ hb := by
    rcases hg with c | c
    · exact (hrl g c).2.2
    · omega
  refine ⟨(hcb 2).trans h.c2, (hcb 1).trans h.c1, hfb, fun w4 hw4 ho4 ht4 hp4 => ?_⟩
  have hsz4 : w4.heap.size = w2.heap.size := by rw [hw4, World.size_setCell, World.size_setCell]
  have hbl4 : ∀ k, k ≠ hb → w4.heap[k]? = w2.heap[k]? := fun k hk => by rw [hw4, heap_setCell_other _ _ _ _ hk, heap_setCell_other _ _ _ _ hk]
  have hc4 : ∀ a : Addr, w4.cell? a = ((w2.setCell ⟨hb, 2, none⟩ (.slice (some ⟨g, 0, none⟩) (os.length + 1) cap)).setCell ⟨hb, 1, none⟩ (.int .i64 ((used + 1 + o.sl.length : Nat) : Int))).cell? a := fun a => World.cell?_of_block (by rw [hw4])
  have hf4 : ∀ a : Addr, w4.frozen? a = w2.frozen? a := fun a => by
    have h1 : w4.frozen? a = ((w2.setCell ⟨hb, 2, none⟩ (.slice (some ⟨g, 0, none⟩) (os.length + 1) cap)).setCell ⟨hb, 1, none⟩ (.int .i64 ((used + 1 + o.sl.length : Nat) : Int))).frozen? a := World.frozen?_of_block (by rw [hw4])
    rw [h1, World.frozen?_setCell, World.frozen?_setCell]
  have hwx0 : Wx (fun k => k = hb ∨ R.ownBlock = some k) w w4 := ⟨by rw [ho4, hgrow.os, hb1.os], by rw [ht4, hgrow.tape, hb1.tape], by rw [hp4, hgrow.output, hb1.output], by omega, fun k hk hx => (hbl4 k (fun e => hx (Or.inl e))).trans (hblk k hk (fun e => hx (Or.inr e)))⟩
  have hwx : Wx Z w w4 := hwx0.more (fun k hk => by
    rcases hk with c | c
    · rw [c]; exact Or.inl h.zh
    · exact Or.inl (hrl k c).2.1)
  have hn1 : ¬ (1 = hb ∨ R.ownBlock = some 1) := by
    rintro (c | c)
    · exact h.no1 (c ▸ h.zh)
    · exact h.no1 (hrl 1 c).2.1
  have hgs : ∀ (i : Nat) p, (os ++ [o])[i]? = some p → (i < os.length ∧ os[i]? = some p) ∨ (i = os.length ∧ p = o) := by
    intro i p hp
    rcases Nat.lt_or_ge i os.length with c | c
    · rw [List.getElem?_append_left c] at hp; exact Or.inl ⟨c, hp⟩
    · rw [List.getElem?_append_right c] at hp
      by_cases d : i = os.length
      · rw [d, Nat.sub_self] at hp
        exact Or.inr ⟨d, (Option.some.inj hp).symm⟩
      · rw [List.getElem?_eq_none (by simp; omega)] at hp; cases hp
  have hgw : g < w4.heap.size := by
    rcases rowForm hown with ⟨c, _⟩ | ⟨g', cap', c, d⟩
    · cases c
    · injection c with c _ _; injection c with c; injection c with c; omega
  refine ⟨⟨?_, ?_, ?_, fun i => (hf4 _).trans (hfb i), ?_, h.hl, hwt, ?_, ?_, ?_, ?_, ?_, Or.inl (Or.inl h.zh), ?_, ?_, ?_, h.db.wx hwx0 hn1⟩, hwx⟩
  · rw [hc4, World.cell?_setCell_other _ _ _ _ (by simp), World.cell?_setCell_other _ _ _ _ (by simp), hcb]; exact h.c0
  · rw [hc4]
    have h1 : (w2.setCell ⟨hb, 2, none⟩ (.slice (some ⟨g, 0, none⟩) (os.length + 1) cap)).cell? ⟨hb, 1, none⟩ = some (.int .i64 used) := by
      rw [World.cell?_setCell_other _ _ _ _ (by simp), hcb]; exact h.c1
    exact World.cell?_setCell_same _ _ _ h1
  · rw [hc4, World.cell?_setCell_other _ _ _ _ (by simp)]
    exact World.cell?_setCell_same _ _ _ ((hcb 2).trans h.c2)
  · rw [obC_snoc, List.length_append, List.length_singleton]
    refine rowStay hown (fun k hk => ?_)
    have hk2 : g = k := by simpa [Value.ownBlock] using hk
    exact hbl4 k (by omega)
  · have := h.sum
    rw [List.map_append, List.sum_append]
    simp only [List.map_cons, List.map_nil, List.sum_cons, List.sum_nil, Ob.wt, hes, List.length_nil]
    omega
  · intro i p hp
    rcases hgs i p hp with ⟨_, hp⟩ | ⟨_, rfl⟩
    · exact (h.ob i p hp).wx hwx0 (fun k hk c => by
        rcases c with c | c
        · exact (h.zx i p hp k hk).2.1 c
        · exact (h.zx i p hp k hk).2.2 c) hn1
    · exact hv.wx hwx0 (fun k hk c => by
        rcases c with c | c
        · exact (hX k hk).2.1 (c ▸ h.zh)
        · exact (hX k hk).2.1 (hrl k c).2.1) hn1
  · intro i p hp
    rcases hgs i p hp with ⟨_, hp⟩ | ⟨_, rfl⟩
    · rcases h.mt i p hp with c | ⟨c1, c2, q, c3, c4⟩
      · exact Or.inl c
      · refine Or.inr ⟨c1, c2, q, ?_, c4⟩
        rw [List.getElem?_append_left]
        · exact c3
        · rcases Nat.lt_or_ge (p.M.O - 1).toNat os.length with d | d
          · exact d
          · rw [List.getElem?_eq_none d] at c3; cases c3
    · exact Or.inl hM
  · rintro k (hk | hk)
    · rcases hk with c | c
      · have := h.lt k c; omega
      · omega
    · have := (hX k hk).1; omega
  · rintro (hk | hk)
    · rcases hk with c | c
      · exact h.no1 c
      · have := h.two; omega
    · exact (hX 1 hk).2.2 rfl
  · intro k hk0
    have hk : g = k := by simpa [Value.ownBlock] using hk0
    refine ⟨?_, by omega⟩
    rcases hg with c | c
    · exact Or.inl (Or.inl (hk ▸ (hrl g c).2.1))
    · exact Or.inl (Or.inr ⟨by omega, by omega⟩)
  · intro i p hp k hk
    rcases hgs i p hp with ⟨_, hp⟩ | ⟨_, rfl⟩
    · refine ⟨Or.inl (Or.inl (h.zx i p hp k hk).1), (h.zx i p hp k hk).2.1, fun e0 => ?_⟩
      have e : g = k := by simpa [Value.ownBlock] using e0
      rcases hg with c | c
      · exact (h.zx i p hp k hk).2.2 (e ▸ c)
      · have := h.lt k (h.zx i p hp k hk).1; omega
    · refine ⟨Or.inr hk, fun e => (hX k hk).2.1 (e ▸ h.zh), fun e0 => ?_⟩
      have e : g = k := by simpa [Value.ownBlock] using e0
      rcases hg with c | c
      · exact (hX k hk).2.1 (e ▸ (hrl g c).2.1)
      · have := (hX k hk).1; omega
  · intro i j p q hp hq hij k hk hk2
    rcases hgs i p hp with ⟨_, hp1⟩ | ⟨e1, f1⟩
    · rcases hgs j q hq with ⟨_, hq1⟩ | ⟨e2, f2⟩
      · exact h.xx i j p q hp1 hq1 hij k hk hk2
      · rw [f2] at hk2
        exact (hX k hk2).2.1 (h.zx i p hp1 k hk).1
    · rcases hgs j q hq with ⟨_, hq1⟩ | ⟨e2, _⟩
      · rw [f1] at hk
        exact (hX k hk).2.1 (h.zx j q hq1 k hk2).1
      · omega

end Go.Proofs.YthmocdabakkfhaaGreatDoor
