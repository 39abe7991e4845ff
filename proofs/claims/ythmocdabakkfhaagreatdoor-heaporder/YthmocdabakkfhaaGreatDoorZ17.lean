/-
  HpSpread
-/
import Derived.Deep.OwnRows
import Derived.Test.YthmocdabakkfhaaGreatDoorZ16

/-
  Layer 9: all entries laid into buckets anew: spread.
-/
namespace Go.Proofs.YthmocdabakkfhaaGreatDoor
set_option maxRecDepth 100000
open Go.RowKit

/-- What is written in blocks that were not there is of no account. -/
theorem Wr.less {A A' : List (Nat × Nat)} {w w' : World} (h : Wr A w w') (hA : ∀ a ∈ A, a ∈ A' ∨ w.heap.size ≤ a.1) : Wr A' w w' := by
  refine ⟨⟨fun k o v hn hc => h.cell (fun hm => ?_) hc, h.size⟩, h.2.1, fun B hB hs => h.below B (fun a ha => ?_) hs, fun _ hk => h.blk hk, fun k hk hn => h.block hk (fun o hm => ?_)⟩
  · rcases hA _ hm with c | c
    · exact hn c
    · have := World.block_lt_of_cell? w _ hc
      simp only at this c
      omega
  · rcases hA a ha with c | c
    · exact hB a c
    · omega
  · rcases hA _ hm with c | c
    · exact hn o c
    · simp only at c
      omega

/-- The words and the size behind these keys, one after the other. -/
def cntF (m : Nat) (es : List En) : (Nat → Nat) × Nat := es.foldl (fun p e => (cntW m p.1 e.K e.N, cntS m p.1 p.2 e.K e.N)) (fun _ => 0, 0)
theorem cntF_snoc (m : Nat) (es : List En) (e : En) : cntF m (es ++ [e]) = (cntW m (cntF m es).1 e.K e.N, cntS m (cntF m es).1 (cntF m es).2 e.K e.N) := by
  unfold cntF; rw [List.foldl_append]; rfl
/-- What is written as these are laid. -/
def spA (tb g c n m : Nat) (es : List En) : List (Nat × Nat) := es.flatMap fun e => [(e.b, 9), (g, bk e.H n), (c, bitN m e.K e.N / 64), (tb, 9)]
theorem spA_snoc (tb g c n m : Nat) (es : List En) (e : En) : spA tb g c n m (es ++ [e]) = spA tb g c n m es ++ [(e.b, 9), (g, bk e.H n), (c, bitN m e.K e.N / 64), (tb, 9)] := by
  unfold spA; simp
theorem spA_mem {tb g c n m : Nat} {es : List En} {k o : Nat} (h : (k, o) ∈ spA tb g c n m es) : (∃ e ∈ es, k = e.b ∧ o = 9) ∨ k = g ∨ k = c ∨ (k = tb ∧ o = 9) := by
  unfold spA at h
  obtain ⟨e, he, hm⟩ := List.mem_flatMap.1 h
  simp only [List.mem_cons, Prod.mk.injEq, List.not_mem_nil, or_false] at hm
  rcases hm with ⟨h1, h2⟩ | ⟨h1, _⟩ | ⟨h1, _⟩ | ⟨h1, h2⟩
  · exact Or.inl ⟨e, he, h1, h2⟩
  · exact Or.inr (Or.inl h1)
  · exact Or.inr (Or.inr (Or.inl h1))
  · exact Or.inr (Or.inr (Or.inr ⟨h1, h2⟩))

/-- What holds of the entries ahead of it all. -/
structure Sf (w : World) (tb g c n : Nat) (es : List En) : Prop where
  lies : ∀ e ∈ es, EnC w e ∧ e.b < w.heap.size
  hash : ∀ e ∈ es, e.H = hN e.K e.N e.S e.O
  u64 : ∀ e ∈ es, Flo.U64 e.N
  ptr : ∀ e ∈ es, ∃ u, w.cell? ⟨e.b, 9, none⟩ = some (.pointer u)
  free : ∀ e ∈ es, w.frozen? ⟨e.b, 9, none⟩ = false
  ntb : ∀ e ∈ es, e.b ≠ tb
  ng : ∀ e ∈ es, e.b ≠ g
  nc : ∀ e ∈ es, e.b ≠ c
  no1 : ∀ e ∈ es, e.b ≠ 1
  keys : es.Pairwise fun e f => ¬ (e.K = f.K ∧ e.N = f.N ∧ e.S = f.S ∧ e.O = f.O)
  once : (es.map En.b).Nodup
  behind : Lk w 11 es
  row : w.cell? ⟨tb, 7, none⟩ = some (.slice (some ⟨g, 0, none⟩) n n)
  zg : ∀ j, w.frozen? ⟨g, j, none⟩ = false
  glt : g < w.heap.size
  gt : g ≠ tb
  gc : g ≠ c
  g1 : g ≠ 1
  c1 : c ≠ 1
  t1 : tb ≠ 1
  ct : c ≠ tb
  db : Db w

/-- How far the laying is. -/
structure Sp (tb g c n m : Nat) (es : List En) (w2 wr : World) (done rest : List En) : Prop where
  split : es = done ++ rest
  wt : Wr (spA tb g c n m done) w2 wr
  bx : ∃ cs, Bk wr g n cs done
  cx : Ct wr tb c m (cntF m done).1 (cntF m done).2

theorem Sp.lay {tb g c n m : Nat} {es : List En} {w2 wr : World} {done rest : List En} {e : En} (hf : Sf w2 tb g c n es) (h : Sp tb g c n m es w2 wr done (e :: rest)) :
    Calls Tryz.prog 79 #[.pointer (some ⟨tb, 0, none⟩), .pointer (some ⟨e.b, 0, none⟩)] wr fun x w' => x = .returned (.tuple #[]) ∧ Sp tb g c n m es w2 w' (done ++ [e]) rest ∧ w'.cell? ⟨e.b, 11, none⟩ = some (hd rest) := by
  have hsp := h.split
  have he : e ∈ es := by rw [hsp]; simp
  have hde : ∀ f ∈ done, f ∈ es := fun f hm => by rw [hsp]; exact List.mem_append_left _ hm
  have hne : ∀ f ∈ done, f.b ≠ e.b := fun f hm => by
    have := hf.once
    rw [hsp, List.map_append, List.map_cons] at this
    have k := (List.nodup_append.1 this).2.2
    exact k _ (List.mem_map_of_mem hm) _ (by simp)
  have hkey : ∀ f ∈ done, ¬ (e.K = f.K ∧ e.N = f.N ∧ e.S = f.S ∧ e.O = f.O) := fun f hm hk => by
    have := hf.keys
    rw [hsp] at this
    have k := (List.pairwise_append.1 this).2.2 f hm e (by simp)
    exact k ⟨hk.1.symm, hk.2.1.symm, hk.2.2.1.symm, hk.2.2.2.symm⟩
  have hno : ∀ o, (e.b, o) ∈ spA tb g c n m done → False := fun o hm => by
    rcases spA_mem hm with ⟨f, hf1, h1, _⟩ | h1 | h1 | ⟨h1, _⟩
    · exact hne f hf1 h1.symm
    · exact hf.ng e he h1
    · exact hf.nc e he h1
    · exact hf.ntb e he h1
  have hoff := h.wt.off
  have hlies := hf.lies e he
  obtain ⟨u, hu⟩ := hf.ptr e he
  obtain ⟨cs, hbk⟩ := h.bx
  have h7 : wr.cell? ⟨tb, 7, none⟩ = some (.slice (some ⟨g, 0, none⟩) n n) := h.wt.cell (fun hm => by
    rcases spA_mem hm with ⟨f, hf1, h1, _⟩ | h1 | h1 | ⟨_, h1⟩
    · exact hf.ntb f (hde f hf1) h1.symm
    · exact hf.gt h1.symm
    · exact hf.ct h1.symm
    · simp at h1) hf.row
  have hdb : Db wr := fun j hj => h.wt.cell (fun hm => by
    rcases spA_mem hm with ⟨f, hf1, h1, _⟩ | h1 | h1 | ⟨h1, _⟩
    · exact hf.no1 f (hde f hf1) h1.symm
    · exact hf.g1 h1.symm
    · exact hf.c1 h1.symm
    · exact hf.t1 h1.symm) (hf.db j hj)
  have h11 : wr.cell? ⟨e.b, 11, none⟩ = some (Go.Proofs.YthmocdabakkfhaaGreatDoor.hd rest) := by
    have hl : ∀ (l : List En), Lk w2 11 (l ++ e :: rest) → w2.cell? ⟨e.b, 11, none⟩ = some (Go.Proofs.YthmocdabakkfhaaGreatDoor.hd rest) := by
      intro l
      induction l with
      | nil => intro k; exact k.1
      | cons f r ih => intro k; exact ih k.2
    have := hf.behind
    rw [hsp] at this
    exact h.wt.cell (hno 11) (hl done this)
  have hlay := lay_any tb g n c m (cntF m done).2 (cntF m done).1 cs done (done ++ [e]) e u wr h.cx hbk hdb h7 ⟨hlies.1.off hoff (fun o _ => hno o), Nat.lt_of_lt_of_le hlies.2 h.wt.size⟩ (hf.hash e he) (hf.u64 e he)
    (h.wt.cell (hno 9) hu) ((h.wt.2.1 e.b 9 hlies.2).trans (hf.free e he)) (fun j => (h.wt.2.1 g j hf.glt).trans (hf.zg j)) (hf.ntb e he) (hf.ng e he) (hf.nc e he) hf.gt hf.gc (hf.no1 e he) hf.g1
    (fun x => by rw [List.mem_append, List.mem_singleton]; exact or_comm) hkey hne (fun f hm => ⟨hf.ntb f (hde f hm), hf.nc f (hde f hm)⟩)
  refine hlay.mono fun x w' ⟨h1, h2, h3, h4⟩ => ⟨h1, ⟨by rw [hsp]; simp, ?_, ⟨_, h3⟩, ?_⟩, ?_⟩
  · rw [spA_snoc]; exact h.wt.trans h2
  · rw [cntF_snoc]; exact h4
  · refine h2.cell (fun hm => ?_) h11
    simp only [List.mem_cons, Prod.mk.injEq, List.not_mem_nil, or_false] at hm
    rcases hm with ⟨_, k⟩ | ⟨k, _⟩ | ⟨k, _⟩ | ⟨k, _⟩
    · simp at k
    · exact hf.ng e he k
    · exact hf.nc e he k
    · exact hf.ntb e he k

/-- What is asked of a table whose entries are laid anew. -/
structure Se (w : World) (tb : Nat) (es : List En) : Prop where
  lies : ∀ e ∈ es, EnC w e ∧ e.b < w.heap.size
  hash : ∀ e ∈ es, e.H = hN e.K e.N e.S e.O
  u64 : ∀ e ∈ es, Flo.U64 e.N
  ptr : ∀ e ∈ es, ∃ u, w.cell? ⟨e.b, 9, none⟩ = some (.pointer u)
  free : ∀ e ∈ es, w.frozen? ⟨e.b, 9, none⟩ = false
  ntb : ∀ e ∈ es, e.b ≠ tb
  no1 : ∀ e ∈ es, e.b ≠ 1
  keys : es.Pairwise fun e f => ¬ (e.K = f.K ∧ e.N = f.N ∧ e.S = f.S ∧ e.O = f.O)
  once : (es.map En.b).Nodup
  behind : Lk w 11 es
  first : w.cell? ⟨tb, 5, none⟩ = some (hd es)
  t1 : tb ≠ 1
  db : Db w
  tlt : tb < w.heap.size
  c7 : ∃ v, w.cell? ⟨tb, 7, none⟩ = some v
  c8 : ∃ v, w.cell? ⟨tb, 8, none⟩ = some v
  c9 : ∃ v, w.cell? ⟨tb, 9, none⟩ = some v
  tfree : ∀ o, w.frozen? ⟨tb, o, none⟩ = false

theorem info66 : (Tryz.prog.info? 61).map (fun i => (i.zero, i.size, i.bytes)) = some (some (.pointer none), 1, 8) := by kernel_rfl
theorem info64 : (Tryz.prog.info? 34).map (fun i => (i.zero, i.size, i.bytes)) = some (some (.int .u64 0), 1, 8) := by kernel_rfl

/-- The world behind the two makes. -/
def spW (w : World) (tb n m : Nat) : World :=
  ((((w.setCell ⟨tb, 7, none⟩ (.slice (some ⟨w.heap.size, 0, none⟩) n n)).setCell ⟨tb, 8, none⟩ (.slice (some ⟨w.heap.size + 1, 0, none⟩) m m)).setCell ⟨tb, 9, none⟩ (.int .i64 0)).alloc (.cells (madeCells #[.pointer none] n) 61)).alloc (.cells (madeCells #[.int .u64 0] m) 34)

theorem made_at (z : Value) {n j : Nat} (h : j < n) : (madeCells #[z] n)[j]? = some z := by
  rw [← Array.getElem?_toList, toList_madeCells_one, List.getElem?_replicate, if_pos h]
structure Sw (w W : World) (tb n m : Nat) : Prop where
  wr : Wr [(tb, 7), (tb, 8), (tb, 9)] w W
  size : W.heap.size = w.heap.size + 2
  g : ∀ j, j < n → W.cell? ⟨w.heap.size, j, none⟩ = some (.pointer none)
  c : ∀ j, j < m → W.cell? ⟨w.heap.size + 1, j, none⟩ = some (.int .u64 0)
  zg : ∀ j, W.frozen? ⟨w.heap.size, j, none⟩ = false
  zc : ∀ j, W.frozen? ⟨w.heap.size + 1, j, none⟩ = false
  c7 : W.cell? ⟨tb, 7, none⟩ = some (.slice (some ⟨w.heap.size, 0, none⟩) n n)
  c8 : W.cell? ⟨tb, 8, none⟩ = some (.slice (some ⟨w.heap.size + 1, 0, none⟩) m m)
  c9 : W.cell? ⟨tb, 9, none⟩ = some (.int .i64 0)
theorem spW_sw (w : World) (tb n m : Nat) (htl : tb < w.heap.size) {v7 v8 v9 : Value} (c7 : w.cell? ⟨tb, 7, none⟩ = some v7) (c8 : w.cell? ⟨tb, 8, none⟩ = some v8) (c9 : w.cell? ⟨tb, 9, none⟩ = some v9) : Sw w (spW w tb n m) tb n m := by
  obtain ⟨u, hu⟩ : ∃ u, u = ((w.setCell ⟨tb, 7, none⟩ (.slice (some ⟨w.heap.size, 0, none⟩) n n)).setCell ⟨tb, 8, none⟩ (.slice (some ⟨w.heap.size + 1, 0, none⟩) m m)).setCell ⟨tb, 9, none⟩ (.int .i64 0) := ⟨_, rfl⟩
  have hus : u.heap.size = w.heap.size := by rw [hu]; simp only [World.size_setCell]
  have hW : spW w tb n m = (u.alloc (.cells (madeCells #[.pointer none] n) 61)).alloc (.cells (madeCells #[.int .u64 0] m) 34) := by rw [hu]; rfl
  have hwr : Wr [(tb, 7), (tb, 8), (tb, 9)] w u := by
    rw [hu]
    exact (((Wr.set w tb 7 _).trans (Wr.set _ tb 8 _)).trans (Wr.set _ tb 9 _)).more (fun a ha => by simpa [or_assoc] using ha)
  have hb : Below u.heap.size u (spW w tb n m) := by
    rw [hW]; exact ((Below.refl _ _).alloc (Nat.le_refl _) _).alloc (by simp) _
  have hs1 : (u.alloc (.cells (madeCells #[.pointer none] n) 61)).heap.size = w.heap.size + 1 := by simp [hus]
  have u7 : u.cell? ⟨tb, 7, none⟩ = some (.slice (some ⟨w.heap.size, 0, none⟩) n n) := by
    rw [hu, World.cell?_setCell_other _ _ _ _ (by simp), World.cell?_setCell_other _ _ _ _ (by simp)]
    exact World.cell?_setCell_same _ _ _ c7
  have u8 : u.cell? ⟨tb, 8, none⟩ = some (.slice (some ⟨w.heap.size + 1, 0, none⟩) m m) := by
    rw [hu, World.cell?_setCell_other _ _ _ _ (by simp)]
    exact World.cell?_setCell_same _ _ _ (by rw [World.cell?_setCell_other _ _ _ _ (by simp)]; exact c8)
  have u9 : u.cell? ⟨tb, 9, none⟩ = some (.int .i64 0) := by
    rw [hu]
    exact World.cell?_setCell_same _ _ _ (by rw [World.cell?_setCell_other _ _ _ _ (by simp), World.cell?_setCell_other _ _ _ _ (by simp)]; exact c9)
  refine ⟨?_, ?_, ?_, ?_, ?_, ?_, ?_, ?_, ?_⟩
  · have := hwr.trans (Wr.of_below hb)
    exact this.more (fun a ha => by simpa using ha)
  · rw [hW]; simp [hus]
  · intro j hj
    rw [hW, World.cell?_alloc_lt _ _ _ (show w.heap.size < _ by omega), World.cell?_alloc_at _ _ _ _ hus.symm]
    exact made_at _ hj
  · intro j hj
    rw [hW, World.cell?_alloc_at _ _ _ _ hs1.symm]
    exact made_at _ hj
  · intro j
    rw [hW, World.frozen?_alloc_past _ _ _ (show w.heap.size < (u.alloc (.cells (madeCells #[.pointer none] n) 61)).heap.size by omega), World.frozen?_alloc_at _ _ _ _ hus.symm]
  · intro j
    rw [hW, World.frozen?_alloc_at _ _ _ _ hs1.symm]
  · exact (hb.cell (p := ⟨tb, 7, none⟩) (show tb < u.heap.size by omega)).trans u7
  · exact (hb.cell (p := ⟨tb, 8, none⟩) (show tb < u.heap.size by omega)).trans u8
  · exact (hb.cell (p := ⟨tb, 9, none⟩) (show tb < u.heap.size by omega)).trans u9
/-- The beginning of the laying. -/
theorem Se.begin {w W : World} {tb n m : Nat} {es : List En} (h : Se w tb es) (k : Sw w W tb n m) (hm : m = (n + 63) / 64) (hn : n ≤ 1099511627776) (h0 : 0 < n) (h2 : 1 < w.heap.size) :
    Sf W tb w.heap.size (w.heap.size + 1) n es ∧ Sp tb w.heap.size (w.heap.size + 1) n m es W W [] es := by
  have hno : ∀ e ∈ es, ∀ o, (e.b, o) ∉ [(tb, 7), (tb, 8), (tb, 9)] := fun e he o hm => by
    simp only [List.mem_cons, Prod.mk.injEq, List.not_mem_nil, or_false] at hm
    have := h.ntb e he
    omega
  have htl := h.tlt
  refine ⟨⟨fun e he => ⟨(h.lies e he).1.off k.wr.off (fun o _ => hno e he o), Nat.lt_of_lt_of_le (h.lies e he).2 k.wr.size⟩, h.hash, h.u64, fun e he => ?_, fun e he => (k.wr.2.1 e.b 9 (h.lies e he).2).trans (h.free e he), h.ntb, fun e he => ?_, fun e he => ?_, h.no1, h.keys, h.once,
    h.behind.off k.wr.off (fun e he => hno e he 11), k.c7, k.zg, ?_, ?_, ?_, ?_, ?_, h.t1, ?_, ?_⟩, ⟨rfl, ?_, ?_, ?_⟩⟩
  · obtain ⟨u, hu⟩ := h.ptr e he
    exact ⟨u, k.wr.cell (hno e he 9) hu⟩
  · have := (h.lies e he).2; omega
  · have := (h.lies e he).2; omega
  · rw [k.size]; omega
  · omega
  · omega
  · omega
  · omega
  · omega
  · intro j hj
    refine k.wr.cell (fun hm => ?_) (h.db j hj)
    simp only [List.mem_cons, Prod.mk.injEq, List.not_mem_nil, or_false] at hm
    have := h.t1
    omega
  · exact Wr.refl W
  · refine ⟨fun _ => [], h0, hn, by rw [k.size]; omega, fun j hj => k.g j hj, fun j _ => trivial, fun j _ e => by simp, fun e he => by simp at he, fun e he => by simp at he, fun e he => by simp at he, fun j _ => List.nodup_nil, fun e he => by simp at he, fun e he => by simp at he⟩
  · exact ⟨by rw [k.size]; omega, by rw [k.size]; omega, by omega, by omega, by omega, k.c8, k.c9, by simp [cntF], fun i hi => ⟨by simp [cntF], k.c i hi⟩, k.zc, (k.wr.2.1 tb 9 htl).trans (h.tfree 9)⟩

set_option maxHeartbeats 1000000 in
theorem spread_any (tb n m : Nat) (es : List En) (w : World) (hm : m = (n + 63) / 64) (hn : n ≤ 1099511627776) (h0 : 0 < n) (h2 : 1 < w.heap.size) (h : Se w tb es) :
    Calls Tryz.prog 78 #[.pointer (some ⟨tb, 0, none⟩), .int .i64 (n : Int)] w fun x w' => x = .returned (.tuple #[]) ∧
      ∃ W, Sw w W tb n m ∧ Sp tb w.heap.size (w.heap.size + 1) n m es W w' es [] := by
  obtain ⟨i0, hi0, hz0, hz1, hz2⟩ := info_parts info66
  obtain ⟨i4, hi4, hy0, hy1, hy2⟩ := info_parts info64
  obtain ⟨v7, c7⟩ := h.c7
  obtain ⟨v8, c8⟩ := h.c8
  obtain ⟨v9, c9⟩ := h.c9
  have z7 := h.tfree 7
  have z8 := h.tfree 8
  have z9 := h.tfree 9
  have c5 := h.first
  have hlt := h.tlt
  have hne : tb ≠ w.heap.size := by omega
  have hne2 : tb ≠ w.heap.size + 1 := by omega
  have hq : ((n : Int) + 64 - 1) / 64 = (m : Int) := by omega
  have hm2 : m ≤ 1099511627776 := by omega
  obtain ⟨u5, hu5⟩ : ∃ u, hd es = .pointer u := by cases es <;> exact ⟨_, rfl⟩
  have HU5 : Hid (hd es = .pointer u5) := hu5
  rw [hu5] at c5
  obtain ⟨W, hW⟩ : ∃ W, W = spW w tb n m := ⟨_, rfl⟩
  have hsw : Sw w W tb n m := by rw [hW]; exact spW_sw w tb n m hlt c7 c8 c9
  have HSW : Hid (Sw w W tb n m) := hsw
  have HBG : Hid (Sf W tb w.heap.size (w.heap.size + 1) n es ∧ Sp tb w.heap.size (w.heap.size + 1) n m es W W [] es) := h.begin hsw hm hn h0 h2
  have hW' : W = ((((w.setCell ⟨tb, 7, none⟩ (.slice (some ⟨w.heap.size, 0, none⟩) n n)).setCell ⟨tb, 8, none⟩ (.slice (some ⟨w.heap.size + 1, 0, none⟩) m m)).setCell ⟨tb, 9, none⟩ (.int .i64 0)).alloc (.cells (madeCells #[.pointer none] n) 61)).alloc (.cells (madeCells #[.int .u64 0] m) 34) := hW
  have HW' : Hid (W = _) := hW'
  clear h hm hu5 hsw hW hW'
  have hk1 := run_make_row (P := Tryz.prog) 62 61 i0 (.pointer none) Tryz.underlying62 hi0 hz0 hz1 rfl .i64 .i64 n (by rw [hz2]; omega) (by omega)
  have hk2 := run_make_row (P := Tryz.prog) 63 34 i4 (.int .u64 0) Tryz.underlying63 hi4 hy0 hy1 rfl .i64 .i64 m (by rw [hy2]; omega) (by omega)
  go_enter Tryz.func78, Tryz.ntmps78
  go_wp2_with fail
  rw [← HW'.out, hq]
  clear hq hk1 hk2 c5 c7 c8 c9 z7 z8 z9
  go_loopg [4] es.length (fun k p wr => ∃ done rest : List En, p = hd rest ∧ Hid (k = rest.length ∧ Sp tb w.heap.size (w.heap.size + 1) n m es W wr done rest))
  case atStart => exact ⟨[], es, HU5.out.symm, ⟨rfl, HBG.out.2⟩⟩
  case round =>
    obtain ⟨done, rest, rfl, HI⟩ := hrel
    rcases rest with _ | ⟨e, r⟩
    · rw [hd]
      have HQ : Hid (Sp tb w.heap.size (w.heap.size + 1) n m es W wr es []) := by
        have k := HI.out.2
        have e := k.split
        rw [List.append_nil] at e
        subst e
        exact k
      clear HI
      go_wp2
      go_end0
      exact ⟨rfl, W, HSW.out, HQ.out⟩
    · have hlay := Sp.lay HBG.out.1 HI.out.2
      have hk := HI.out.1
      obtain ⟨u, hu⟩ : ∃ u, hd r = .pointer u := by cases r <;> exact ⟨_, rfl⟩
      have HU : Hid (hd r = .pointer u) := hu
      rw [hu] at hlay
      rw [hd]
      have HKK : Hid (r.length < gk) := by show r.length < gk; rw [hk]; simp
      clear HI hk hu
      generalize e.b = eb at *
      go_wp2_with fail
      refine hlay.mono ?_
      rintro x w1 ⟨rfl, hsp, hc⟩
      have HSP : Hid _ := hsp
      clear hsp hlay
      go_wp2_with fail
      go_roundg r.length
      case measure => exact HKK.out
      case rel => exact ⟨done ++ [e], r, HU.out.symm, ⟨rfl, HSP.out⟩⟩

end Go.Proofs.YthmocdabakkfhaaGreatDoor
