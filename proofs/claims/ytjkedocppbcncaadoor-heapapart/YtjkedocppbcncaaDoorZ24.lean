/-
  HeapApart
-/
import Derived.Deep.DeepCutAuto
import Derived.Test.YtjkedocppbcncaaDoorZ23

/-
  HeapApart: the law, walked: its four values in variables of their own.
-/
namespace Go.Proofs.YtjkedocppbcncaaDoor
set_option maxRecDepth 100000
open Go.RowKit Flo

theorem keep16 {W W' : World} {b : Nat} {k l v x : V4} (h : W.cell? ⟨b, 0, none⟩ = some (.int .i64 k.K) ∧ W.cell? ⟨b, 1, none⟩ = some (.int .u64 k.N) ∧ W.cell? ⟨b, 2, none⟩ = some (.string k.S) ∧ W.cell? ⟨b, 3, none⟩ = some (.int .i64 k.O) ∧ W.cell? ⟨b, 4, none⟩ = some (.int .i64 l.K) ∧ W.cell? ⟨b, 5, none⟩ = some (.int .u64 l.N) ∧ W.cell? ⟨b, 6, none⟩ = some (.string l.S) ∧ W.cell? ⟨b, 7, none⟩ = some (.int .i64 l.O) ∧ W.cell? ⟨b, 8, none⟩ = some (.int .i64 v.K) ∧ W.cell? ⟨b, 9, none⟩ = some (.int .u64 v.N) ∧ W.cell? ⟨b, 10, none⟩ = some (.string v.S) ∧ W.cell? ⟨b, 11, none⟩ = some (.int .i64 v.O) ∧ W.cell? ⟨b, 12, none⟩ = some (.int .i64 x.K) ∧ W.cell? ⟨b, 13, none⟩ = some (.int .u64 x.N) ∧ W.cell? ⟨b, 14, none⟩ = some (.string x.S) ∧ W.cell? ⟨b, 15, none⟩ = some (.int .i64 x.O)) (hb : Below (b + 1) W W') : W'.cell? ⟨b, 0, none⟩ = some (.int .i64 k.K) ∧ W'.cell? ⟨b, 1, none⟩ = some (.int .u64 k.N) ∧ W'.cell? ⟨b, 2, none⟩ = some (.string k.S) ∧ W'.cell? ⟨b, 3, none⟩ = some (.int .i64 k.O) ∧ W'.cell? ⟨b, 4, none⟩ = some (.int .i64 l.K) ∧ W'.cell? ⟨b, 5, none⟩ = some (.int .u64 l.N) ∧ W'.cell? ⟨b, 6, none⟩ = some (.string l.S) ∧ W'.cell? ⟨b, 7, none⟩ = some (.int .i64 l.O) ∧ W'.cell? ⟨b, 8, none⟩ = some (.int .i64 v.K) ∧ W'.cell? ⟨b, 9, none⟩ = some (.int .u64 v.N) ∧ W'.cell? ⟨b, 10, none⟩ = some (.string v.S) ∧ W'.cell? ⟨b, 11, none⟩ = some (.int .i64 v.O) ∧ W'.cell? ⟨b, 12, none⟩ = some (.int .i64 x.K) ∧ W'.cell? ⟨b, 13, none⟩ = some (.int .u64 x.N) ∧ W'.cell? ⟨b, 14, none⟩ = some (.string x.S) ∧ W'.cell? ⟨b, 15, none⟩ = some (.int .i64 x.O) := by
  have hc : ∀ o, W'.cell? ⟨b, o, none⟩ = W.cell? ⟨b, o, none⟩ := fun o => hb.cell (p := ⟨b, o, none⟩) (Nat.lt_succ_self b)
  simp only [hc]
  exact h
theorem at4_new' {w : World} {b : Nat} {v : V4} (e : w.heap.size = b) : At4 (w.alloc (.cells #[.int .i64 v.K, .int .u64 v.N, .string v.S, .int .i64 v.O] 35)) b 0 v := by
  subst e
  exact ⟨World.cell?_alloc_at _ _ _ _ rfl, World.cell?_alloc_at _ _ _ _ rfl, World.cell?_alloc_at _ _ _ _ rfl, World.cell?_alloc_at _ _ _ _ rfl⟩
theorem at4_old {w : World} {o : Obj} {b : Nat} {v : V4} (h : At4 w b 0 v) : At4 (w.alloc o) b 0 v :=
  h.wx (Wx.of_below (fun _ => False) ((Below.refl _ _).alloc (Nat.le_refl _) _)) (fun c => c)
theorem at4_drew {w : World} {b : Nat} {v : V4} (h : At4 w b 0 v) : At4 w.drew b 0 v :=
  h.wx (Wx.of_below (fun _ => False) (Below.refl _ _).drew) (fun c => c)
theorem at4_made {w w' : World} {b : Nat} {v : V4} (h : Below (b + 1) (w.alloc (.cells #[.int .i64 v.K, .int .u64 v.N, .string v.S, .int .i64 v.O] 35)) w') (e : w.heap.size = b) : At4 w' b 0 v := by
  subst e
  have hc : ∀ o, w'.cell? ⟨w.heap.size, o, none⟩ = (#[.int .i64 v.K, .int .u64 v.N, .string v.S, .int .i64 v.O] : Array Value)[o]? := fun o => (h.cell (p := ⟨w.heap.size, o, none⟩) (Nat.lt_succ_self _)).trans (World.cell?_alloc_at _ _ _ _ rfl)
  exact ⟨hc 0, hc 1, hc 2, hc 3⟩

theorem s16 {W : World} {a b c d : Nat} {k l v x : V4} (hk : At4 W a 0 k) (hl : At4 W b 0 l) (hv : At4 W c 0 v) (hx : At4 W d 0 x) : W.cell? ⟨a, 0, none⟩ = some (.int .i64 k.K) ∧ W.cell? ⟨a, 1, none⟩ = some (.int .u64 k.N) ∧ W.cell? ⟨a, 2, none⟩ = some (.string k.S) ∧ W.cell? ⟨a, 3, none⟩ = some (.int .i64 k.O) ∧ W.cell? ⟨b, 0, none⟩ = some (.int .i64 l.K) ∧ W.cell? ⟨b, 1, none⟩ = some (.int .u64 l.N) ∧ W.cell? ⟨b, 2, none⟩ = some (.string l.S) ∧ W.cell? ⟨b, 3, none⟩ = some (.int .i64 l.O) ∧ W.cell? ⟨c, 0, none⟩ = some (.int .i64 v.K) ∧ W.cell? ⟨c, 1, none⟩ = some (.int .u64 v.N) ∧ W.cell? ⟨c, 2, none⟩ = some (.string v.S) ∧ W.cell? ⟨c, 3, none⟩ = some (.int .i64 v.O) ∧ W.cell? ⟨d, 0, none⟩ = some (.int .i64 x.K) ∧ W.cell? ⟨d, 1, none⟩ = some (.int .u64 x.N) ∧ W.cell? ⟨d, 2, none⟩ = some (.string x.S) ∧ W.cell? ⟨d, 3, none⟩ = some (.int .i64 x.O) :=
  ⟨hk.c0, hk.c1, hk.c2, hk.c3, hl.c0, hl.c1, hl.c2, hl.c3, hv.c0, hv.c1, hv.c2, hv.c3, hx.c0, hx.c1, hx.c2, hx.c3⟩
theorem keep16x {W w' : World} {a b c d : Nat} {k l v x : V4} {X : Nat → Prop} (h : W.cell? ⟨a, 0, none⟩ = some (.int .i64 k.K) ∧ W.cell? ⟨a, 1, none⟩ = some (.int .u64 k.N) ∧ W.cell? ⟨a, 2, none⟩ = some (.string k.S) ∧ W.cell? ⟨a, 3, none⟩ = some (.int .i64 k.O) ∧ W.cell? ⟨b, 0, none⟩ = some (.int .i64 l.K) ∧ W.cell? ⟨b, 1, none⟩ = some (.int .u64 l.N) ∧ W.cell? ⟨b, 2, none⟩ = some (.string l.S) ∧ W.cell? ⟨b, 3, none⟩ = some (.int .i64 l.O) ∧ W.cell? ⟨c, 0, none⟩ = some (.int .i64 v.K) ∧ W.cell? ⟨c, 1, none⟩ = some (.int .u64 v.N) ∧ W.cell? ⟨c, 2, none⟩ = some (.string v.S) ∧ W.cell? ⟨c, 3, none⟩ = some (.int .i64 v.O) ∧ W.cell? ⟨d, 0, none⟩ = some (.int .i64 x.K) ∧ W.cell? ⟨d, 1, none⟩ = some (.int .u64 x.N) ∧ W.cell? ⟨d, 2, none⟩ = some (.string x.S) ∧ W.cell? ⟨d, 3, none⟩ = some (.int .i64 x.O)) (hw : Wx X W w') (ha : ¬ X a) (hb : ¬ X b) (hc : ¬ X c) (hd : ¬ X d) : w'.cell? ⟨a, 0, none⟩ = some (.int .i64 k.K) ∧ w'.cell? ⟨a, 1, none⟩ = some (.int .u64 k.N) ∧ w'.cell? ⟨a, 2, none⟩ = some (.string k.S) ∧ w'.cell? ⟨a, 3, none⟩ = some (.int .i64 k.O) ∧ w'.cell? ⟨b, 0, none⟩ = some (.int .i64 l.K) ∧ w'.cell? ⟨b, 1, none⟩ = some (.int .u64 l.N) ∧ w'.cell? ⟨b, 2, none⟩ = some (.string l.S) ∧ w'.cell? ⟨b, 3, none⟩ = some (.int .i64 l.O) ∧ w'.cell? ⟨c, 0, none⟩ = some (.int .i64 v.K) ∧ w'.cell? ⟨c, 1, none⟩ = some (.int .u64 v.N) ∧ w'.cell? ⟨c, 2, none⟩ = some (.string v.S) ∧ w'.cell? ⟨c, 3, none⟩ = some (.int .i64 v.O) ∧ w'.cell? ⟨d, 0, none⟩ = some (.int .i64 x.K) ∧ w'.cell? ⟨d, 1, none⟩ = some (.int .u64 x.N) ∧ w'.cell? ⟨d, 2, none⟩ = some (.string x.S) ∧ w'.cell? ⟨d, 3, none⟩ = some (.int .i64 x.O) := by
  obtain ⟨h0, h1, h2, h3, h4, h5, h6, h7, h8, h9, h10, h11, h12, h13, h14, h15⟩ := h
  exact ⟨hw.cell ha h0, hw.cell ha h1, hw.cell ha h2, hw.cell ha h3, hw.cell hb h4, hw.cell hb h5, hw.cell hb h6, hw.cell hb h7, hw.cell hc h8, hw.cell hc h9, hw.cell hc h10, hw.cell hc h11, hw.cell hd h12, hw.cell hd h13, hw.cell hd h14, hw.cell hd h15⟩
theorem Wx.undrew {X : Nat → Prop} {w w' : World} (h : Wx X w.drew w') : Wx X w w' := ⟨h.os, h.tape, h.output, h.size, h.block⟩
theorem Hv.drew {w : World} {hb lim used : Nat} {R : Value} {os : List Ob} {Z : Nat → Prop} (h : Hv w hb lim used R os Z) : Hv w.drew hb lim used R os Z := h.below (Below.refl _ _).drew

/-- The four values lie in blocks that are new. -/
structure Four (w wc : World) (bk bl bv bx : Nat) (k l v x : V4) : Prop where
  k : At4 wc bk 0 k
  l : At4 wc bl 0 l
  v : At4 wc bv 0 v
  x : At4 wc bx 0 x
  b : Below w.heap.size w wc
  ck : w.heap.size ≤ bk
  cl : w.heap.size ≤ bl
  cv : w.heap.size ≤ bv
  cx : w.heap.size ≤ bx

theorem cell_set_some {w : World} {a : Addr} {v : Value} (h : (w.cell? a).isSome = true) : (w.setCell a v).cell? a = some v := by
  obtain ⟨u, hu⟩ := Option.isSome_iff_exists.1 h
  exact World.cell?_setCell_same _ _ _ hu
theorem some_set {w : World} {a b : Addr} {v : Value} (h : (w.cell? b).isSome = true) : ((w.setCell a v).cell? b).isSome = true := by
  by_cases e : b = a
  · subst e; rw [cell_set_some h]; rfl
  · rw [World.cell?_setCell_other _ _ _ _ (fun q => e q.symm)]; exact h
/-- The heap behind the two Sets. -/
structure St5 (w0 : World) (R3 : Value) (t1 t2 : Nat) (wy : World) (u5 : Nat) (x4 x5 : Ob) (Z5 : Nat → Prop) : Prop where
  v : Hv wy w0.heap.size 100 u5 R3 [x4, x5] Z5
  b : Below w0.heap.size w0 wy
  z : ∀ k, Z5 k → w0.heap.size ≤ k ∧ k < wy.heap.size
  x : (x4.tb = some t1 ∧ x4.M = V0 ∧ x4.es.length ≤ 1) ∧ x5.tb = some t2 ∧ x5.M = V0

set_option maxHeartbeats 4000000 in
theorem heapApart_walk (k l v x : V4) (w : World) (db : Db w) (hk : U64 k.N) (hl : U64 l.N) (hv : U64 v.N) (hx : U64 x.N) (hks : k.S.size ≤ 9223372036854775807) (hls : l.S.size ≤ 9223372036854775807) :
    Calls Tryd.prog 5 #[.agg #[.int .i64 k.K, .int .u64 k.N, .string k.S, .int .i64 k.O, .int .i64 l.K, .int .u64 l.N, .string l.S, .int .i64 l.O, .int .i64 v.K, .int .u64 v.N, .string v.S, .int .i64 v.O, .int .i64 x.K, .int .u64 x.N, .string x.S, .int .i64 x.O]] w fun e w' => e = .returned (.bool true) ∧ Below w.heap.size w w' := by
  obtain ⟨W1, hW1⟩ : ∃ W1, W1 = w.alloc (.cells #[.int .i64 k.K, .int .u64 k.N, .string k.S, .int .i64 k.O, .int .i64 l.K, .int .u64 l.N, .string l.S, .int .i64 l.O, .int .i64 v.K, .int .u64 v.N, .string v.S, .int .i64 v.O, .int .i64 x.K, .int .u64 x.N, .string x.S, .int .i64 x.O] 51) := ⟨_, rfl⟩
  have HS : Hid (W1.cell? ⟨w.heap.size, 0, none⟩ = some (.int .i64 k.K) ∧ W1.cell? ⟨w.heap.size, 1, none⟩ = some (.int .u64 k.N) ∧ W1.cell? ⟨w.heap.size, 2, none⟩ = some (.string k.S) ∧ W1.cell? ⟨w.heap.size, 3, none⟩ = some (.int .i64 k.O) ∧ W1.cell? ⟨w.heap.size, 4, none⟩ = some (.int .i64 l.K) ∧ W1.cell? ⟨w.heap.size, 5, none⟩ = some (.int .u64 l.N) ∧ W1.cell? ⟨w.heap.size, 6, none⟩ = some (.string l.S) ∧ W1.cell? ⟨w.heap.size, 7, none⟩ = some (.int .i64 l.O) ∧ W1.cell? ⟨w.heap.size, 8, none⟩ = some (.int .i64 v.K) ∧ W1.cell? ⟨w.heap.size, 9, none⟩ = some (.int .u64 v.N) ∧ W1.cell? ⟨w.heap.size, 10, none⟩ = some (.string v.S) ∧ W1.cell? ⟨w.heap.size, 11, none⟩ = some (.int .i64 v.O) ∧ W1.cell? ⟨w.heap.size, 12, none⟩ = some (.int .i64 x.K) ∧ W1.cell? ⟨w.heap.size, 13, none⟩ = some (.int .u64 x.N) ∧ W1.cell? ⟨w.heap.size, 14, none⟩ = some (.string x.S) ∧ W1.cell? ⟨w.heap.size, 15, none⟩ = some (.int .i64 x.O)) := by
    rw [hW1]
    refine ⟨?_, ?_, ?_, ?_, ?_, ?_, ?_, ?_, ?_, ?_, ?_, ?_, ?_, ?_, ?_, ?_⟩ <;> (rw [World.cell?_alloc_at _ _ _ _ rfl]; rfl)
  have hlt : w.heap.size < W1.heap.size := by rw [hW1]; simp
  have HB : Hid (Below w.heap.size w W1) := by rw [hW1]; exact (Below.refl _ _).alloc (Nat.le_refl _) _
  have hlt' : w.heap.size + 1 ≤ W1.heap.size := hlt
  go_enter Tryd.func5, Tryd.ntmps5
  go_wp2_with fail
  rw [← hW1]
  clear hW1
  go_cut [3, 4, 5, 6] (fun t3 t4 t5 t6 wc => ∃ bk bl bv bx : Nat, t3 = .pointer (some ⟨bk, 0, none⟩) ∧ t4 = .pointer (some ⟨bl, 0, none⟩) ∧ t5 = .pointer (some ⟨bv, 0, none⟩) ∧ t6 = .pointer (some ⟨bx, 0, none⟩) ∧ Hid (Four w wc bk bl bv bx k l v x))
  case first =>
    have hS := HS.out
    go_region_held3 (fun w' => w'.cell? ⟨w.heap.size, 0, none⟩ = some (.int .i64 k.K) ∧ w'.cell? ⟨w.heap.size, 1, none⟩ = some (.int .u64 k.N) ∧ w'.cell? ⟨w.heap.size, 2, none⟩ = some (.string k.S) ∧ w'.cell? ⟨w.heap.size, 3, none⟩ = some (.int .i64 k.O) ∧ w'.cell? ⟨w.heap.size, 4, none⟩ = some (.int .i64 l.K) ∧ w'.cell? ⟨w.heap.size, 5, none⟩ = some (.int .u64 l.N) ∧ w'.cell? ⟨w.heap.size, 6, none⟩ = some (.string l.S) ∧ w'.cell? ⟨w.heap.size, 7, none⟩ = some (.int .i64 l.O) ∧ w'.cell? ⟨w.heap.size, 8, none⟩ = some (.int .i64 v.K) ∧ w'.cell? ⟨w.heap.size, 9, none⟩ = some (.int .u64 v.N) ∧ w'.cell? ⟨w.heap.size, 10, none⟩ = some (.string v.S) ∧ w'.cell? ⟨w.heap.size, 11, none⟩ = some (.int .i64 v.O) ∧ w'.cell? ⟨w.heap.size, 12, none⟩ = some (.int .i64 x.K) ∧ w'.cell? ⟨w.heap.size, 13, none⟩ = some (.int .u64 x.N) ∧ w'.cell? ⟨w.heap.size, 14, none⟩ = some (.string x.S) ∧ w'.cell? ⟨w.heap.size, 15, none⟩ = some (.int .i64 x.O))
      (first
        | exact keep16 HS.out (by repeat (first | exact Below.refl _ _ | apply Below.drew | refine Below.alloc ?_ (by first | omega | (simp; omega) | (simp; done)) _ | refine Below.setCell ?_ (by first | omega | (simp; omega) | (simp; done)) _)))
      (fail)
    all_goals go_wp2_with fail
    all_goals go_meet
    all_goals refine ⟨_, _, _, _, rfl, rfl, rfl, rfl, ⟨?_, ?_, ?_, ?_, ?_, ?_, ?_, ?_, ?_⟩⟩
    all_goals first
      | omega
      | (with_reducible apply at4_drew; repeat (first | (with_reducible refine at4_new' ?_; first | rfl | (simp; done)) | with_reducible apply at4_old))
      | (repeat' (first | with_reducible exact HB.out | with_reducible apply Below.drew | with_reducible refine Below.alloc ?_ ?_ _ | omega | (simp; omega) | (simp; done)))
  case rest =>
    obtain ⟨bk, bl, bv, bx, rfl, rfl, rfl, rfl, HF⟩ := hcut
    obtain ⟨w0, hw0⟩ : ∃ w0, w0 = wc := ⟨_, rfl⟩
    subst hw0
    have hdb : Db w0 := db.wx (Wx.of_below (fun _ => False) HF.out.b) (fun c => c)
    have HL : Hid (∀ w, Db w → Calls Tryd.prog 10 #[] w fun e w' => e = .returned (.bool true) ∧ Below w.heap.size w w') := fun w db => hlives_any w db
    have H1 := hnew_any 100 w0 (by decide) hdb
    have hlk : bk < w0.heap.size := World.block_lt_of_cell? w0 _ HF.out.k.c0
    have hll : bl < w0.heap.size := World.block_lt_of_cell? w0 _ HF.out.l.c0
    have hlv : bv < w0.heap.size := World.block_lt_of_cell? w0 _ HF.out.v.c0
    have hlx : bx < w0.heap.size := World.block_lt_of_cell? w0 _ HF.out.x.c0
    clear hdb db HS HB hlt hlt'
    go_wp2_with fail
    refine H1.mono ?_
    rintro e w1 ⟨rfl, hv1, hb1⟩
    have HT := table_hv hv1 (by decide)
    have HB1 : Hid (Below w0.heap.size w0 w1) := hb1
    clear H1 hv1 hb1
    go_wp2_with fail
    refine HT.mono ?_
    rintro e w2 ⟨rfl, R2, Z2, hv2, hx2, hz2⟩
    have HT := table_hv hv2 (by decide)
    have HB2 : Hid (Below w0.heap.size w0 w2) := HB1.out.trans (hx2.below (fun k hk => by rw [hk]; exact Nat.le_refl _) HB1.out.size)
    have HZ2 : Hid (∀ k, Z2 k → w0.heap.size ≤ k) := fun k hk => by
      rcases hz2 k hk with c | c
      · rw [c]; exact Nat.le_refl _
      · have := HB1.out.size; omega
    clear hv2 hx2 hz2
    go_wp2_with fail
    refine HT.mono ?_
    rintro e w3 ⟨rfl, R3, Z3, hv3, hx3, hz3⟩
    have HB3 : Hid (Below w0.heap.size w0 w3) := HB2.out.trans (hx3.below HZ2.out HB2.out.size)
    have HZ3 : Hid (∀ k, Z3 k → w0.heap.size ≤ k) := fun k hk => by
      rcases hz3 k hk with c | c
      · exact HZ2.out k c
      · have := HB2.out.size; omega
    have HV3 : Hid (Hv w3 w0.heap.size 100 2 R3 [tabO w1.heap.size, tabO w2.heap.size] Z3) := hv3
    have HS3 : Hid _ := s16 (W := w3) (HF.out.k.wx (Wx.of_below (fun _ => False) HB3.out) (fun c => c)) (HF.out.l.wx (Wx.of_below (fun _ => False) HB3.out) (fun c => c)) (HF.out.v.wx (Wx.of_below (fun _ => False) HB3.out) (fun c => c)) (HF.out.x.wx (Wx.of_below (fun _ => False) HB3.out) (fun c => c))
    clear HT hv3 hx3 hz3 HB1 HB2 HZ2
    go_upto_region 7 with fail
    go_cut [13, 14] (fun t13 t14 wy => t13 = .int .i64 (codeOf k) ∧ t14 = .int .i64 (codeOf l) ∧ Hid (∃ u5 x4 x5 Z5, St5 w0 R3 w1.heap.size w2.heap.size wy u5 x4 x5 Z5))
    case first =>
      have hS3 := HS3.out
      go_region_held3 (fun w' => w'.cell? ⟨bk, 0, none⟩ = some (.int .i64 k.K) ∧ w'.cell? ⟨bk, 1, none⟩ = some (.int .u64 k.N) ∧ w'.cell? ⟨bk, 2, none⟩ = some (.string k.S) ∧ w'.cell? ⟨bk, 3, none⟩ = some (.int .i64 k.O) ∧ w'.cell? ⟨bl, 0, none⟩ = some (.int .i64 l.K) ∧ w'.cell? ⟨bl, 1, none⟩ = some (.int .u64 l.N) ∧ w'.cell? ⟨bl, 2, none⟩ = some (.string l.S) ∧ w'.cell? ⟨bl, 3, none⟩ = some (.int .i64 l.O) ∧ w'.cell? ⟨bv, 0, none⟩ = some (.int .i64 v.K) ∧ w'.cell? ⟨bv, 1, none⟩ = some (.int .u64 v.N) ∧ w'.cell? ⟨bv, 2, none⟩ = some (.string v.S) ∧ w'.cell? ⟨bv, 3, none⟩ = some (.int .i64 v.O) ∧ w'.cell? ⟨bx, 0, none⟩ = some (.int .i64 x.K) ∧ w'.cell? ⟨bx, 1, none⟩ = some (.int .u64 x.N) ∧ w'.cell? ⟨bx, 2, none⟩ = some (.string x.S) ∧ w'.cell? ⟨bx, 3, none⟩ = some (.int .i64 x.O))
        (first
          | exact keep16x (by assumption) hx5 (fun c => by have := HZ4.out _ c; omega) (fun c => by have := HZ4.out _ c; omega) (fun c => by have := HZ4.out _ c; omega) (fun c => by have := HZ4.out _ c; omega)
          | exact keep16x (by assumption) hx4 (fun c => by have := HZ3.out _ c; omega) (fun c => by have := HZ3.out _ c; omega) (fun c => by have := HZ3.out _ c; omega) (fun c => by have := HZ3.out _ c; omega)
          | exact hS3)
        (first
          | (go_at_call 12; refine (set_fresh HV4.out (i := 1) rfl rfl rfl rfl _ rfl l x hl hx hls (by omega)).mono ?_; rintro e w5 ⟨rfl, u5, x5, Z5, hv5, hu5, ht5, hm5, he5, hx5, hz5⟩)
          | (go_at_call 12; refine (set_fresh HV3.out.drew (i := 0) rfl rfl rfl rfl _ rfl k v hk hv hks (by decide)).mono ?_; rintro e w4 ⟨rfl, u4, x4, Z4, hv4, hu4, ht4, hm4, he4, hx4, hz4⟩; have HZ4 : Hid (∀ k, Z4 k → w0.heap.size ≤ k) := (fun k hk => by
              rcases hz4 k hk with c | c
              · exact HZ3.out k c
              · have h1 := HB3.out.size
                have h2 : w3.heap.size ≤ k := c
                omega); have HV4 : Hid (Hv w4 w0.heap.size 100 u4 R3 [x4, tabO w2.heap.size] Z4) := hv4))
      have HB4 : Hid (Below w0.heap.size w0 w4) := HB3.out.trans (hx4.undrew.below HZ3.out HB3.out.size)
      have HB5 : Hid (Below w0.heap.size w0 w5) := HB4.out.trans (hx5.below HZ4.out HB4.out.size)
      go_wp2_with fail
      go_meet
      exact ⟨rfl, rfl, u5, x4, x5, Z5, hv5, HB5.out, fun k hk => ⟨by
        rcases hz5 k hk with c | c
        · exact HZ4.out k c
        · have := HB4.out.size; omega, hv5.lt k hk⟩, ⟨⟨ht4, hm4, he4⟩, ht5, hm5⟩⟩
    case rest =>
    obtain ⟨rfl, rfl, HST⟩ := hcut
    obtain ⟨u5, x4, x5, Z5, hst⟩ := HST.out
    obtain ⟨w5, hw5⟩ : ∃ w5, w5 = wc := ⟨_, rfl⟩
    subst hw5
    have HB5 : Hid (Below w0.heap.size w0 w5) := hst.b
    have HZ5 : Hid (∀ k, Z5 k → w0.heap.size ≤ k ∧ k < w5.heap.size) := hst.z
    have HV5 : Hid (Hv w5 w0.heap.size 100 u5 R3 [x4, x5] Z5) := hst.v
    have HX : Hid ((x4.tb = some w1.heap.size ∧ x4.M = V0 ∧ x4.es.length ≤ 1) ∧ x5.tb = some w2.heap.size ∧ x5.M = V0) := hst.x
    have HL5 : Hid (At4 w5 bl 0 l) := HF.out.l.wx (Wx.of_below (fun _ => False) HB5.out) (fun c => c)
    clear hst HST HV3 HZ3 HB3 HS3
    go_upto_region 8 with fail
    go_cut [69] (fun t wy => t = .bool false ∧ wy = w5)
    case first =>
      rcases codeOf_01 k with ck | ck <;> rcases codeOf_01 l with cl | cl
      all_goals go_wp2_with fail
      all_goals go_meet
      all_goals exact ⟨rfl, rfl⟩
    case rest =>
      obtain ⟨rfl, hwy⟩ := hcut
      have hwy' := hwy.symm
      subst hwy'
      clear hwy
      obtain ⟨G, hG⟩ : ∃ G : Int → V4, ∀ o, getV [x4, x5] o l.K l.N l.S l.O = G o := ⟨fun o => getV [x4, x5] o l.K l.N l.S l.O, fun _ => rfl⟩
      have HG : Hid (∀ o w', Below w5.heap.size w5 w' → Calls Tryd.prog 16 #[.pointer (some ⟨w0.heap.size, 0, none⟩), .int .i64 o, .agg #[.int .i64 l.K, .int .u64 l.N, .string l.S, .int .i64 l.O]] w' fun e w2 => e = .returned (.agg #[.int .i64 (G o).K, .int .u64 (G o).N, .string (G o).S, .int .i64 (G o).O]) ∧ Below w'.heap.size w' w2) := fun o w' hb' => by
        have := get_hv (HV5.out.below hb') o l.K l.N l.S l.O hl hls
        rw [hG] at this; exact this
      have HK1 : Hid (∀ w', Below w5.heap.size w5 w' → Calls Tryd.prog 17 #[.pointer (some ⟨w0.heap.size, 0, none⟩), .int .i64 1, .agg #[.int .i64 l.K, .int .u64 l.N, .string l.S, .int .i64 l.O]] w' fun e w2 => e = .returned (.agg #[.int .i64 (G 1).K, .int .u64 (G 1).N, .string (G 1).S, .int .i64 (G 1).O]) ∧ Below w'.heap.size w' w2) := fun w' hb' => by
        have := look_hv (HV5.out.below hb') 1 l.K l.N l.S l.O hl hls
        rw [show lookV [x4, x5] 1 l.K l.N l.S l.O = G 1 from (look_plain (os := [x4, x5]) (i := 0) rfl HX.out.1.1 HX.out.1.2.1 l.K l.N l.S l.O).trans (hG 1)] at this; exact this
      have HQ : Hid (∀ o, getV [x4, x5] o l.K l.N l.S l.O = G o) := hG
      clear hG
      have hS5 : w5.cell? ⟨bl, 0, none⟩ = some (.int .i64 l.K) ∧ w5.cell? ⟨bl, 1, none⟩ = some (.int .u64 l.N) ∧ w5.cell? ⟨bl, 2, none⟩ = some (.string l.S) ∧ w5.cell? ⟨bl, 3, none⟩ = some (.int .i64 l.O) := ⟨HL5.out.c0, HL5.out.c1, HL5.out.c2, HL5.out.c3⟩
      have HS5 : Hid (w5.cell? ⟨bl, 0, none⟩ = some (.int .i64 l.K) ∧ w5.cell? ⟨bl, 1, none⟩ = some (.int .u64 l.N) ∧ w5.cell? ⟨bl, 2, none⟩ = some (.string l.S) ∧ w5.cell? ⟨bl, 3, none⟩ = some (.int .i64 l.O)) := hS5
      clear hS5
      go_upto_region 10 with fail
      go_cut [15, 16] (fun t15 t16 wy => ∃ bh bo : Nat, t15 = .pointer (some ⟨bh, 0, none⟩) ∧ t16 = .pointer (some ⟨bo, 0, none⟩) ∧ Hid (At4 wy bh 0 (G 1) ∧ At4 wy bo 0 (G 2) ∧ Below w5.heap.size w5 wy ∧ w5.heap.size ≤ bh ∧ w5.heap.size ≤ bo))
      case first =>
        have hS5 := HS5.out
        go_region_held3 (fun w' => w'.cell? ⟨bl, 0, none⟩ = some (.int .i64 l.K) ∧ w'.cell? ⟨bl, 1, none⟩ = some (.int .u64 l.N) ∧ w'.cell? ⟨bl, 2, none⟩ = some (.string l.S) ∧ w'.cell? ⟨bl, 3, none⟩ = some (.int .i64 l.O))
          (exact keep4 HS5.out (by repeat' (first | with_reducible assumption | with_reducible exact Below.refl _ _ | with_reducible apply Below.drew | with_reducible refine Below.setCell ?_ ?_ _ | with_reducible refine Below.alloc ?_ ?_ _ | omega | (simp; omega) | (simp; done))))
          (first
            | (have h6 := hb6; clear h6; go_at_call 16; refine (HG.out _ _ (by repeat' (first | with_reducible assumption | with_reducible exact Below.refl _ _ | with_reducible apply Below.drew | with_reducible refine Below.setCell ?_ ?_ _ | with_reducible refine Below.alloc ?_ ?_ _ | omega | (simp; omega) | (simp; done)))).mono ?_; rintro e w7 ⟨rfl, hb7⟩; have hs7a := hb7.size; (try simp at hs7a); obtain ⟨hc7, hf7⟩ := bcell hb7; (try (refine (fun (qw70 : w5.heap.size < w7.heap.size) => ?_) ?_; rotate_left; omega)); (try (refine (fun (qw71 : w5.heap.size + 1 < w7.heap.size) => ?_) ?_; rotate_left; omega)); (try (refine (fun (qw72 : w6.heap.size < w7.heap.size) => ?_) ?_; rotate_left; omega)); (try (refine (fun (qw73 : w6.heap.size + 1 < w7.heap.size) => ?_) ?_; rotate_left; omega)); replace hb7 := Below.trans (show Below w5.heap.size w5 _ from (by repeat' (first | with_reducible assumption | with_reducible exact Below.refl _ _ | with_reducible apply Below.drew | with_reducible refine Below.setCell ?_ ?_ _ | with_reducible refine Below.alloc ?_ ?_ _ | omega | (simp; omega) | (simp; done)))) (hb7.mono (by first | assumption | omega | (simp; omega) | (simp; done))); have hs7 := hb7.size)
            | (go_at_call 16; refine (HG.out _ _ (by repeat' (first | with_reducible assumption | with_reducible exact Below.refl _ _ | with_reducible apply Below.drew | with_reducible refine Below.setCell ?_ ?_ _ | with_reducible refine Below.alloc ?_ ?_ _ | omega | (simp; omega) | (simp; done)))).mono ?_; rintro e w6 ⟨rfl, hb6⟩; have hs6a := hb6.size; (try simp at hs6a); obtain ⟨hc6, hf6⟩ := bcell hb6; (try (refine (fun (qw60 : w5.heap.size < w6.heap.size) => ?_) ?_; rotate_left; omega)); (try (refine (fun (qw61 : w5.heap.size + 1 < w6.heap.size) => ?_) ?_; rotate_left; omega)); replace hb6 := Below.trans (show Below w5.heap.size w5 _ from (by repeat' (first | with_reducible assumption | with_reducible exact Below.refl _ _ | with_reducible apply Below.drew | with_reducible refine Below.setCell ?_ ?_ _ | with_reducible refine Below.alloc ?_ ?_ _ | omega | (simp; omega) | (simp; done)))) (hb6.mono (by first | assumption | omega | (simp; omega) | (simp; done))); have hs6 := hb6.size))
        all_goals go_wp2_with fail
        all_goals go_meet
        all_goals refine ⟨_, _, rfl, rfl, ⟨⟨?_, ?_, ?_, ?_⟩, ⟨?_, ?_, ?_, ?_⟩, ?_, ?_, ?_⟩⟩
        all_goals first
          | with_reducible assumption
          | omega
          | (with_reducible refine Below.setCell ?_ ?_ _; repeat' (first | with_reducible assumption | with_reducible exact Below.refl _ _ | with_reducible apply Below.drew | with_reducible refine Below.setCell ?_ ?_ _ | with_reducible refine Below.alloc ?_ ?_ _ | omega | (simp; omega) | (simp; done)))
          | (with_reducible refine Below.alloc ?_ ?_ _; repeat' (first | with_reducible assumption | with_reducible exact Below.refl _ _ | with_reducible apply Below.drew | with_reducible refine Below.setCell ?_ ?_ _ | with_reducible refine Below.alloc ?_ ?_ _ | omega | (simp; omega) | (simp; done)))
          | (with_reducible refine Below.drew ?_; repeat' (first | with_reducible assumption | with_reducible exact Below.refl _ _ | with_reducible apply Below.drew | with_reducible refine Below.setCell ?_ ?_ _ | with_reducible refine Below.alloc ?_ ?_ _ | omega | (simp; omega) | (simp; done)))
          | ((try simp only [Nat.zero_add]); go_simp; done)
          | ((try simp only [Nat.zero_add]); go_simp; refine cell_set_some ?_; (repeat refine some_set ?_); rw [hc7 _ _ (by first | omega | (simp; omega) | (simp; done))]; go_simp; done)
          | ((try simp only [Nat.zero_add]); go_simp; refine cell_set_some ?_; (repeat refine some_set ?_); rw [hc7 _ _ (by first | omega | (simp; omega) | (simp; done)), hc6 _ _ (by first | omega | (simp; omega) | (simp; done))]; go_simp; done)
          | ((try simp only [Nat.zero_add]); go_simp; refine cell_set_some ?_; (repeat refine some_set ?_); rw [hc6 _ _ (by first | omega | (simp; omega) | (simp; done))]; go_simp; done)
      case rest =>
        obtain ⟨bh, bo, rfl, rfl, HO⟩ := hcut
        obtain ⟨w8, hw8⟩ : ∃ w8, w8 = wc := ⟨_, rfl⟩
        subst hw8
        have HB8 : Hid (Below w5.heap.size w5 w8) := HO.out.2.2.1
        have plat : At4 w8 bl 0 l := HL5.out.wx (Wx.of_below (fun _ => False) HB8.out) (fun c => c)
        have phat : At4 w8 bh 0 (G 1) := HO.out.1
        have poat : At4 w8 bo 0 (G 2) := HO.out.2.1
        have pllt : bl < w8.heap.size := World.block_lt_of_cell? w8 _ plat.c0
        have phlt : bh < w8.heap.size := World.block_lt_of_cell? w8 _ phat.c0
        have polt : bo < w8.heap.size := World.block_lt_of_cell? w8 _ poat.c0
        have pl0 : ∀ p : BelowOf w8, p.u.cell? ⟨bl, 0, none⟩ = some (.int .i64 l.K) := fun p => (p.h.cell (p := ⟨bl, 0, none⟩) pllt).trans plat.c0
        have pl1 : ∀ p : BelowOf w8, p.u.cell? ⟨bl, 1, none⟩ = some (.int .u64 l.N) := fun p => (p.h.cell (p := ⟨bl, 1, none⟩) pllt).trans plat.c1
        have pl2 : ∀ p : BelowOf w8, p.u.cell? ⟨bl, 2, none⟩ = some (.string l.S) := fun p => (p.h.cell (p := ⟨bl, 2, none⟩) pllt).trans plat.c2
        have pl3 : ∀ p : BelowOf w8, p.u.cell? ⟨bl, 3, none⟩ = some (.int .i64 l.O) := fun p => (p.h.cell (p := ⟨bl, 3, none⟩) pllt).trans plat.c3
        have ph0 : ∀ p : BelowOf w8, p.u.cell? ⟨bh, 0, none⟩ = some (.int .i64 (G 1).K) := fun p => (p.h.cell (p := ⟨bh, 0, none⟩) phlt).trans phat.c0
        have ph1 : ∀ p : BelowOf w8, p.u.cell? ⟨bh, 1, none⟩ = some (.int .u64 (G 1).N) := fun p => (p.h.cell (p := ⟨bh, 1, none⟩) phlt).trans phat.c1
        have ph2 : ∀ p : BelowOf w8, p.u.cell? ⟨bh, 2, none⟩ = some (.string (G 1).S) := fun p => (p.h.cell (p := ⟨bh, 2, none⟩) phlt).trans phat.c2
        have ph3 : ∀ p : BelowOf w8, p.u.cell? ⟨bh, 3, none⟩ = some (.int .i64 (G 1).O) := fun p => (p.h.cell (p := ⟨bh, 3, none⟩) phlt).trans phat.c3
        have HK1p : Hid (∀ p : BelowOf w8, Calls Tryd.prog 17 #[.pointer (some ⟨w0.heap.size, 0, none⟩), .int .i64 1, .agg #[.int .i64 l.K, .int .u64 l.N, .string l.S, .int .i64 l.O]] p.u fun e w2 => e = .returned (.agg #[.int .i64 (G 1).K, .int .u64 (G 1).N, .string (G 1).S, .int .i64 (G 1).O]) ∧ Below p.u.heap.size p.u w2) := fun p => HK1.out p.u (HB8.out.trans (p.h.mono HB8.out.size))
        have hInh : Inhabited (BelowOf w8) := ⟨⟨w8, Below.refl _ _⟩⟩
        have HP : Hid (At4 w8 bl 0 l ∧ At4 w8 bh 0 (G 1) ∧ At4 w8 bo 0 (G 2)) := ⟨plat, phat, poat⟩
        clear plat phat poat HS5 HL5 HG
        go_upto_region 11 with fail
        refine wp_region_below (by kernel_rfl) (by kernel_rfl) ?_
        repeat (quiet_step (fail))
        quiet_step ((go_at_call 17; exact below_of (HK1p.out _)))
        repeat (quiet_step (fail))
        refine wpQuiet_nil ?_
        intro wq hw'
        obtain ⟨⟨wq2, hwq⟩, hw''⟩ := hw'
        have hw3 : wq = wq2 := hw''
        clear hw''
        subst hw3
        clear pl0 pl1 pl2 pl3 ph0 ph1 ph2 ph3 HK1p HK1 hInh
        have HBq : Hid (Below w5.heap.size w5 wq) := HB8.out.trans (hwq.mono HB8.out.size)
        have HPq : Hid (At4 wq bl 0 l ∧ At4 wq bh 0 (G 1) ∧ At4 wq bo 0 (G 2)) := ⟨HP.out.1.wx (Wx.of_below (fun _ => False) hwq) (fun c => c), HP.out.2.1.wx (Wx.of_below (fun _ => False) hwq) (fun c => c), HP.out.2.2.wx (Wx.of_below (fun _ => False) hwq) (fun c => c)⟩
        clear hwq HP
        have HSM := SetMeta_tab (HV5.out.below HBq.out) (i := 0) (j := 1) rfl HX.out.1.1 rfl HX.out.2.1 1 2 rfl rfl
        go_wp2_with fail
        refine HSM.mono ?_
        rintro e w9 ⟨rfl, hv9, hx9⟩
        have HV9 : Hid (Hv w9 w0.heap.size 100 u5 R3 [{ x4 with M := ⟨5, 0, ⟨#[]⟩, 2⟩ }, x5] Z5) := hv9
        have nbl : ¬ Z5 bl := fun c => by have := (HZ5.out _ c).1; omega
        have nbh : ¬ Z5 bh := fun c => by have := (HZ5.out _ c).2; have := HO.out.2.2.2.1; omega
        have nbo : ¬ Z5 bo := fun c => by have := (HZ5.out _ c).2; have := HO.out.2.2.2.2; omega
        have HP9 : Hid (At4 w9 bl 0 l ∧ At4 w9 bh 0 (G 1) ∧ At4 w9 bo 0 (G 2)) := ⟨HPq.out.1.wx hx9 nbl, HPq.out.2.1.wx hx9 nbh, HPq.out.2.2.wx hx9 nbo⟩
        have HB9 : Hid (Below w0.heap.size w0 w9) := (HB5.out.trans (HBq.out.mono HB5.out.size)).trans (hx9.below (fun k hk => (HZ5.out k hk).1) (by have := HB5.out.size; have := HBq.out.size; omega))
        obtain ⟨sn, hsn, hSz⟩ := size_few HV9.out (i := 0) rfl (show ({ x4 with M := ⟨5, 0, ⟨#[]⟩, 2⟩ } : Ob).tb = _ from HX.out.1.1) HX.out.1.2.2 1 rfl
        have HSz : Hid _ := hSz
        clear hSz HSM hv9 hx9 HPq HBq HB8 HO HV5 nbl nbh nbo
        obtain ⟨h90, h91, h92, h93⟩ : (w9.cell? ⟨bh, 0, none⟩ = some (.int .i64 (G 1).K) ∧ w9.cell? ⟨bh, 1, none⟩ = some (.int .u64 (G 1).N) ∧ w9.cell? ⟨bh, 2, none⟩ = some (.string (G 1).S) ∧ w9.cell? ⟨bh, 3, none⟩ = some (.int .i64 (G 1).O)) := ⟨HP9.out.2.1.c0, HP9.out.2.1.c1, HP9.out.2.1.c2, HP9.out.2.1.c3⟩
        obtain ⟨o90, o91, o92, o93⟩ : (w9.cell? ⟨bo, 0, none⟩ = some (.int .i64 (G 2).K) ∧ w9.cell? ⟨bo, 1, none⟩ = some (.int .u64 (G 2).N) ∧ w9.cell? ⟨bo, 2, none⟩ = some (.string (G 2).S) ∧ w9.cell? ⟨bo, 3, none⟩ = some (.int .i64 (G 2).O)) := ⟨HP9.out.2.2.c0, HP9.out.2.2.c1, HP9.out.2.2.c2, HP9.out.2.2.c3⟩
        have lbl : bl < w9.heap.size := World.block_lt_of_cell? w9 _ HP9.out.1.c0
        have lbh : bh < w9.heap.size := World.block_lt_of_cell? w9 _ h90
        have lbo : bo < w9.heap.size := World.block_lt_of_cell? w9 _ o90
        have HW : Hid (lookV [{ x4 with M := ⟨5, 0, ⟨#[]⟩, 2⟩ }, x5] 1 l.K l.N l.S l.O = if (G 1).K = 0 then G 2 else G 1) := by
          have := apart_look HX.out.1.1 HX.out.2.1 HX.out.2.2 l.K l.N l.S l.O
          rw [HQ.out, HQ.out] at this; exact this
        have HGG : Hid (getV [{ x4 with M := ⟨5, 0, ⟨#[]⟩, 2⟩ }, x5] 1 l.K l.N l.S l.O = G 1) := (apart_get HX.out.1.1 _ l.K l.N l.S l.O).trans (HQ.out 1)
        by_cases g0 : (G 1).K = 0
        · obtain ⟨w10, hw10⟩ : ∃ w10, w10 = w9.alloc (.cells #[.int .i64 (G 2).K, .int .u64 (G 2).N, .string (G 2).S, .int .i64 (G 2).O] 35) := ⟨_, rfl⟩
          have hb10 : Below w9.heap.size w9 w10 := by rw [hw10]; exact (Below.refl _ _).alloc (Nat.le_refl _) _
          have pwat : At4 w10 w9.heap.size 0 (G 2) := by
            rw [hw10]
            exact ⟨World.cell?_alloc_at _ _ _ _ rfl, World.cell?_alloc_at _ _ _ _ rfl, World.cell?_alloc_at _ _ _ _ rfl, World.cell?_alloc_at _ _ _ _ rfl⟩
          have HW10 : Hid (w9.alloc (.cells #[.int .i64 (G 2).K, .int .u64 (G 2).N, .string (G 2).S, .int .i64 (G 2).O] 35) = w10) := hw10.symm
          clear hw10
          go_upto_region 18 with fail
          rw [HW10.out]
          clear HW10
          have plat : At4 w10 bl 0 l := HP9.out.1.wx (Wx.of_below (fun _ => False) hb10) (fun c => c)
          have phat : At4 w10 bh 0 (G 1) := HP9.out.2.1.wx (Wx.of_below (fun _ => False) hb10) (fun c => c)
          have pllt : bl < w10.heap.size := World.block_lt_of_cell? w10 _ plat.c0
          have phlt : bh < w10.heap.size := World.block_lt_of_cell? w10 _ phat.c0
          have pwlt : w9.heap.size < w10.heap.size := World.block_lt_of_cell? w10 _ pwat.c0
          have pl0 : ∀ p : BelowOf w10, p.u.cell? ⟨bl, 0, none⟩ = some (.int .i64 l.K) := fun p => (p.h.cell (p := ⟨bl, 0, none⟩) pllt).trans plat.c0
          have pl1 : ∀ p : BelowOf w10, p.u.cell? ⟨bl, 1, none⟩ = some (.int .u64 l.N) := fun p => (p.h.cell (p := ⟨bl, 1, none⟩) pllt).trans plat.c1
          have pl2 : ∀ p : BelowOf w10, p.u.cell? ⟨bl, 2, none⟩ = some (.string l.S) := fun p => (p.h.cell (p := ⟨bl, 2, none⟩) pllt).trans plat.c2
          have pl3 : ∀ p : BelowOf w10, p.u.cell? ⟨bl, 3, none⟩ = some (.int .i64 l.O) := fun p => (p.h.cell (p := ⟨bl, 3, none⟩) pllt).trans plat.c3
          have ph0 : ∀ p : BelowOf w10, p.u.cell? ⟨bh, 0, none⟩ = some (.int .i64 (G 1).K) := fun p => (p.h.cell (p := ⟨bh, 0, none⟩) phlt).trans phat.c0
          have ph1 : ∀ p : BelowOf w10, p.u.cell? ⟨bh, 1, none⟩ = some (.int .u64 (G 1).N) := fun p => (p.h.cell (p := ⟨bh, 1, none⟩) phlt).trans phat.c1
          have ph2 : ∀ p : BelowOf w10, p.u.cell? ⟨bh, 2, none⟩ = some (.string (G 1).S) := fun p => (p.h.cell (p := ⟨bh, 2, none⟩) phlt).trans phat.c2
          have ph3 : ∀ p : BelowOf w10, p.u.cell? ⟨bh, 3, none⟩ = some (.int .i64 (G 1).O) := fun p => (p.h.cell (p := ⟨bh, 3, none⟩) phlt).trans phat.c3
          have pw0 : ∀ p : BelowOf w10, p.u.cell? ⟨w9.heap.size, 0, none⟩ = some (.int .i64 (G 2).K) := fun p => (p.h.cell (p := ⟨w9.heap.size, 0, none⟩) pwlt).trans pwat.c0
          have pw1 : ∀ p : BelowOf w10, p.u.cell? ⟨w9.heap.size, 1, none⟩ = some (.int .u64 (G 2).N) := fun p => (p.h.cell (p := ⟨w9.heap.size, 1, none⟩) pwlt).trans pwat.c1
          have pw2 : ∀ p : BelowOf w10, p.u.cell? ⟨w9.heap.size, 2, none⟩ = some (.string (G 2).S) := fun p => (p.h.cell (p := ⟨w9.heap.size, 2, none⟩) pwlt).trans pwat.c2
          have pw3 : ∀ p : BelowOf w10, p.u.cell? ⟨w9.heap.size, 3, none⟩ = some (.int .i64 (G 2).O) := fun p => (p.h.cell (p := ⟨w9.heap.size, 3, none⟩) pwlt).trans pwat.c3
          have HK2 : Hid (∀ p : BelowOf w10, Calls Tryd.prog 17 #[.pointer (some ⟨w0.heap.size, 0, none⟩), .int .i64 1, .agg #[.int .i64 l.K, .int .u64 l.N, .string l.S, .int .i64 l.O]] p.u fun e w2 => e = .returned (.agg #[.int .i64 (G 2).K, .int .u64 (G 2).N, .string (G 2).S, .int .i64 (G 2).O]) ∧ Below p.u.heap.size p.u w2) := fun p => by
            have := look_hv (HV9.out.below (hb10.trans (p.h.mono hb10.size))) 1 l.K l.N l.S l.O hl hls
            rw [HW.out, if_pos g0] at this; exact this
          have HG2 : Hid (∀ p : BelowOf w10, Calls Tryd.prog 16 #[.pointer (some ⟨w0.heap.size, 0, none⟩), .int .i64 1, .agg #[.int .i64 l.K, .int .u64 l.N, .string l.S, .int .i64 l.O]] p.u fun e w2 => e = .returned (.agg #[.int .i64 (G 1).K, .int .u64 (G 1).N, .string (G 1).S, .int .i64 (G 1).O]) ∧ Below p.u.heap.size p.u w2) := fun p => by
            have := get_hv (HV9.out.below (hb10.trans (p.h.mono hb10.size))) 1 l.K l.N l.S l.O hl hls
            rw [HGG.out] at this; exact this
          have HS2 : Hid (∀ p : BelowOf w10, Calls Tryd.prog 15 #[.pointer (some ⟨w0.heap.size, 0, none⟩), .int .i64 1] p.u fun e w2 => e = .returned (.int .i64 (sn : Int)) ∧ Below p.u.heap.size p.u w2) := fun p => HSz.out p.u (hb10.trans (p.h.mono hb10.size))
          have HL2 : Hid (∀ p : BelowOf w10, Calls Tryd.prog 10 #[] p.u fun e w2 => e = .returned (.bool true) ∧ Below p.u.heap.size p.u w2) := fun p => HL.out p.u (HV9.out.below (hb10.trans (p.h.mono hb10.size))).db
          have hsi : (sn : Int) ≤ 1 := by omega
          have hsd : decide ((sn : Int) ≤ 1) = true := decide_eq_true hsi
          have hInh : Inhabited (BelowOf w10) := ⟨⟨w10, Below.refl _ _⟩⟩
          have HBe : Hid (Below w.heap.size w w10) := HF.out.b.trans ((HB9.out.mono HF.out.b.size).trans (hb10.mono (by have := HF.out.b.size; have := HB9.out.size; omega)))
          clear plat phat pwat HV9 HP9 HW HGG HSz HL h90 h91 h92 h93 o90 o91 o92 o93 HB9 hb10
          refine wp_region_below (by kernel_rfl) (by kernel_rfl) ?_
          repeat (quiet_step (fail))
          quiet_step ((go_at_call 17; exact below_of (HK2.out _)))
          repeat (quiet_step (fail))
          quiet_step ((go_at_call 16; exact below_of (HG2.out _)))
          repeat (quiet_step (fail))
          quiet_step ((go_at_call 15; exact below_of (HS2.out _)))
          repeat (quiet_step (fail))
          quiet_step ((go_at_call 10; exact below_of (HL2.out _)))
          repeat (quiet_step (fail))
          refine wpQuiet_nil ?_
          intro wz hw'
          obtain ⟨⟨wz2, hwz⟩, hw''⟩ := hw'
          have hw3 : wz = wz2 := hw''
          clear hw''
          subst hw3
          go_wp2
          go_ret
          exact ⟨rfl, HBe.out.trans (hwz.mono HBe.out.size)⟩
        · obtain ⟨w10, hw10⟩ : ∃ w10, w10 = w9.alloc (.cells #[.int .i64 (G 1).K, .int .u64 (G 1).N, .string (G 1).S, .int .i64 (G 1).O] 35) := ⟨_, rfl⟩
          have hb10 : Below w9.heap.size w9 w10 := by rw [hw10]; exact (Below.refl _ _).alloc (Nat.le_refl _) _
          have pwat : At4 w10 w9.heap.size 0 (G 1) := by
            rw [hw10]
            exact ⟨World.cell?_alloc_at _ _ _ _ rfl, World.cell?_alloc_at _ _ _ _ rfl, World.cell?_alloc_at _ _ _ _ rfl, World.cell?_alloc_at _ _ _ _ rfl⟩
          have HW10 : Hid (w9.alloc (.cells #[.int .i64 (G 1).K, .int .u64 (G 1).N, .string (G 1).S, .int .i64 (G 1).O] 35) = w10) := hw10.symm
          clear hw10
          go_upto_region 18 with fail
          rw [HW10.out]
          clear HW10
          have plat : At4 w10 bl 0 l := HP9.out.1.wx (Wx.of_below (fun _ => False) hb10) (fun c => c)
          have phat : At4 w10 bh 0 (G 1) := HP9.out.2.1.wx (Wx.of_below (fun _ => False) hb10) (fun c => c)
          have pllt : bl < w10.heap.size := World.block_lt_of_cell? w10 _ plat.c0
          have phlt : bh < w10.heap.size := World.block_lt_of_cell? w10 _ phat.c0
          have pwlt : w9.heap.size < w10.heap.size := World.block_lt_of_cell? w10 _ pwat.c0
          have pl0 : ∀ p : BelowOf w10, p.u.cell? ⟨bl, 0, none⟩ = some (.int .i64 l.K) := fun p => (p.h.cell (p := ⟨bl, 0, none⟩) pllt).trans plat.c0
          have pl1 : ∀ p : BelowOf w10, p.u.cell? ⟨bl, 1, none⟩ = some (.int .u64 l.N) := fun p => (p.h.cell (p := ⟨bl, 1, none⟩) pllt).trans plat.c1
          have pl2 : ∀ p : BelowOf w10, p.u.cell? ⟨bl, 2, none⟩ = some (.string l.S) := fun p => (p.h.cell (p := ⟨bl, 2, none⟩) pllt).trans plat.c2
          have pl3 : ∀ p : BelowOf w10, p.u.cell? ⟨bl, 3, none⟩ = some (.int .i64 l.O) := fun p => (p.h.cell (p := ⟨bl, 3, none⟩) pllt).trans plat.c3
          have ph0 : ∀ p : BelowOf w10, p.u.cell? ⟨bh, 0, none⟩ = some (.int .i64 (G 1).K) := fun p => (p.h.cell (p := ⟨bh, 0, none⟩) phlt).trans phat.c0
          have ph1 : ∀ p : BelowOf w10, p.u.cell? ⟨bh, 1, none⟩ = some (.int .u64 (G 1).N) := fun p => (p.h.cell (p := ⟨bh, 1, none⟩) phlt).trans phat.c1
          have ph2 : ∀ p : BelowOf w10, p.u.cell? ⟨bh, 2, none⟩ = some (.string (G 1).S) := fun p => (p.h.cell (p := ⟨bh, 2, none⟩) phlt).trans phat.c2
          have ph3 : ∀ p : BelowOf w10, p.u.cell? ⟨bh, 3, none⟩ = some (.int .i64 (G 1).O) := fun p => (p.h.cell (p := ⟨bh, 3, none⟩) phlt).trans phat.c3
          have pw0 : ∀ p : BelowOf w10, p.u.cell? ⟨w9.heap.size, 0, none⟩ = some (.int .i64 (G 1).K) := fun p => (p.h.cell (p := ⟨w9.heap.size, 0, none⟩) pwlt).trans pwat.c0
          have pw1 : ∀ p : BelowOf w10, p.u.cell? ⟨w9.heap.size, 1, none⟩ = some (.int .u64 (G 1).N) := fun p => (p.h.cell (p := ⟨w9.heap.size, 1, none⟩) pwlt).trans pwat.c1
          have pw2 : ∀ p : BelowOf w10, p.u.cell? ⟨w9.heap.size, 2, none⟩ = some (.string (G 1).S) := fun p => (p.h.cell (p := ⟨w9.heap.size, 2, none⟩) pwlt).trans pwat.c2
          have pw3 : ∀ p : BelowOf w10, p.u.cell? ⟨w9.heap.size, 3, none⟩ = some (.int .i64 (G 1).O) := fun p => (p.h.cell (p := ⟨w9.heap.size, 3, none⟩) pwlt).trans pwat.c3
          have HK2 : Hid (∀ p : BelowOf w10, Calls Tryd.prog 17 #[.pointer (some ⟨w0.heap.size, 0, none⟩), .int .i64 1, .agg #[.int .i64 l.K, .int .u64 l.N, .string l.S, .int .i64 l.O]] p.u fun e w2 => e = .returned (.agg #[.int .i64 (G 1).K, .int .u64 (G 1).N, .string (G 1).S, .int .i64 (G 1).O]) ∧ Below p.u.heap.size p.u w2) := fun p => by
            have := look_hv (HV9.out.below (hb10.trans (p.h.mono hb10.size))) 1 l.K l.N l.S l.O hl hls
            rw [HW.out, if_neg g0] at this; exact this
          have HG2 : Hid (∀ p : BelowOf w10, Calls Tryd.prog 16 #[.pointer (some ⟨w0.heap.size, 0, none⟩), .int .i64 1, .agg #[.int .i64 l.K, .int .u64 l.N, .string l.S, .int .i64 l.O]] p.u fun e w2 => e = .returned (.agg #[.int .i64 (G 1).K, .int .u64 (G 1).N, .string (G 1).S, .int .i64 (G 1).O]) ∧ Below p.u.heap.size p.u w2) := fun p => by
            have := get_hv (HV9.out.below (hb10.trans (p.h.mono hb10.size))) 1 l.K l.N l.S l.O hl hls
            rw [HGG.out] at this; exact this
          have HS2 : Hid (∀ p : BelowOf w10, Calls Tryd.prog 15 #[.pointer (some ⟨w0.heap.size, 0, none⟩), .int .i64 1] p.u fun e w2 => e = .returned (.int .i64 (sn : Int)) ∧ Below p.u.heap.size p.u w2) := fun p => HSz.out p.u (hb10.trans (p.h.mono hb10.size))
          have HL2 : Hid (∀ p : BelowOf w10, Calls Tryd.prog 10 #[] p.u fun e w2 => e = .returned (.bool true) ∧ Below p.u.heap.size p.u w2) := fun p => HL.out p.u (HV9.out.below (hb10.trans (p.h.mono hb10.size))).db
          have hsi : (sn : Int) ≤ 1 := by omega
          have hsd : decide ((sn : Int) ≤ 1) = true := decide_eq_true hsi
          have hInh : Inhabited (BelowOf w10) := ⟨⟨w10, Below.refl _ _⟩⟩
          have HBe : Hid (Below w.heap.size w w10) := HF.out.b.trans ((HB9.out.mono HF.out.b.size).trans (hb10.mono (by have := HF.out.b.size; have := HB9.out.size; omega)))
          clear plat phat pwat HV9 HP9 HW HGG HSz HL h90 h91 h92 h93 o90 o91 o92 o93 HB9 hb10
          refine wp_region_below (by kernel_rfl) (by kernel_rfl) ?_
          repeat (quiet_step (fail))
          quiet_step ((go_at_call 17; exact below_of (HK2.out _)))
          repeat (quiet_step (fail))
          quiet_step ((go_at_call 16; exact below_of (HG2.out _)))
          repeat (quiet_step (fail))
          quiet_step ((go_at_call 15; exact below_of (HS2.out _)))
          repeat (quiet_step (fail))
          quiet_step ((go_at_call 10; exact below_of (HL2.out _)))
          repeat (quiet_step (fail))
          refine wpQuiet_nil ?_
          intro wz hw'
          obtain ⟨⟨wz2, hwz⟩, hw''⟩ := hw'
          have hw3 : wz = wz2 := hw''
          clear hw''
          subst hw3
          go_wp2
          go_ret
          exact ⟨rfl, HBe.out.trans (hwz.mono HBe.out.size)⟩

end Go.Proofs.YtjkedocppbcncaaDoor
