/-
  HpWr, HpCount, HpDis, HpCnt, HpLayW
-/
import Derived.Test.YtjkedocppbcncaaDoorZ10

/-
  Layer 9: what a call writes: the cells of a list, and memory of its own.
-/
namespace Go.Proofs.YtjkedocppbcncaaDoor
set_option maxRecDepth 100000
open Go.RowKit

/-- A block of plain cells, none of them frozen. -/
def Blk (w : World) (k : Nat) : Prop := ∃ cs t, w.heap[k]? = some (.cells cs t (0, 0))
/-- From w to w' no more is written of what there was than the cells of A. -/
def Wr (A : List (Nat × Nat)) (w w' : World) : Prop :=
  Off A w w' ∧ (∀ k o, k < w.heap.size → w'.frozen? ⟨k, o, none⟩ = w.frozen? ⟨k, o, none⟩) ∧ (∀ B, (∀ a ∈ A, B ≤ a.1) → B ≤ w.heap.size → Below B w w') ∧ (∀ k, Blk w k → Blk w' k) ∧
    (∀ k, k < w.heap.size → (∀ o, (k, o) ∉ A) → w'.heap[k]? = w.heap[k]?)
theorem Wr.blk {A : List (Nat × Nat)} {w w' : World} (h : Wr A w w') {k : Nat} (hk : Blk w k) : Blk w' k := h.2.2.2.1 k hk
theorem Wr.block {A : List (Nat × Nat)} {w w' : World} (h : Wr A w w') {k : Nat} (hk : k < w.heap.size) (hA : ∀ o, (k, o) ∉ A) : w'.heap[k]? = w.heap[k]? := h.2.2.2.2 k hk hA
theorem Wr.below {A : List (Nat × Nat)} {w w' : World} (h : Wr A w w') : ∀ B, (∀ a ∈ A, B ≤ a.1) → B ≤ w.heap.size → Below B w w' := h.2.2.1
theorem Blk.lt {w : World} {k : Nat} (h : Blk w k) : k < w.heap.size := by
  obtain ⟨cs, t, h⟩ := h
  rcases Nat.lt_or_ge k w.heap.size with c | c
  · exact c
  · rw [Array.getElem?_eq_none c] at h; cases h
theorem Wr.off {A : List (Nat × Nat)} {w w' : World} (h : Wr A w w') : Off A w w' := h.1
theorem Wr.cell {A : List (Nat × Nat)} {w w' : World} (h : Wr A w w') {k o : Nat} {v : Value} (hA : (k, o) ∉ A) (hc : w.cell? ⟨k, o, none⟩ = some v) : w'.cell? ⟨k, o, none⟩ = some v := h.1.1 k o v hA hc
theorem Wr.size {A : List (Nat × Nat)} {w w' : World} (h : Wr A w w') : w.heap.size ≤ w'.heap.size := h.1.2
theorem Wr.refl (w : World) : Wr [] w w := ⟨⟨fun _ _ _ _ h => h, Nat.le_refl _⟩, fun _ _ _ => rfl, fun _ _ _ => Below.refl _ _, fun _ h => h, fun _ _ _ => rfl⟩
theorem Wr.of_below {w w' : World} (h : Below w.heap.size w w') : Wr [] w w' :=
  ⟨⟨fun k o _ _ hc => (h.cell (p := ⟨k, o, none⟩) (World.block_lt_of_cell? w _ hc)).trans hc, h.size⟩, fun k o hk => h.frozen (p := ⟨k, o, none⟩) hk, fun _ _ hB => h.mono hB, fun k ⟨cs, t, hk⟩ => ⟨cs, t, (h.block k (Blk.lt ⟨cs, t, hk⟩)).trans hk⟩, fun k hk _ => h.block k hk⟩
theorem Wr.trans {A A' : List (Nat × Nat)} {a b c : World} (h : Wr A a b) (k : Wr A' b c) : Wr (A ++ A') a c := by
  refine ⟨⟨fun x o v hA hc => ?_, Nat.le_trans h.size k.size⟩, fun x o hx => ?_, fun B hB hs => ?_, fun x hx => k.blk (h.blk hx), fun x hx hA => ?_⟩
  · rw [List.mem_append, not_or] at hA
    exact k.cell hA.2 (h.cell hA.1 hc)
  · rw [k.2.1 x o (Nat.lt_of_lt_of_le hx h.size), h.2.1 x o hx]
  · exact (h.below B (fun a ha => hB a (List.mem_append_left _ ha)) hs).trans (k.below B (fun a ha => hB a (List.mem_append_right _ ha)) (Nat.le_trans hs h.size))
  · exact (k.block (Nat.lt_of_lt_of_le hx h.size) (fun o hm => hA o (List.mem_append_right _ hm))).trans (h.block hx (fun o hm => hA o (List.mem_append_left _ hm)))
theorem Wr.more {A A' : List (Nat × Nat)} {w w' : World} (h : Wr A w w') (hA : ∀ a ∈ A, a ∈ A') : Wr A' w w' :=
  ⟨⟨fun _ _ _ hn hc => h.cell (fun hm => hn (hA _ hm)) hc, h.size⟩, h.2.1, fun B hB hs => h.below B (fun a ha => hB a (hA a ha)) hs, fun _ hk => h.blk hk, fun _ hk hn => h.block hk (fun o hm => hn o (hA _ hm))⟩
theorem Wr.set (w : World) (k o : Nat) (v : Value) : Wr [(k, o)] w (w.setCell ⟨k, o, none⟩ v) := by
  refine ⟨⟨fun x p u hn hc => ?_, by rw [World.size_setCell]; exact Nat.le_refl _⟩, fun x p _ => by rw [World.frozen?_setCell], fun B hB _ => (Below.refl _ _).setCell (p := ⟨k, o, none⟩) (hB (k, o) List.mem_cons_self) _, fun x hx => ?_, fun x _ hA => heap_setCell_other w ⟨k, o, none⟩ x v (fun e => hA o (by simp only at e; rw [e]; exact List.mem_cons_self))⟩
  · rw [World.cell?_setCell_other _ _ _ _ ?_]
    · exact hc
    · intro e
      apply hn
      rw [List.mem_singleton]
      injection e with e1 e2
      first
        | rw [e1, e2]
        | rw [← e1, ← e2]
  · obtain ⟨cs, t, hx⟩ := hx
    by_cases e : x = k
    · subst e
      exact ⟨_, t, heap_setCell_same w x o cs t v hx⟩
    · exact ⟨cs, t, (heap_setCell_other w ⟨k, o, none⟩ x v e).trans hx⟩
theorem Wr.drew (w : World) : Wr [] w w.drew := Wr.of_below (Below.refl _ _).drew
end Go.Proofs.YtjkedocppbcncaaDoor

/-
  Layer 9: a key that comes is counted.
-/
namespace Go.Proofs.YtjkedocppbcncaaDoor
set_option maxRecDepth 100000
open Go.RowKit

set_option maxHeartbeats 2000000 in
theorem count_no (tb m : Nat) (a : Option Addr) (K N : Int) (S : ByteArray) (O : Int) (w : World) (hN : Flo.U64 N) (htb : tb < w.heap.size) (h8 : w.cell? ⟨tb, 8, none⟩ = some (.slice a m m)) (hm : m ≤ 1099511627776) (hb : bitB m K N = false) :
    Calls Tryd.prog 77 #[.pointer (some ⟨tb, 0, none⟩), .agg #[.int .i64 K, .int .u64 N, .string S, .int .i64 O]] w fun e w' => e = .returned (.tuple #[]) ∧ Below w.heap.size w w' := by
  have hb0 : Below w.heap.size w (w.alloc (.cells #[.int .i64 K, .int .u64 N, .string S, .int .i64 O] 35)) := (Below.refl _ _).alloc (Nat.le_refl _) _
  have HF := hbit_any tb m m a K N S O (w.alloc (.cells #[.int .i64 K, .int .u64 N, .string S, .int .i64 O] 35)) hN (by simp; omega) ((hb0.cell htb).trans h8) hm
  rw [hb] at HF
  generalize bitN m K N = at_ at *
  have HB : Hid (Below w.heap.size w (w.alloc (.cells #[.int .i64 K, .int .u64 N, .string S, .int .i64 O] 35))) := hb0
  clear hb0 hb
  go_enter Tryd.func77, Tryd.ntmps77
  go_wp2_with fail
  refine HF.mono ?_
  rintro e w1 ⟨rfl, hb1⟩
  have HB1 : Hid (Below w.heap.size w w1) := HB.out.trans (hb1.mono (by simp))
  clear HF hb1 HB
  go_wp2
  refine bodyPost_ret (results_none rfl _ _ _) rfl ?_
  exact ⟨rfl, HB1.out⟩

/-- One word another. -/
def setW (W : Nat → Nat) (i v : Nat) : Nat → Nat := fun j => if j = i then v else W j
/-- m words in the block c. -/
def Ws (w : World) (c m : Nat) (W : Nat → Nat) : Prop := ∀ i, i < m → W i < 18446744073709551616 ∧ w.cell? ⟨c, i, none⟩ = some (.int .u64 (W i : Int))
theorem Ws.set {w : World} {c m i v : Nat} {W : Nat → Nat} (h : Ws w c m W) (hi : i < m) (hv : v < 18446744073709551616) : Ws (w.setCell ⟨c, i, none⟩ (.int .u64 (v : Int))) c m (setW W i v) := by
  intro j hj
  unfold setW
  by_cases e : j = i
  · rw [if_pos e, e]
    exact ⟨hv, World.cell?_setCell_same _ _ _ (h i hi).2⟩
  · rw [if_neg e]
    refine ⟨(h j hj).1, ?_⟩
    rw [World.cell?_setCell_other _ _ _ _ (by simp <;> omega)]
    exact (h j hj).2
theorem or_bit (x r : Nat) (hx : x < 18446744073709551616) (hr : r < 64) : bits BinOp.or IntKind.u64 (x : Int) (IntKind.u64.wrap (2 ^ r)) = ((x ||| 2 ^ r : Nat) : Int) ∧ x ||| 2 ^ r < 18446744073709551616 := by
  have h2 : 2 ^ r < 18446744073709551616 := by
    have := Nat.pow_lt_pow_right (a := 2) (by decide) hr
    exact this
  have e : IntKind.u64.wrap (2 ^ r) = ((2 ^ r : Nat) : Int) := by
    rw [IntKind.wrap_u64]
    rw [show (2 : Int) ^ r = ((2 ^ r : Nat) : Int) from by simp]
    generalize 2 ^ r = t at *
    omega
  rw [e, bits_or_u64_nat x _ hx h2]
  exact ⟨rfl, Nat.or_lt_two_pow (n := 64) hx h2⟩

set_option maxHeartbeats 2000000 in
theorem count_put (tb c m s : Nat) (W : Nat → Nat) (K N : Int) (S : ByteArray) (O : Int) (w : World) (hN : Flo.U64 N) (htb : tb < w.heap.size) (hc : c < w.heap.size) (htc : tb ≠ c) (h8 : w.cell? ⟨tb, 8, none⟩ = some (.slice (some ⟨c, 0, none⟩) m m)) (h9 : w.cell? ⟨tb, 9, none⟩ = some (.int .i64 (s : Int))) (hm : m ≤ 1099511627776) (hs : s ≤ m * 64)
    (hb : bitB m K N = true) (hat : bitN m K N < m * 64) (hW : Ws w c m W) (hz : ∀ i, w.frozen? ⟨c, i, none⟩ = false) (hz9 : w.frozen? ⟨tb, 9, none⟩ = false) (hT : Db w) (hTc : c ≠ 1) :
    Calls Tryd.prog 77 #[.pointer (some ⟨tb, 0, none⟩), .agg #[.int .i64 K, .int .u64 N, .string S, .int .i64 O]] w fun e w' => e = .returned (.tuple #[]) ∧
      Wr [(c, bitN m K N / 64), (tb, 9)] w w' ∧ Ws w' c m (setW W (bitN m K N / 64) (W (bitN m K N / 64) ||| 2 ^ (bitN m K N % 64))) ∧
      w'.cell? ⟨tb, 9, none⟩ = some (.int .i64 ((if bitN m K N = s then gapN (setW W (bitN m K N / 64) (W (bitN m K N / 64) ||| 2 ^ (bitN m K N % 64))) m s else s : Nat) : Int)) := by
  have hb0 : Below w.heap.size w (w.alloc (.cells #[.int .i64 K, .int .u64 N, .string S, .int .i64 O] 35)) := (Below.refl _ _).alloc (Nat.le_refl _) _
  have HF := hbit_any tb m m (some ⟨c, 0, none⟩) K N S O (w.alloc (.cells #[.int .i64 K, .int .u64 N, .string S, .int .i64 O] 35)) hN (by simp; omega) ((hb0.cell htb).trans h8) hm
  rw [hb] at HF
  generalize bitN m K N = p at *
  have HB : Hid (Below w.heap.size w (w.alloc (.cells #[.int .i64 K, .int .u64 N, .string S, .int .i64 O] 35))) := hb0
  have hi : p / 64 < m := by omega
  have hq : (p : Int) / 64 = ((p / 64 : Nat) : Int) := by omega
  have hr : (p : Int) % 64 = ((p % 64 : Nat) : Int) := by omega
  have hr2 : p % 64 < 64 := by omega
  generalize p / 64 = i at *
  generalize p % 64 = r at *
  obtain ⟨v, hv⟩ : ∃ v, v = W i ||| 2 ^ r := ⟨_, rfl⟩
  obtain ⟨W', hW'⟩ : ∃ W', W' = setW W i v := ⟨_, rfl⟩
  rw [← hv, ← hW']
  obtain ⟨s', hs'⟩ : ∃ s', s' = (if p = s then gapN W' m s else s) := ⟨_, rfl⟩
  rw [← hs']
  have HS' : Hid (s' = (if p = s then gapN W' m s else s)) := hs'
  have HV : Hid (v = W i ||| 2 ^ r ∧ W' = setW W i v) := ⟨hv, hW'⟩
  have HWs : Hid (Ws w c m W) := hW
  have HZ : Hid (∀ i, w.frozen? ⟨c, i, none⟩ = false) := hz
  have HD : Hid (Db w) := hT
  clear hb0 hb hv hW' hW hz hT hs'
  go_enter Tryd.func77, Tryd.ntmps77
  go_wp2_with fail
  refine HF.mono ?_
  rintro e w1 ⟨rfl, hb1⟩
  have HB1 : Hid (Below w.heap.size w w1) := HB.out.trans (hb1.mono (by simp))
  obtain ⟨w0, w2⟩ := HWs.out i hi
  have d8 : w1.cell? ⟨tb, 8, none⟩ = some (.slice (some ⟨c, 0, none⟩) m m) := (HB1.out.cell htb).trans h8
  have d2 : w1.cell? ⟨c, i, none⟩ = some (.int .u64 (W i : Int)) := (HB1.out.cell hc).trans w2
  have d3 : w1.frozen? ⟨c, i, none⟩ = false := (HB1.out.frozen hc).trans (HZ.out i)
  obtain ⟨o1, o2⟩ := or_bit (W i) r w0 hr2
  rw [← HV.out.1] at o1 o2
  clear HF hb1 HB w2
  go_wp2_with fail
  go_region
  have HW1 : Hid (Ws w1 c m W) := fun j hj => ⟨(HWs.out j hj).1, (HB1.out.cell hc).trans (HWs.out j hj).2⟩
  have HWr : Hid (Wr [(c, i)] w (w1.setCell ⟨c, i, none⟩ (.int .u64 (v : Int))).drew) := (((Wr.of_below HB1.out).trans (Wr.set w1 c i _)).trans (Wr.drew _)).more (by simp)
  have HW2 : Hid (Ws (w1.setCell ⟨c, i, none⟩ (.int .u64 (v : Int))).drew c m W') := by
    have := HW1.out.set hi o2
    rw [← HV.out.2] at this
    exact this
  generalize (w1.setCell ⟨c, i, none⟩ (.int .u64 (v : Int))).drew = w5 at HWr HW2 ⊢
  have f8 : w5.cell? ⟨tb, 8, none⟩ = some (.slice (some ⟨c, 0, none⟩) m m) := HWr.out.cell (by simp; omega) h8
  have f9 : w5.cell? ⟨tb, 9, none⟩ = some (.int .i64 (s : Int)) := HWr.out.cell (by simp; omega) h9
  have fz : w5.frozen? ⟨tb, 9, none⟩ = false := (HWr.out.2.1 _ _ htb).trans hz9
  clear d8 d2 d3 o1 o2 HW1 hq hr
  by_cases hps : p = s
  · have hD5 : Db w5 := fun j hj => HWr.out.cell (by simp; omega) (HD.out j hj)
    have HG := gap_any tb c m s W' w5 f8 f9 hm hs HW2.out hD5
    have HS2 : Hid (s' = gapN W' m s) := by have := HS'.out; rw [if_pos hps] at this; exact this
    rw [← HS2.out] at HG
    clear HS' HS2
    subst hps
    go_wp2_with fail
    refine HG.mono ?_
    rintro e w6 ⟨rfl, rfl⟩
    clear HG
    go_wp2
    go_end0
    refine ⟨rfl, (HWr.out.trans (Wr.set _ tb 9 _)).more (by simp), fun j hj => ⟨(HW2.out j hj).1, ?_⟩, ?_⟩
    · rw [World.cell?_setCell_other _ _ _ _ (by simp <;> omega)]; exact (HW2.out j hj).2
    · exact World.cell?_setCell_same _ _ _ f9
  · have hps' : ¬ (p : Int) = (s : Int) := by omega
    have HS2 : Hid (s' = s) := by have := HS'.out; rw [if_neg hps] at this; exact this
    clear hps HS'
    go_wp2
    go_end0
    exact ⟨rfl, HWr.out.more (by simp), HW2.out, by rw [HS2.out]; exact f9⟩
end Go.Proofs.YtjkedocppbcncaaDoor

/-
  Layer 9: a key that goes is counted no more.
-/
namespace Go.Proofs.YtjkedocppbcncaaDoor
set_option maxRecDepth 100000
open Go.RowKit

/-- A word without a bit. -/
def clrW (x r : Nat) : Nat := (bits BinOp.andNot IntKind.u64 (x : Int) (IntKind.u64.wrap (2 ^ r))).toNat
theorem clr_bit (x r : Nat) : bits BinOp.andNot IntKind.u64 (x : Int) (IntKind.u64.wrap (2 ^ r)) = ((clrW x r : Nat) : Int) ∧ clrW x r < 18446744073709551616 := by
  have h : 0 ≤ bits BinOp.andNot IntKind.u64 (x : Int) (IntKind.u64.wrap (2 ^ r)) ∧ bits BinOp.andNot IntKind.u64 (x : Int) (IntKind.u64.wrap (2 ^ r)) ≤ 18446744073709551615 := bits_within _ .u64 _ _
  unfold clrW
  generalize bits BinOp.andNot IntKind.u64 (x : Int) (IntKind.u64.wrap (2 ^ r)) = z at *
  omega

set_option maxHeartbeats 2000000 in
theorem discount_no (tb m : Nat) (a : Option Addr) (K N : Int) (S : ByteArray) (O : Int) (w : World) (hN : Flo.U64 N) (htb : tb < w.heap.size) (h8 : w.cell? ⟨tb, 8, none⟩ = some (.slice a m m)) (hm : m ≤ 1099511627776) (hb : bitB m K N = false) :
    Calls Tryd.prog 65 #[.pointer (some ⟨tb, 0, none⟩), .agg #[.int .i64 K, .int .u64 N, .string S, .int .i64 O]] w fun e w' => e = .returned (.tuple #[]) ∧ Below w.heap.size w w' := by
  have hb0 : Below w.heap.size w (w.alloc (.cells #[.int .i64 K, .int .u64 N, .string S, .int .i64 O] 35)) := (Below.refl _ _).alloc (Nat.le_refl _) _
  have HF := hbit_any tb m m a K N S O (w.alloc (.cells #[.int .i64 K, .int .u64 N, .string S, .int .i64 O] 35)) hN (by simp; omega) ((hb0.cell htb).trans h8) hm
  rw [hb] at HF
  generalize bitN m K N = at_ at *
  have HB : Hid (Below w.heap.size w (w.alloc (.cells #[.int .i64 K, .int .u64 N, .string S, .int .i64 O] 35))) := hb0
  clear hb0 hb
  go_enter Tryd.func65, Tryd.ntmps65
  go_wp2_with fail
  refine HF.mono ?_
  rintro e w1 ⟨rfl, hb1⟩
  have HB1 : Hid (Below w.heap.size w w1) := HB.out.trans (hb1.mono (by simp))
  clear HF hb1 HB
  go_wp2
  refine bodyPost_ret (results_none rfl _ _ _) rfl ?_
  exact ⟨rfl, HB1.out⟩

set_option maxHeartbeats 2000000 in
theorem discount_put (tb c m s : Nat) (W : Nat → Nat) (K N : Int) (S : ByteArray) (O : Int) (w : World) (hN : Flo.U64 N) (htb : tb < w.heap.size) (hc : c < w.heap.size) (htc : tb ≠ c) (h8 : w.cell? ⟨tb, 8, none⟩ = some (.slice (some ⟨c, 0, none⟩) m m)) (h9 : w.cell? ⟨tb, 9, none⟩ = some (.int .i64 (s : Int))) (hm : m ≤ 1099511627776)
    (hb : bitB m K N = true) (hat : bitN m K N < m * 64) (hW : Ws w c m W) (hz : ∀ i, w.frozen? ⟨c, i, none⟩ = false) (hz9 : w.frozen? ⟨tb, 9, none⟩ = false) :
    Calls Tryd.prog 65 #[.pointer (some ⟨tb, 0, none⟩), .agg #[.int .i64 K, .int .u64 N, .string S, .int .i64 O]] w fun e w' => e = .returned (.tuple #[]) ∧
      Wr [(c, bitN m K N / 64), (tb, 9)] w w' ∧ Ws w' c m (setW W (bitN m K N / 64) (clrW (W (bitN m K N / 64)) (bitN m K N % 64))) ∧
      w'.cell? ⟨tb, 9, none⟩ = some (.int .i64 ((min s (bitN m K N) : Nat) : Int)) := by
  have hb0 : Below w.heap.size w (w.alloc (.cells #[.int .i64 K, .int .u64 N, .string S, .int .i64 O] 35)) := (Below.refl _ _).alloc (Nat.le_refl _) _
  have HF := hbit_any tb m m (some ⟨c, 0, none⟩) K N S O (w.alloc (.cells #[.int .i64 K, .int .u64 N, .string S, .int .i64 O] 35)) hN (by simp; omega) ((hb0.cell htb).trans h8) hm
  rw [hb] at HF
  generalize bitN m K N = p at *
  have HB : Hid (Below w.heap.size w (w.alloc (.cells #[.int .i64 K, .int .u64 N, .string S, .int .i64 O] 35))) := hb0
  have hi : p / 64 < m := by omega
  have hq : (p : Int) / 64 = ((p / 64 : Nat) : Int) := by omega
  have hr : (p : Int) % 64 = ((p % 64 : Nat) : Int) := by omega
  have hr2 : p % 64 < 64 := by omega
  generalize p / 64 = i at *
  generalize p % 64 = r at *
  obtain ⟨v, hv⟩ : ∃ v, v = clrW (W i) r := ⟨_, rfl⟩
  obtain ⟨W', hW'⟩ : ∃ W', W' = setW W i v := ⟨_, rfl⟩
  rw [← hv, ← hW']
  obtain ⟨s', hs'⟩ : ∃ s', s' = min s p := ⟨_, rfl⟩
  rw [← hs']
  have HS' : Hid (s' = min s p) := hs'
  have HV : Hid (v = clrW (W i) r ∧ W' = setW W i v) := ⟨hv, hW'⟩
  have HWs : Hid (Ws w c m W) := hW
  have HZ : Hid (∀ i, w.frozen? ⟨c, i, none⟩ = false) := hz
  clear hb0 hb hv hW' hW hz hs'
  go_enter Tryd.func65, Tryd.ntmps65
  go_wp2_with fail
  refine HF.mono ?_
  rintro e w1 ⟨rfl, hb1⟩
  have HB1 : Hid (Below w.heap.size w w1) := HB.out.trans (hb1.mono (by simp))
  obtain ⟨w0, w2⟩ := HWs.out i hi
  have d8 : w1.cell? ⟨tb, 8, none⟩ = some (.slice (some ⟨c, 0, none⟩) m m) := (HB1.out.cell htb).trans h8
  have d2 : w1.cell? ⟨c, i, none⟩ = some (.int .u64 (W i : Int)) := (HB1.out.cell hc).trans w2
  have d3 : w1.frozen? ⟨c, i, none⟩ = false := (HB1.out.frozen hc).trans (HZ.out i)
  obtain ⟨o1, o2⟩ := clr_bit (W i) r
  rw [← HV.out.1] at o1 o2
  clear HF hb1 HB w2
  go_wp2_with fail
  go_region
  have HW1 : Hid (Ws w1 c m W) := fun j hj => ⟨(HWs.out j hj).1, (HB1.out.cell hc).trans (HWs.out j hj).2⟩
  have HWr : Hid (Wr [(c, i)] w (w1.setCell ⟨c, i, none⟩ (.int .u64 (v : Int))).drew) := (((Wr.of_below HB1.out).trans (Wr.set w1 c i _)).trans (Wr.drew _)).more (by simp)
  have HW2 : Hid (Ws (w1.setCell ⟨c, i, none⟩ (.int .u64 (v : Int))).drew c m W') := by
    have := HW1.out.set hi o2
    rw [← HV.out.2] at this
    exact this
  generalize (w1.setCell ⟨c, i, none⟩ (.int .u64 (v : Int))).drew = w5 at HWr HW2 ⊢
  have f8 : w5.cell? ⟨tb, 8, none⟩ = some (.slice (some ⟨c, 0, none⟩) m m) := HWr.out.cell (by simp; omega) h8
  have f9 : w5.cell? ⟨tb, 9, none⟩ = some (.int .i64 (s : Int)) := HWr.out.cell (by simp; omega) h9
  have fz : w5.frozen? ⟨tb, 9, none⟩ = false := (HWr.out.2.1 _ _ htb).trans hz9
  clear d8 d2 d3 o1 o2 HW1 hq hr
  by_cases hps : s < p
  · have HS2 : Hid (s' = s) := by have := HS'.out; show s' = s; omega
    clear HS'
    go_wp2
    go_end0
    refine ⟨rfl, (HWr.out.trans (Wr.set _ tb 9 _)).more (by simp), fun j hj => ⟨(HW2.out j hj).1, ?_⟩, ?_⟩
    · rw [World.cell?_setCell_other _ _ _ _ (by simp <;> omega)]; exact (HW2.out j hj).2
    · rw [HS2.out]; exact World.cell?_setCell_same _ _ _ f9
  · have HS2 : Hid (s' = p) := by have := HS'.out; show s' = p; omega
    clear HS'
    rcases Nat.lt_or_ge p s with hlt | hge
    · go_wp2
      go_end0
      refine ⟨rfl, (HWr.out.trans (Wr.set _ tb 9 _)).more (by simp), fun j hj => ⟨(HW2.out j hj).1, ?_⟩, ?_⟩
      · rw [World.cell?_setCell_other _ _ _ _ (by simp <;> omega)]; exact (HW2.out j hj).2
      · rw [HS2.out]; exact World.cell?_setCell_same _ _ _ f9
    · have hps2 : p = s := by omega
      subst hps2
      clear hge hps
      go_wp2
      go_end0
      refine ⟨rfl, (HWr.out.trans (Wr.set _ tb 9 _)).more (by simp), fun j hj => ⟨(HW2.out j hj).1, ?_⟩, ?_⟩
      · rw [World.cell?_setCell_other _ _ _ _ (by simp <;> omega)]; exact (HW2.out j hj).2
      · rw [HS2.out]; exact World.cell?_setCell_same _ _ _ f9
end Go.Proofs.YtjkedocppbcncaaDoor

/-
  Layer 9: count and discount of any key.
-/
namespace Go.Proofs.YtjkedocppbcncaaDoor
set_option maxRecDepth 100000
open Go.RowKit

theorem bitN_lt {m : Nat} {K N : Int} (h : bitB m K N = true) : bitN m K N < m * 64 := by
  have h2 := of_decide_eq_true (by unfold bitB at h; exact h)
  unfold bitN
  rw [if_pos h]
  omega
/-- The words and the size when a key has come, when one has gone. -/
def cntW (m : Nat) (W : Nat → Nat) (K N : Int) : Nat → Nat := if bitB m K N then setW W (bitN m K N / 64) (W (bitN m K N / 64) ||| 2 ^ (bitN m K N % 64)) else W
def cntS (m : Nat) (W : Nat → Nat) (s : Nat) (K N : Int) : Nat := if bitB m K N then (if bitN m K N = s then gapN (cntW m W K N) m s else s) else s
def disW (m : Nat) (W : Nat → Nat) (K N : Int) : Nat → Nat := if bitB m K N then setW W (bitN m K N / 64) (clrW (W (bitN m K N / 64)) (bitN m K N % 64)) else W
def disS (m s : Nat) (K N : Int) : Nat := if bitB m K N then min s (bitN m K N) else s

/-- What is counted: m words in the block c, and the size. -/
structure Ct (w : World) (tb c m : Nat) (W : Nat → Nat) (s : Nat) : Prop where
  tlt : tb < w.heap.size
  clt : c < w.heap.size
  ne : tb ≠ c
  one : c ≠ 1
  few : m ≤ 1099511627776
  row : w.cell? ⟨tb, 8, none⟩ = some (.slice (some ⟨c, 0, none⟩) m m)
  size : w.cell? ⟨tb, 9, none⟩ = some (.int .i64 (s : Int))
  fit : s ≤ m * 64
  words : Ws w c m W
  wfree : ∀ i, w.frozen? ⟨c, i, none⟩ = false
  sfree : w.frozen? ⟨tb, 9, none⟩ = false

theorem count_any (tb c m s : Nat) (W : Nat → Nat) (K N : Int) (S : ByteArray) (O : Int) (w : World) (hN : Flo.U64 N) (h : Ct w tb c m W s) (hT : Db w) :
    Calls Tryd.prog 77 #[.pointer (some ⟨tb, 0, none⟩), .agg #[.int .i64 K, .int .u64 N, .string S, .int .i64 O]] w fun e w' => e = .returned (.tuple #[]) ∧
      Wr [(c, bitN m K N / 64), (tb, 9)] w w' ∧ Ws w' c m (cntW m W K N) ∧ w'.cell? ⟨tb, 9, none⟩ = some (.int .i64 ((cntS m W s K N : Nat) : Int)) := by
  cases hb : bitB m K N with
  | true =>
    have e1 : cntW m W K N = setW W (bitN m K N / 64) (W (bitN m K N / 64) ||| 2 ^ (bitN m K N % 64)) := by unfold cntW; rw [if_pos hb]
    have e2 : cntS m W s K N = if bitN m K N = s then gapN (cntW m W K N) m s else s := by unfold cntS; rw [if_pos hb]
    rw [e2, e1]
    exact count_put tb c m s W K N S O w hN h.tlt h.clt h.ne h.row h.size h.few h.fit hb (bitN_lt hb) h.words h.wfree h.sfree hT h.one
  | false =>
    have e1 : cntW m W K N = W := by unfold cntW; rw [if_neg (by rw [hb]; decide)]
    have e2 : cntS m W s K N = s := by unfold cntS; rw [if_neg (by rw [hb]; decide)]
    rw [e2, e1]
    refine (count_no tb m _ K N S O w hN h.tlt h.row h.few hb).mono ?_
    rintro e w' ⟨rfl, b⟩
    exact ⟨rfl, (Wr.of_below b).more (by simp), fun j hj => ⟨(h.words j hj).1, (b.cell h.clt).trans (h.words j hj).2⟩, (b.cell h.tlt).trans h.size⟩

theorem discount_any (tb c m s : Nat) (W : Nat → Nat) (K N : Int) (S : ByteArray) (O : Int) (w : World) (hN : Flo.U64 N) (h : Ct w tb c m W s) :
    Calls Tryd.prog 65 #[.pointer (some ⟨tb, 0, none⟩), .agg #[.int .i64 K, .int .u64 N, .string S, .int .i64 O]] w fun e w' => e = .returned (.tuple #[]) ∧
      Wr [(c, bitN m K N / 64), (tb, 9)] w w' ∧ Ws w' c m (disW m W K N) ∧ w'.cell? ⟨tb, 9, none⟩ = some (.int .i64 ((disS m s K N : Nat) : Int)) := by
  cases hb : bitB m K N with
  | true =>
    have e1 : disW m W K N = setW W (bitN m K N / 64) (clrW (W (bitN m K N / 64)) (bitN m K N % 64)) := by unfold disW; rw [if_pos hb]
    have e2 : disS m s K N = min s (bitN m K N) := by unfold disS; rw [if_pos hb]
    rw [e2, e1]
    exact discount_put tb c m s W K N S O w hN h.tlt h.clt h.ne h.row h.size h.few hb (bitN_lt hb) h.words h.wfree h.sfree
  | false =>
    have e1 : disW m W K N = W := by unfold disW; rw [if_neg (by rw [hb]; decide)]
    have e2 : disS m s K N = s := by unfold disS; rw [if_neg (by rw [hb]; decide)]
    rw [e2, e1]
    refine (discount_no tb m _ K N S O w hN h.tlt h.row h.few hb).mono ?_
    rintro e w' ⟨rfl, b⟩
    exact ⟨rfl, (Wr.of_below b).more (by simp), fun j hj => ⟨(h.words j hj).1, (b.cell h.clt).trans (h.words j hj).2⟩, (b.cell h.tlt).trans h.size⟩
end Go.Proofs.YtjkedocppbcncaaDoor

/-
  Layer 9: lay: a key put into its bucket, and counted.
-/
namespace Go.Proofs.YtjkedocppbcncaaDoor
set_option maxRecDepth 100000
open Go.RowKit

theorem gapF_le (W : Nat → Nat) : ∀ f p, gapF W f p ≤ p + f ∧ (gapF W f p < p + f → W (gapF W f p) ≠ 18446744073709551615)
  | 0, p => ⟨Nat.le_refl _, fun h => absurd h (Nat.lt_irrefl _)⟩
  | f + 1, p => by
    rw [gapF]
    split
    · obtain ⟨a, b⟩ := gapF_le W f (p + 1)
      exact ⟨by omega, fun h => b (by omega)⟩
    · rename_i c
      exact ⟨by omega, fun _ => c⟩
theorem gapN_le (W : Nat → Nat) {m s : Nat} (hs : s ≤ m * 64) (hW : ∀ i, i < m → W i < 18446744073709551616) : gapN W m s ≤ m * 64 := by
  obtain ⟨a, b⟩ := gapF_le W (m - s / 64) (s / 64)
  have e : s / 64 + (m - s / 64) = m := by omega
  rw [e] at a b
  by_cases c : gapF W (m - s / 64) (s / 64) = m
  · rw [gapN_end c]; exact Nat.le_refl _
  · have hl := Nat.lt_of_le_of_ne a c
    have hn := b hl
    have hw := hW _ hl
    rw [gapN_at rfl c]
    have := (Lib.lowest_bit 64 (18446744073709551615 - W (gapF W (m - s / 64) (s / 64))) (by omega) (by omega)).2
    omega
theorem cntS_le {m s : Nat} {W : Nat → Nat} {K N : Int} (hs : s ≤ m * 64) (hW : ∀ i, i < m → cntW m W K N i < 18446744073709551616) : cntS m W s K N ≤ m * 64 := by
  unfold cntS
  split
  · split
    · exact gapN_le _ hs hW
    · exact hs
  · exact hs

theorem Ct.wr {A : List (Nat × Nat)} {w w' : World} {tb c m s : Nat} {W : Nat → Nat} (h : Ct w tb c m W s) (k : Wr A w w') (h8 : (tb, 8) ∉ A) (h9 : (tb, 9) ∉ A) (hc : ∀ i, (c, i) ∉ A) : Ct w' tb c m W s :=
  ⟨Nat.lt_of_lt_of_le h.tlt k.size, Nat.lt_of_lt_of_le h.clt k.size, h.ne, h.one, h.few, k.cell h8 h.row, k.cell h9 h.size, h.fit, fun j hj => ⟨(h.words j hj).1, k.cell (hc j) (h.words j hj).2⟩, fun i => (k.2.1 _ _ h.clt).trans (h.wfree i), (k.2.1 _ _ h.tlt).trans h.sfree⟩
theorem Bk.wr {A : List (Nat × Nat)} {w w' : World} {g n : Nat} {cs : Nat → List En} {es : List En} (h : Bk w g n cs es) (k : Wr A w w') (hg : ∀ j, (g, j) ∉ A) (he : ∀ e ∈ es, ∀ o, o ≤ 9 → (e.b, o) ∉ A) : Bk w' g n cs es :=
  ⟨h.pos, h.few, Nat.lt_of_lt_of_le h.lt k.size, fun j hj => k.cell (hg j) (h.head j hj), fun j hj => (h.chain j hj).off k.off fun e hm => he e ((h.mem j hj e).1 hm).1 9 (by omega), h.mem,
   fun e hm => ⟨(h.lies e hm).1.off k.off fun o ho => he e hm o (by omega), Nat.lt_of_lt_of_le (h.lies e hm).2 k.size⟩, h.hash, h.own, h.once, h.block, h.apart⟩

set_option maxHeartbeats 2000000 in
theorem lay_any (tb g n c m s : Nat) (W : Nat → Nat) (cs : Nat → List En) (es es' : List En) (e : En) (u : Option Addr) (w : World) (hct : Ct w tb c m W s) (hbk : Bk w g n cs es) (hT : Db w)
    (h7 : w.cell? ⟨tb, 7, none⟩ = some (.slice (some ⟨g, 0, none⟩) n n)) (hen : EnC w e ∧ e.b < w.heap.size) (hh : e.H = hN e.K e.N e.S e.O) (hN : Flo.U64 e.N) (h9 : w.cell? ⟨e.b, 9, none⟩ = some (.pointer u))
    (hz9 : w.frozen? ⟨e.b, 9, none⟩ = false) (hzg : ∀ j, w.frozen? ⟨g, j, none⟩ = false) (n1 : e.b ≠ tb) (n2 : e.b ≠ g) (n3 : e.b ≠ c) (n4 : g ≠ tb) (n5 : g ≠ c) (n6 : e.b ≠ 1) (n7 : g ≠ 1)
    (hes : ∀ x, x ∈ es' ↔ x = e ∨ x ∈ es) (hnew : ∀ f ∈ es, ¬ (e.K = f.K ∧ e.N = f.N ∧ e.S = f.S ∧ e.O = f.O)) (hb : ∀ f ∈ es, f.b ≠ e.b) (ha : ∀ f ∈ es, f.b ≠ tb ∧ f.b ≠ c) :
    Calls Tryd.prog 67 #[.pointer (some ⟨tb, 0, none⟩), .pointer (some ⟨e.b, 0, none⟩)] w fun x w' => x = .returned (.tuple #[]) ∧
      Wr [(e.b, 9), (g, bk e.H n), (c, bitN m e.K e.N / 64), (tb, 9)] w w' ∧ Bk w' g n (laidC cs (bk e.H n) e) es' ∧ Ct w' tb c m (cntW m W e.K e.N) (cntS m W s e.K e.N) := by
  have hH : e.H < 18446744073709551616 := by rw [hh]; exact hN_lt _ _ _ _
  have HBC := fun w' h => bucket_any tb g n n e.H w' h hbk.pos hbk.few hH
  have hj := bk_lt e.H hbk.pos
  have cg := hbk.head _ hj
  have fg := hzg (bk e.H n)
  obtain ⟨v, hv⟩ : ∃ v, hd (cs (bk e.H n)) = .pointer v := by cases cs (bk e.H n) <;> exact ⟨_, rfl⟩
  have HV : Hid (hd (cs (bk e.H n)) = .pointer v) := hv
  have HFin : Hid (∀ w3, Wr [(e.b, 9), (g, bk e.H n)] w w3 → w3.cell? ⟨e.b, 9, none⟩ = some (.pointer v) → w3.cell? ⟨g, bk e.H n, none⟩ = some (.pointer (some ⟨e.b, 0, none⟩)) →
      Calls Tryd.prog 77 #[.pointer (some ⟨tb, 0, none⟩), .agg #[.int .i64 e.K, .int .u64 e.N, .string e.S, .int .i64 e.O]] w3 fun x w' => x = .returned (.tuple #[]) ∧
        (Wr [(e.b, 9), (g, bk e.H n), (c, bitN m e.K e.N / 64), (tb, 9)] w w' ∧ Bk w' g n (laidC cs (bk e.H n) e) es' ∧ Ct w' tb c m (cntW m W e.K e.N) (cntS m W s e.K e.N))) := by
    intro w3 k k9 kg
    have b3 : Bk w3 g n (laidC cs (bk e.H n) e) es' := hbk.lay hes hen hh hnew hb n2 k.off (by rw [hv]; exact k9) kg
    have c3 : Ct w3 tb c m W s := hct.wr k (by simp; omega) (by simp; omega) (by intro i; simp; omega)
    have t3 : Db w3 := fun j hj => k.cell (by simp; omega) (hT j hj)
    refine (count_any tb c m s W e.K e.N e.S e.O w3 hN c3 t3).mono ?_
    rintro x w' ⟨rfl, k2, ws, sz⟩
    refine ⟨rfl, (k.trans k2).more (by simp), b3.wr k2 (by intro j; simp; omega) ?_, ?_⟩
    · intro f hf o ho
      rcases (hes f).1 hf with rfl | hf
      · simp; omega
      · have := ha f hf; simp; omega
    · exact ⟨Nat.lt_of_lt_of_le c3.tlt k2.size, Nat.lt_of_lt_of_le c3.clt k2.size, c3.ne, c3.one, c3.few, k2.cell (by have := c3.ne; simp; omega) c3.row, sz, cntS_le c3.fit fun i hi => (ws i hi).1, ws, fun i => (k2.2.1 _ _ c3.clt).trans (c3.wfree i), (k2.2.1 _ _ c3.tlt).trans c3.sfree⟩
  rw [hv] at cg
  obtain ⟨e0, e1, e2, e3, _, _, _, _, e8⟩ := hen.1
  generalize bk e.H n = j at *
  clear hct hbk hT hh hes hnew hb ha hv hN hH hen
  go_enter Tryd.func67, Tryd.ntmps67
  go_wp2_with fail
  refine (HBC _ h7).mono ?_
  rintro x w1 ⟨rfl, rfl⟩
  clear HBC
  go_wp2_with fail
  have hce : ((w.setCell ⟨e.b, 9, none⟩ (.pointer v)).setCell ⟨g, j, none⟩ (.pointer (some ⟨e.b, 0, none⟩))).cell? ⟨e.b, 9, none⟩ = some (.pointer v) := by
    rw [World.cell?_setCell_other _ _ _ _ (by simp <;> omega)]
    exact World.cell?_setCell_same _ _ _ h9
  have hcg : ((w.setCell ⟨e.b, 9, none⟩ (.pointer v)).setCell ⟨g, j, none⟩ (.pointer (some ⟨e.b, 0, none⟩))).cell? ⟨g, j, none⟩ = some (.pointer (some ⟨e.b, 0, none⟩)) := by
    refine World.cell?_setCell_same _ _ _ (u := .pointer v) ?_
    rw [World.cell?_setCell_other _ _ _ _ (by simp <;> omega)]
    exact cg
  refine (HFin.out _ ((((Wr.set w e.b 9 _).trans (Wr.set _ g j _)).trans (Wr.drew _)).more (by simp)) hce hcg).mono ?_
  rintro x w' ⟨rfl, hq⟩
  have HQ : Hid (Wr [(e.b, 9), (g, j), (c, bitN m e.K e.N / 64), (tb, 9)] w w' ∧ Bk w' g n (laidC cs j e) es' ∧ Ct w' tb c m (cntW m W e.K e.N) (cntS m W s e.K e.N)) := hq
  clear hq hce hcg HFin
  go_wp2
  go_end0
  exact ⟨rfl, HQ.out⟩
end Go.Proofs.YtjkedocppbcncaaDoor
