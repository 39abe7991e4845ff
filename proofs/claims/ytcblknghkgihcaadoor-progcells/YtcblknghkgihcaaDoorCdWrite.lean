/-
  Layer 7: the landed writer: room, lay, number, walked where there is room.
-/
import Derived.Test.YtcblknghkgihcaaDoorFrMem
namespace Go.Proofs.YtcblknghkgihcaaDoor
set_option maxRecDepth 100000
open Go.RowKit Crc

/-- A writer in the block b that has laid the bytes l, in memory of its own, not below B. -/
structure WR (w : World) (b B : Nat) (v : Value) (l : List Nat) : Prop where
  c : w.cell? ⟨b, 0, none⟩ = some v
  fz : ∀ i, w.frozen? ⟨b, i, none⟩ = false
  ow : OW w B v l
  lo : B ≤ b
  lt : b < w.heap.size
  ne : ∀ k, v.ownBlock = some k → k ≠ b

theorem OW.shape {w : World} {B : Nat} {v : Value} {l : List Nat} (h : OW w B v l) : ∃ a cap, v = .slice a l.length cap ∧ l.length ≤ 9223372036854775807 := by
  obtain ⟨_, a, cap, rfl, h1, h2, _⟩ := h.br
  unfold maxLen at h2
  exact ⟨a, cap, rfl, by omega⟩

/-- Nothing was turned but the writer's block and its bytes; where its bytes lie now is there or new. -/
structure Kept (b : Nat) (v v' : Value) (w w' : World) : Prop where
  os : w'.os = w.os
  tape : w'.tape = w.tape
  output : w'.output = w.output
  size : w.heap.size ≤ w'.heap.size
  block : ∀ k, k < w.heap.size → k ≠ b → v.ownBlock ≠ some k → w'.heap[k]? = w.heap[k]?
  own : ∀ k, v'.ownBlock = some k → v.ownBlock = some k ∨ w.heap.size ≤ k

theorem Kept.refl (b : Nat) (v : Value) (w : World) : Kept b v v w w := ⟨rfl, rfl, rfl, Nat.le_refl _, fun _ _ _ _ => rfl, fun _ h => Or.inl h⟩
theorem Kept.trans {b : Nat} {v v' v'' : Value} {w w' w'' : World} (h : Kept b v v' w w') (k : Kept b v' v'' w' w'') : Kept b v v'' w w'' := by
  refine ⟨k.os.trans h.os, k.tape.trans h.tape, k.output.trans h.output, Nat.le_trans h.size k.size, fun i hi hb hv => ?_, fun i hi => ?_⟩
  · rw [k.block i (Nat.lt_of_lt_of_le hi h.size) hb (fun e => ?_), h.block i hi hb hv]
    rcases h.own i e with e1 | e1
    · exact hv e1
    · omega
  · rcases k.own i hi with e | e
    · exact h.own i e
    · exact Or.inr (Nat.le_trans h.size e)
theorem Kept.below {b B : Nat} {v v' : Value} {l : List Nat} {w w' : World} (h : Kept b v v' w w') (hw : WR w b B v l) : Below B w w' := by
  have hlt := hw.lt
  have hlo := hw.lo
  exact ⟨h.os, h.tape, h.output, h.size, fun k hk => h.block k (by omega) (by omega) (fun e => by have := (hw.ow.2.lt k e).1; omega)⟩
theorem Kept.cell {b : Nat} {v v' : Value} {w w' : World} (h : Kept b v v' w w') {k : Nat} (hk : k < w.heap.size) (hb : k ≠ b) (hv : v.ownBlock ≠ some k) (j : Nat) : w'.cell? ⟨k, j, none⟩ = w.cell? ⟨k, j, none⟩ :=
  World.cell?_of_block (w := w) (h.block k hk hb hv)
theorem WR.alloc {w : World} {b B : Nat} {v : Value} {l : List Nat} (h : WR w b B v l) (o : Obj) : WR (w.alloc o) b B v l := by
  have hlt := h.lt
  have hb := Below.heap_alloc w o b hlt
  refine ⟨(World.cell?_of_block (w := w) (a := ⟨b, 0, none⟩) hb).trans h.c, fun i => (World.frozen?_of_block (w := w) (a := ⟨b, i, none⟩) hb).trans (h.fz i), ⟨h.ow.1, h.ow.2.alloc o⟩, h.lo, ?_, h.ne⟩
  have : (w.alloc o).heap.size = w.heap.size + 1 := by simp
  omega
theorem Kept.alloc {b : Nat} {v v' : Value} {w w' : World} {o : Obj} (h : Kept b v v' (w.alloc o) w') : Kept b v v' w w' := by
  have hs : (w.alloc o).heap.size = w.heap.size + 1 := by simp
  have hz := h.size
  refine ⟨h.os, h.tape, h.output, by omega, fun k hk hb hv => ?_, fun k hk => ?_⟩
  · rw [h.block k (by omega) hb hv]
    exact Below.heap_alloc w o k hk
  · rcases h.own k hk with e | e
    · exact Or.inl e
    · exact Or.inr (by omega)

end Go.Proofs.YtcblknghkgihcaaDoor
