/-
  Layer 13: one block that is written; a number in it.
-/
import Derived.Test.YtcblknghkgihcaaDoorPgMem
namespace Go.Proofs.YtcblknghkgihcaaDoor
set_option maxRecDepth 100000
open Go.RowKit
namespace Pg
/-- Nothing that was there is written but the block b. -/
structure Kb (b : Nat) (w w' : World) : Prop where
  os : w'.os = w.os
  tape : w'.tape = w.tape
  output : w'.output = w.output
  size : w.heap.size ≤ w'.heap.size
  block : ∀ k, k < w.heap.size → k ≠ b → w'.heap[k]? = w.heap[k]?
theorem Kb.refl (b : Nat) (w : World) : Kb b w w := ⟨rfl, rfl, rfl, Nat.le_refl _, fun _ _ _ => rfl⟩
theorem Kb.trans {b : Nat} {x y z : World} (h : Kb b x y) (k : Kb b y z) : Kb b x z :=
  ⟨k.os.trans h.os, k.tape.trans h.tape, k.output.trans h.output, Nat.le_trans h.size k.size, fun i hi hb => (k.block i (Nat.lt_of_lt_of_le hi h.size) hb).trans (h.block i hi hb)⟩
theorem Kb.of_below {b : Nat} {w w' : World} (h : Below w.heap.size w w') : Kb b w w' := ⟨h.os, h.tape, h.output, h.size, fun k hk _ => h.block k hk⟩
theorem Kb.set (b i : Nat) (v : Value) (w : World) : Kb b w (w.setCell ⟨b, i, none⟩ v) := by
  have h : Below b w (w.setCell ⟨b, i, none⟩ v) := (Below.refl _ _).setCell (p := ⟨b, i, none⟩) (Nat.le_refl _) v
  exact ⟨h.os, h.tape, h.output, h.size, fun k _ hk => heap_setCell_other _ _ _ _ hk⟩
theorem Kb.alloc (b : Nat) (w : World) (o : Obj) : Kb b w (w.alloc o) := Kb.of_below ((Below.refl _ _).alloc (Nat.le_refl _) o)
theorem Kb.below {b B : Nat} {w w' : World} (h : Kb b w w') (hB : B ≤ b) (hs : B ≤ w.heap.size) : Below B w w' :=
  ⟨h.os, h.tape, h.output, h.size, fun k hk => h.block k (by omega) (by omega)⟩
theorem Kb.cell {b g j : Nat} {w w' : World} (h : Kb b w w') (hg : g < w.heap.size) (hn : g ≠ b) {v : Value} (hv : w.cell? ⟨g, j, none⟩ = some v) : w'.cell? ⟨g, j, none⟩ = some v :=
  (World.cell?_of_block (w := w) (a := ⟨g, j, none⟩) (h.block g hg hn)).trans hv

/-- A number in a block. -/
structure Cn (w : World) (b : Nat) (n : Nat) : Prop where
  cell : w.cell? ⟨b, 0, none⟩ = some (.int .i64 n)
  fz : w.frozen? ⟨b, 0, none⟩ = false
theorem Cn.lt {w : World} {b n : Nat} (h : Cn w b n) : b < w.heap.size := World.block_lt_of_cell? w _ h.cell
theorem Cn.below {w w' : World} {b n : Nat} (h : Cn w b n) (e : Below w.heap.size w w') : Cn w' b n :=
  ⟨(World.cell?_of_block (w := w) (a := ⟨b, 0, none⟩) (e.block b h.lt)).trans h.cell, (World.frozen?_of_block (w := w) (a := ⟨b, 0, none⟩) (e.block b h.lt)).trans h.fz⟩
theorem Cn.set {w : World} {b n : Nat} (h : Cn w b n) (m : Nat) : Cn (w.setCell ⟨b, 0, none⟩ (.int .i64 m)) b m :=
  ⟨World.cell?_setCell_same _ _ _ h.cell, by rw [World.frozen?_setCell]; exact h.fz⟩
end Pg
end Go.Proofs.YtcblknghkgihcaaDoor
