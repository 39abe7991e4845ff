/-
  Layer 7: the landed reader's cell, walked: what is no list.
-/
import Derived.Test.YtbkjghhghefejaaCdConv
import Derived.Deep.Light
namespace Go.Proofs.Ytbkjghhghefejaa
open Go.RowKit Crc

/-- Nothing was turned but the reader's block. -/
structure KR (b : Nat) (w w' : World) : Prop where
  os : w'.os = w.os
  tape : w'.tape = w.tape
  output : w'.output = w.output
  size : w.heap.size ≤ w'.heap.size
  block : ∀ k, k < w.heap.size → k ≠ b → w'.heap[k]? = w.heap[k]?

theorem KR.refl (b : Nat) (w : World) : KR b w w := ⟨rfl, rfl, rfl, Nat.le_refl _, fun _ _ _ => rfl⟩
theorem KR.trans {b : Nat} {w w' w'' : World} (h : KR b w w') (k : KR b w' w'') : KR b w w'' :=
  ⟨k.os.trans h.os, k.tape.trans h.tape, k.output.trans h.output, Nat.le_trans h.size k.size, fun i hi hb => (k.block i (Nat.lt_of_lt_of_le hi h.size) hb).trans (h.block i hi hb)⟩
theorem KR.of {b : Nat} {w w' : World} (h : Below w.heap.size w w') : KR b w w' := ⟨h.os, h.tape, h.output, h.size, fun k hk _ => h.block k hk⟩
theorem KR.set (b j : Nat) (u : Value) (w : World) : KR b w (w.setCell ⟨b, j, none⟩ u) :=
  ⟨rfl, rfl, rfl, by rw [World.size_setCell]; exact Nat.le_refl _, fun k _ hb => heap_setCell_other _ _ _ _ hb⟩
theorem KR.alloc (b : Nat) (o : Obj) (w : World) : KR b w (w.alloc o) := KR.of ((Below.refl _ w).alloc (Nat.le_refl _) o)
/-- A store into a block that was made since. -/
theorem KR.setNew {b B j : Nat} {w w' : World} (h : KR b w w') (hB : w.heap.size ≤ B) (u : Value) : KR b w (w'.setCell ⟨B, j, none⟩ u) :=
  ⟨h.os, h.tape, h.output, by rw [World.size_setCell]; exact h.size, fun k hk hb => by rw [heap_setCell_other _ _ _ _ (by simp; omega)]; exact h.block k hk hb⟩

theorem RD.below {w w' : World} {b H : Nat} {v : Value} {l : List Nat} (h : RD w b H v l) (hg : Below w.heap.size w w') : RD w' b H v l := by
  have hlt := h.lt
  have hs := hg.size
  exact ⟨(hg.cell (p := ⟨b, 0, none⟩) hlt).trans h.c, fun i => (hg.frozen (p := ⟨b, i, none⟩) hlt).trans (h.fz i), h.br.below hg (Nat.le_refl _), h.ne, h.hi, by omega⟩
theorem RD.alloc {w : World} {b H : Nat} {v : Value} {l : List Nat} (h : RD w b H v l) (o : Obj) : RD (w.alloc o) b H v l := h.below ((Below.refl _ w).alloc (Nat.le_refl _) o)
/-- A store into a block that is neither the reader's nor holds its bytes. -/
theorem RD.setNew {w : World} {b H B j : Nat} {v : Value} {l : List Nat} (h : RD w b H v l) (hb : B ≠ b) (hv : H ≤ B) (u : Value) : RD (w.setCell ⟨B, j, none⟩ u) b H v l := by
  have e := heap_setCell_other w ⟨B, j, none⟩ b u (fun e => hb e.symm)
  refine ⟨(World.cell?_of_block (w := w) (a := ⟨b, 0, none⟩) e).trans h.c, fun i => (World.frozen?_of_block (w := w) (a := ⟨b, i, none⟩) e).trans (h.fz i), ?_, h.ne, h.hi, by rw [World.size_setCell]; exact h.lt⟩
  obtain ⟨h1, a, cap, h2, h3, h4, h5⟩ := h.br
  refine ⟨h1, a, cap, h2, h3, h4, ?_⟩
  rcases h5 with c | ⟨x, e2, hc⟩
  · exact Or.inl c
  · refine Or.inr ⟨x, e2, fun i hi => ?_⟩
    have := h.hi x _ _ (by rw [h2, e2])
    rw [← hc i hi]
    exact World.cell?_of_block (w := w) (a := x.add i) (heap_setCell_other w ⟨B, j, none⟩ (x.add i).block u (by rw [add_block]; simp; omega))

/-- What the reader does with a cell. -/
def Readd (r : Nat ⊕ (Tr × List Nat)) (b H : Nat) (w : World) (e : Ending) (w' : World) : Prop :=
  match r with
  | .inl x => e = gaveUp x ∧ KR b w w'
  | .inr p => ∃ cv v2, e = .returned cv ∧ CS w' (fun k => w.heap.size ≤ k) p.1 cv ∧ RD w' b H v2 p.2 ∧ KR b w w' ∧ p.2.length ≤ 1048576

end Go.Proofs.Ytbkjghhghefejaa
