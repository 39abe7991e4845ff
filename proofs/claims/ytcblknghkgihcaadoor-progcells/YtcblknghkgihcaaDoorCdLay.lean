/-
  Layer 7: the landed writer's lay, walked where there is room.
-/
import Derived.Test.YtcblknghkgihcaaDoorCdWrite
import Derived.Deep.AppendLies
namespace Go.Proofs.YtcblknghkgihcaaDoor
set_option maxRecDepth 100000
open Go.RowKit Crc

theorem cell_one (w : World) (u : Value) (t : TypeId) : ∀ j y, [u][j]? = some y → (w.alloc (.cells #[u] t)).cell? (Addr.add ⟨w.heap.size, 0, none⟩ j) = some y := by
  intro j y hy
  match j, hy with
  | 0, hy =>
    rw [Addr_add_zero, World.cell?_alloc_new]
    simpa using hy

/-- What is laid and then noted in the writer's block is the writer's again. -/
theorem WR.laid {w w1 w2 : World} {b B g cap : Nat} {v : Value} {l : List Nat} {c : Nat} (h : WR w b B v l) (hc : c < 256) (o : Obj) (hw : w1 = w.alloc o)
    (hown : w2.ownsRow B 5 1 (.slice (some ⟨g, 0, none⟩) (l.length + 1) cap) (l.length + 1) (c8 l ++ [.int .u8 (c : Int)])) (hgrow : w1.grownBy w2 v.ownBlock) (hat : v.ownBlock = some g ∨ g = w.heap.size + 1) :
    w2.cell? ⟨b, 0, none⟩ = some v ∧ w2.frozen? ⟨b, 0, none⟩ = false ∧ WR (w2.setCell ⟨b, 0, none⟩ (.slice (some ⟨g, 0, none⟩) (l.length + 1) cap)) b B (.slice (some ⟨g, 0, none⟩) (l.length + 1) cap) (l ++ [c]) ∧
      Kept b v (.slice (some ⟨g, 0, none⟩) (l.length + 1) cap) w (w2.setCell ⟨b, 0, none⟩ (.slice (some ⟨g, 0, none⟩) (l.length + 1) cap)) := by
  subst hw
  have hlt := h.lt
  have hlo := h.lo
  have hs1 : (w.alloc o).heap.size = w.heap.size + 1 := by simp
  have hbb : w2.heap[b]? = w.heap[b]? := by
    rw [hgrow.block b (by omega) (fun e => h.ne b e.symm rfl)]
    exact Below.heap_alloc w _ b hlt
  have hgb : g ≠ b := by
    rcases hat with e | e
    · exact h.ne g e
    · omega
  have hc2 : w2.cell? ⟨b, 0, none⟩ = some v := by
    have := h.c
    unfold World.cell? at this ⊢
    simpa [hbb] using this
  have hf2 : ∀ i, w2.frozen? ⟨b, i, none⟩ = false := by
    intro i
    have := h.fz i
    unfold World.frozen? at this ⊢
    simpa [hbb] using this
  have hsz := hgrow.size
  have hb2 : Below B w w2 := ((Below.refl B w).alloc (by omega) o).grown hgrow (by omega) (fun k hk => (h.ow.2.lt k hk).1)
  have hkp : Kept b v (.slice (some ⟨g, 0, none⟩) (l.length + 1) cap) w (w2.setCell ⟨b, 0, none⟩ (.slice (some ⟨g, 0, none⟩) (l.length + 1) cap)) := by
    refine ⟨hb2.os, hb2.tape, hb2.output, by rw [World.size_setCell]; omega, fun k hk hb hv => ?_, fun k hk => ?_⟩
    · rw [heap_setCell_other _ _ _ _ hb, hgrow.block k (by omega) (fun e => hv e.symm)]
      exact Below.heap_alloc w _ k hk
    · simp [Value.ownBlock] at hk
      subst hk
      rcases hat with e | e
      · exact Or.inl e
      · exact Or.inr (by omega)
  refine ⟨hc2, hf2 0, ⟨?_, ?_, ?_, hlo, ?_, ?_⟩, hkp⟩
  · exact World.cell?_setCell_same _ _ _ hc2
  · intro i; rw [World.frozen?_setCell]; exact hf2 i
  · refine ⟨h.ow.1.append (fun d hd => by simp at hd; omega), ?_⟩
    rw [c8_append, List.length_append]
    exact ownsRow_far (g := g) hown (heap_setCell_other _ _ _ _ hgb) rfl
  · rw [World.size_setCell]; omega
  · intro k hk
    simp [Value.ownBlock] at hk
    omega

end Go.Proofs.YtcblknghkgihcaaDoor
