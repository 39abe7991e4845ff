/-
  Layer 19: what a drawn region's walk wants: a box that was made, and what stays beside it.
-/
import Derived.Test.YtjngknnkffbnmaaDoorGS1
import Derived.Test.YtjngknnkffbnmaaDoorHpInv2
namespace Go.Proofs.YtjngknnkffbnmaaDoor
set_option maxRecDepth 100000
open Go.RowKit Crc Sn

namespace Sn
theorem evT {A : Act} {t : Nat} {v : Value} (h : A.eval (.tmp t) = v) : A.tmps[t]?.getD undef = v := by
  have : A.eval (.tmp t) = A.tmps.getD t undef := rfl
  rw [this] at h
  simpa using h
theorem laterT {L : Nat → Bool} {i j : Nat} (h : L j = true) : Later L i j = true := by
  unfold Later
  split
  · rfl
  · exact h
theorem not_yet {L : Nat → Bool} {i j : Nat} (hi : L i = false) (h : L j = true → L i = true) : L j = false := by
  cases q : L j with
  | false => rfl
  | true => rw [h q] at hi; cases hi
theorem blk_lt {w : World} {b : Nat} {o : Obj} (h : w.heap[b]? = some o) : b < w.heap.size := by
  rcases Nat.lt_or_ge b w.heap.size with h' | h'
  · exact h'
  · rw [Array.getElem?_eq_none h'] at h; cases h
/-- A box that lies not below B, and holds x. -/
def Bx (w : World) (B : Nat) (v : Value) (x : Array Value) (T : TypeId) : Prop := ∃ g, v = .pointer (some ⟨g, 0, none⟩) ∧ B ≤ g ∧ w.heap[g]? = some (.cells x T (0, 0))
theorem Bx.below {w w' : World} {B : Nat} {v : Value} {x : Array Value} {T : TypeId} (h : Bx w B v x T) (hb : Below w.heap.size w w') : Bx w' B v x T := by
  obtain ⟨g, e, hg, hh⟩ := h
  exact ⟨g, e, hg, (hb.block _ (blk_lt hh)).trans hh⟩
theorem Bx.oth {w w' : World} {B g : Nat} {v : Value} {x : Array Value} {T : TypeId} (h : Bx w B v x T) (hne : v ≠ .pointer (some ⟨g, 0, none⟩)) (ho : ∀ k, k ≠ g → w'.heap[k]? = w.heap[k]?) : Bx w' B v x T := by
  obtain ⟨g', e, hg, hh⟩ := h
  exact ⟨g', e, hg, (ho g' (fun q => hne (by rw [e, q]))).trans hh⟩
theorem Bx.new {w : World} {B : Nat} (x : Array Value) (T : TypeId) (hB : B ≤ w.heap.size) : Bx (w.alloc (.cells x T)) B (.pointer (some ⟨w.heap.size, 0, none⟩)) x T := ⟨_, rfl, hB, heap_alloc_new _ _⟩
theorem Bx.ne {w : World} {B : Nat} {v : Value} {x : Array Value} {T : TypeId} (h : Bx w B v x T) : v ≠ .pointer (some ⟨w.heap.size, 0, none⟩) := by
  obtain ⟨g, e, hg, hh⟩ := h
  have := blk_lt hh
  intro q
  rw [e] at q
  injection q with q
  injection q with q
  injection q with q
  omega
end Sn

end Go.Proofs.YtjngknnkffbnmaaDoor
