/-
  Layer 7: the landed reader's take, walked where there is enough.
-/
import Derived.Test.YtcblknghkgihcaaDoorCdWrite
namespace Go.Proofs.YtcblknghkgihcaaDoor
set_option maxRecDepth 100000
open Go.RowKit Crc

/-- A reader in the block b, with the bytes l left, that lie elsewhere, in a block below H. -/
structure RD (w : World) (b H : Nat) (v : Value) (l : List Nat) : Prop where
  c : w.cell? ⟨b, 0, none⟩ = some v
  fz : ∀ i, w.frozen? ⟨b, i, none⟩ = false
  br : BR w v l
  ne : ∀ a n k, v = .slice (some a) n k → a.block ≠ b
  hi : ∀ a n k, v = .slice (some a) n k → a.block < H
  lt : b < w.heap.size

theorem add_block (x : Addr) (i : Nat) : (x.add i).block = x.block := by unfold Addr.add; split <;> rfl

theorem BR.setFar {w : World} {b : Nat} {u v : Value} {l : List Nat} (h : BR w v l) (hf : ∀ a n k, v = .slice (some a) n k → a.block ≠ b) : BR (w.setCell ⟨b, 0, none⟩ u) v l := by
  obtain ⟨h1, a, cap, h2, h3, h4, h5⟩ := h
  refine ⟨h1, a, cap, h2, h3, h4, ?_⟩
  rcases h5 with c | ⟨x, e, hc⟩
  · exact Or.inl c
  · refine Or.inr ⟨x, e, fun i hi => ?_⟩
    have := hf x _ _ (by rw [h2, e])
    rw [World.cell?_setCell_other _ _ _ _ (fun e2 => this (by rw [← add_block x i, ← e2]))]
    exact hc i hi

theorem RD.taken {w : World} {b H n cap m : Nat} {a : Option Addr} {l : List Nat} (h : RD w b H (.slice a n cap) l) (hm : m ≤ l.length) :
    BR (w.setCell ⟨b, 0, none⟩ (sliced a m n cap 1)) (.slice a m cap) (l.take m) ∧ RD (w.setCell ⟨b, 0, none⟩ (sliced a m n cap 1)) b H (sliced a m n cap 1) (l.drop m) := by
  have hn : n = l.length := by obtain ⟨_, _, _, e, _⟩ := h.br; simp only [Value.slice.injEq] at e; exact e.2.1
  have hf : ∀ x k c, sliced a m n cap 1 = .slice (some x) k c → x.block ≠ b := by
    intro x k c e
    unfold sliced at e
    cases a with
    | none => split at e <;> simp at e
    | some y =>
      have hy := h.ne y _ _ rfl
      split at e
      · simp at e; rw [← e.1]; exact hy
      · simp at e; rw [← e.1, add_block]; exact hy
  have hf2 : ∀ x k c, sliced a m n cap 1 = .slice (some x) k c → x.block < H := by
    intro x k c e
    unfold sliced at e
    cases a with
    | none => split at e <;> simp at e
    | some y =>
      have hy := h.hi y _ _ rfl
      split at e
      · simp at e; rw [← e.1]; exact hy
      · simp at e; rw [← e.1, add_block]; exact hy
  have hc := h.br.cut (lo := m) (hi := n) (by omega) (by omega)
  rw [hn, List.take_length, ← hn] at hc
  refine ⟨(h.br.head hm).setFar (fun x k c e => by simp at e; exact h.ne x _ _ (by rw [e.1])), ⟨World.cell?_setCell_same _ _ _ h.c, fun i => by rw [World.frozen?_setCell]; exact h.fz i, hc.setFar hf, hf, hf2, by rw [World.size_setCell]; exact h.lt⟩⟩

end Go.Proofs.YtcblknghkgihcaaDoor
