/-
  The statement CodeBegins, walked.
-/
import Derived.Test.YtjngknnkffbnmaaDoorCdMath2q
import Derived.Deep.QuietTactic
import Derived.BigQuiet
namespace Go.Proofs.YtjngknnkffbnmaaDoor
set_option maxRecDepth 100000
open Go.RowKit Crc

/-- A cell in a box. -/
structure Bxc (w : World) (q : Nat) (k : Int) (n : Nat) (s : ByteArray) (u : Value) : Prop where
  lt : q < w.heap.size
  c0 : w.cell? ⟨q, 0, none⟩ = some (.int .i64 k)
  c1 : w.cell? ⟨q, 1, none⟩ = some (.int .u64 n)
  c2 : w.cell? ⟨q, 2, none⟩ = some (.string s)
  c3 : w.cell? ⟨q, 3, none⟩ = some u
theorem Bxc.below {w w' : World} {q : Nat} {k : Int} {n : Nat} {s : ByteArray} {u : Value} (h : Bxc w q k n s u) (hb : Below w.heap.size w w') : Bxc w' q k n s u :=
  ⟨by have := h.lt; have := hb.size; omega, cell_kept hb (Nat.le_refl _) h.c0, cell_kept hb (Nat.le_refl _) h.c1, cell_kept hb (Nat.le_refl _) h.c2, cell_kept hb (Nat.le_refl _) h.c3⟩
theorem Bxc.new (w : World) (k : Int) (n : Nat) (s : ByteArray) (u : Value) (t : TypeId) : Bxc (w.alloc (.cells #[.int .i64 k, .int .u64 n, .string s, u] t)) w.heap.size k n s u :=
  ⟨by simp, by rw [World.cell?_alloc_new]; rfl, by rw [World.cell?_alloc_new]; rfl, by rw [World.cell?_alloc_new]; rfl, by rw [World.cell?_alloc_new]; rfl⟩

end Go.Proofs.YtjngknnkffbnmaaDoor
