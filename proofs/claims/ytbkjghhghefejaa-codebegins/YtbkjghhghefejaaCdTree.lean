/-
  Layer 7: cells as trees, and how they lie in memory.
-/
import Derived.Test.YtbkjghhghefejaaCdTake
namespace Go.Proofs.Ytbkjghhghefejaa
open Go.RowKit Crc

inductive Tr where
  | mk (k : Int) (n : Nat) (s : ByteArray) (l : List Tr)

/-- The four cells at the place i of a slice that begins at o in the block g. -/
structure Lies (w : World) (g o i : Nat) (k : Int) (n : Nat) (s : ByteArray) (u : Value) : Prop where
  c0 : w.cell? ⟨g, o + i * 4, none⟩ = some (.int .i64 k)
  c1 : w.cell? ⟨g, o + i * 4 + 1, none⟩ = some (.int .u64 n)
  c2 : w.cell? ⟨g, o + i * 4 + 2, none⟩ = some (.string s)
  c3 : w.cell? ⟨g, o + i * 4 + 3, none⟩ = some u

def cellV (k : Int) (n : Nat) (s : ByteArray) (u : Value) : Value := .agg #[.int .i64 k, .int .u64 n, .string s, u]

/-- The value v reads as the tree. -/
inductive CR (w : World) : Tr → Value → Prop
  | mk (k : Int) (n : Nat) (s : ByteArray) (ts : List Tr) (a : Option Addr) (cap : Nat) (ks : Nat → Int) (ns : Nat → Nat) (ss : Nat → ByteArray) (us : Nat → Value)
      (hk : -9223372036854775808 ≤ k ∧ k ≤ 9223372036854775807) (hn : n < 18446744073709551616) (hs : s.size ≤ 9223372036854775807) (hl : ts.length ≤ cap) (hc : cap ≤ 9223372036854775807) (h0 : a = none → ts = [])
      (hx : ∀ x i, a = some x → i < ts.length → x.spot = none ∧ Lies w x.block x.off i (ks i) (ns i) (ss i) (us i))
      (hr : ∀ i (h : i < ts.length), CR w ts[i] (cellV (ks i) (ns i) (ss i) (us i))) : CR w (.mk k n s ts) (cellV k n s (.slice a ts.length cap))

theorem cell_kept {w w' : World} {B : Nat} (hg : Below B w w') (hB : w.heap.size ≤ B) {x : Addr} {u : Value} (h : w.cell? x = some u) : w'.cell? x = some u := by
  have hb : x.block < w.heap.size := by
    rcases Nat.lt_or_ge x.block w.heap.size with h1 | h1
    · exact h1
    · exfalso
      unfold World.cell? at h
      rw [Array.getElem?_eq_none h1] at h
      simp at h
  have e := hg.block x.block (by omega)
  unfold World.cell? at h ⊢
  rw [e]; exact h

theorem Lies.below {w w' : World} {B g o i : Nat} {k : Int} {n : Nat} {s : ByteArray} {u : Value} (h : Lies w g o i k n s u) (hg : Below B w w') (hB : w.heap.size ≤ B) : Lies w' g o i k n s u :=
  ⟨cell_kept hg hB h.c0, cell_kept hg hB h.c1, cell_kept hg hB h.c2, cell_kept hg hB h.c3⟩

theorem CR.kept {w w' : World} {B : Nat} {t : Tr} {v : Value} (h : CR w t v) (hg : Below B w w') (hB : w.heap.size ≤ B) : CR w' t v := by
  induction h with
  | mk k n s ts a cap ks ns ss us hk hn hs hl hc h0 hx hr ih =>
    exact .mk k n s ts a cap ks ns ss us hk hn hs hl hc h0 (fun x i e hi => ⟨(hx x i e hi).1, (hx x i e hi).2.below hg hB⟩) ih

end Go.Proofs.Ytbkjghhghefejaa
