/-
  Layer 19: what Load tells, as it lies in memory.
-/
import Derived.Test.YtjngknnkffbnmaaDoorSnPlainq
namespace Go.Proofs.YtjngknnkffbnmaaDoor
set_option maxRecDepth 100000
open Go.RowKit Crc Sn

namespace Sn
theorem set11_block {w : World} {b : Nat} {T : TypeId} {x0 x1 x2 x3 x4 x5 x6 x7 x8 x9 x10 : Value} (h : w.heap[b]? = some (.cells #[x0, x1, x2, x3, x4, x5, x6, x7, x8, x9, x10] T (0, 0))) (v0 v1 v2 v3 v4 v5 v6 v7 v8 v9 v10 : Value) :
    (((((((((((w.setCell ⟨b, 0, none⟩ v0).setCell ⟨b, 1, none⟩ v1).setCell ⟨b, 2, none⟩ v2).setCell ⟨b, 3, none⟩ v3).setCell ⟨b, 4, none⟩ v4).setCell ⟨b, 5, none⟩ v5).setCell ⟨b, 6, none⟩ v6).setCell ⟨b, 7, none⟩ v7).setCell ⟨b, 8, none⟩ v8).setCell ⟨b, 9, none⟩ v9).setCell ⟨b, 10, none⟩ v10).heap[b]? = some (.cells #[v0, v1, v2, v3, v4, v5, v6, v7, v8, v9, v10] T (0, 0)) := by
  have z0 : (w.setCell ⟨b, 0, none⟩ v0).heap[b]? = some (.cells #[v0, x1, x2, x3, x4, x5, x6, x7, x8, x9, x10] T (0, 0)) := heap_setCell_same _ _ 0 _ _ v0 h
  have z1 : ((w.setCell ⟨b, 0, none⟩ v0).setCell ⟨b, 1, none⟩ v1).heap[b]? = some (.cells #[v0, v1, x2, x3, x4, x5, x6, x7, x8, x9, x10] T (0, 0)) := heap_setCell_same _ _ 1 _ _ v1 z0
  have z2 : (((w.setCell ⟨b, 0, none⟩ v0).setCell ⟨b, 1, none⟩ v1).setCell ⟨b, 2, none⟩ v2).heap[b]? = some (.cells #[v0, v1, v2, x3, x4, x5, x6, x7, x8, x9, x10] T (0, 0)) := heap_setCell_same _ _ 2 _ _ v2 z1
  have z3 : ((((w.setCell ⟨b, 0, none⟩ v0).setCell ⟨b, 1, none⟩ v1).setCell ⟨b, 2, none⟩ v2).setCell ⟨b, 3, none⟩ v3).heap[b]? = some (.cells #[v0, v1, v2, v3, x4, x5, x6, x7, x8, x9, x10] T (0, 0)) := heap_setCell_same _ _ 3 _ _ v3 z2
  have z4 : (((((w.setCell ⟨b, 0, none⟩ v0).setCell ⟨b, 1, none⟩ v1).setCell ⟨b, 2, none⟩ v2).setCell ⟨b, 3, none⟩ v3).setCell ⟨b, 4, none⟩ v4).heap[b]? = some (.cells #[v0, v1, v2, v3, v4, x5, x6, x7, x8, x9, x10] T (0, 0)) := heap_setCell_same _ _ 4 _ _ v4 z3
  have z5 : ((((((w.setCell ⟨b, 0, none⟩ v0).setCell ⟨b, 1, none⟩ v1).setCell ⟨b, 2, none⟩ v2).setCell ⟨b, 3, none⟩ v3).setCell ⟨b, 4, none⟩ v4).setCell ⟨b, 5, none⟩ v5).heap[b]? = some (.cells #[v0, v1, v2, v3, v4, v5, x6, x7, x8, x9, x10] T (0, 0)) := heap_setCell_same _ _ 5 _ _ v5 z4
  have z6 : (((((((w.setCell ⟨b, 0, none⟩ v0).setCell ⟨b, 1, none⟩ v1).setCell ⟨b, 2, none⟩ v2).setCell ⟨b, 3, none⟩ v3).setCell ⟨b, 4, none⟩ v4).setCell ⟨b, 5, none⟩ v5).setCell ⟨b, 6, none⟩ v6).heap[b]? = some (.cells #[v0, v1, v2, v3, v4, v5, v6, x7, x8, x9, x10] T (0, 0)) := heap_setCell_same _ _ 6 _ _ v6 z5
  have z7 : ((((((((w.setCell ⟨b, 0, none⟩ v0).setCell ⟨b, 1, none⟩ v1).setCell ⟨b, 2, none⟩ v2).setCell ⟨b, 3, none⟩ v3).setCell ⟨b, 4, none⟩ v4).setCell ⟨b, 5, none⟩ v5).setCell ⟨b, 6, none⟩ v6).setCell ⟨b, 7, none⟩ v7).heap[b]? = some (.cells #[v0, v1, v2, v3, v4, v5, v6, v7, x8, x9, x10] T (0, 0)) := heap_setCell_same _ _ 7 _ _ v7 z6
  have z8 : (((((((((w.setCell ⟨b, 0, none⟩ v0).setCell ⟨b, 1, none⟩ v1).setCell ⟨b, 2, none⟩ v2).setCell ⟨b, 3, none⟩ v3).setCell ⟨b, 4, none⟩ v4).setCell ⟨b, 5, none⟩ v5).setCell ⟨b, 6, none⟩ v6).setCell ⟨b, 7, none⟩ v7).setCell ⟨b, 8, none⟩ v8).heap[b]? = some (.cells #[v0, v1, v2, v3, v4, v5, v6, v7, v8, x9, x10] T (0, 0)) := heap_setCell_same _ _ 8 _ _ v8 z7
  have z9 : ((((((((((w.setCell ⟨b, 0, none⟩ v0).setCell ⟨b, 1, none⟩ v1).setCell ⟨b, 2, none⟩ v2).setCell ⟨b, 3, none⟩ v3).setCell ⟨b, 4, none⟩ v4).setCell ⟨b, 5, none⟩ v5).setCell ⟨b, 6, none⟩ v6).setCell ⟨b, 7, none⟩ v7).setCell ⟨b, 8, none⟩ v8).setCell ⟨b, 9, none⟩ v9).heap[b]? = some (.cells #[v0, v1, v2, v3, v4, v5, v6, v7, v8, v9, x10] T (0, 0)) := heap_setCell_same _ _ 9 _ _ v9 z8
  have z10 : (((((((((((w.setCell ⟨b, 0, none⟩ v0).setCell ⟨b, 1, none⟩ v1).setCell ⟨b, 2, none⟩ v2).setCell ⟨b, 3, none⟩ v3).setCell ⟨b, 4, none⟩ v4).setCell ⟨b, 5, none⟩ v5).setCell ⟨b, 6, none⟩ v6).setCell ⟨b, 7, none⟩ v7).setCell ⟨b, 8, none⟩ v8).setCell ⟨b, 9, none⟩ v9).setCell ⟨b, 10, none⟩ v10).heap[b]? = some (.cells #[v0, v1, v2, v3, v4, v5, v6, v7, v8, v9, v10] T (0, 0)) := heap_setCell_same _ _ 10 _ _ v10 z9
  exact z10
theorem set11_other {w : World} {b k : Nat} (h : k ≠ b) (v0 v1 v2 v3 v4 v5 v6 v7 v8 v9 v10 : Value) : (((((((((((w.setCell ⟨b, 0, none⟩ v0).setCell ⟨b, 1, none⟩ v1).setCell ⟨b, 2, none⟩ v2).setCell ⟨b, 3, none⟩ v3).setCell ⟨b, 4, none⟩ v4).setCell ⟨b, 5, none⟩ v5).setCell ⟨b, 6, none⟩ v6).setCell ⟨b, 7, none⟩ v7).setCell ⟨b, 8, none⟩ v8).setCell ⟨b, 9, none⟩ v9).setCell ⟨b, 10, none⟩ v10).heap[k]? = w.heap[k]? := by
  have e0 : (w.setCell ⟨b, 0, none⟩ v0).heap[k]? = w.heap[k]? := heap_setCell_other _ _ _ _ h
  have e1 : ((w.setCell ⟨b, 0, none⟩ v0).setCell ⟨b, 1, none⟩ v1).heap[k]? = (w.setCell ⟨b, 0, none⟩ v0).heap[k]? := heap_setCell_other _ _ _ _ h
  have e2 : (((w.setCell ⟨b, 0, none⟩ v0).setCell ⟨b, 1, none⟩ v1).setCell ⟨b, 2, none⟩ v2).heap[k]? = ((w.setCell ⟨b, 0, none⟩ v0).setCell ⟨b, 1, none⟩ v1).heap[k]? := heap_setCell_other _ _ _ _ h
  have e3 : ((((w.setCell ⟨b, 0, none⟩ v0).setCell ⟨b, 1, none⟩ v1).setCell ⟨b, 2, none⟩ v2).setCell ⟨b, 3, none⟩ v3).heap[k]? = (((w.setCell ⟨b, 0, none⟩ v0).setCell ⟨b, 1, none⟩ v1).setCell ⟨b, 2, none⟩ v2).heap[k]? := heap_setCell_other _ _ _ _ h
  have e4 : (((((w.setCell ⟨b, 0, none⟩ v0).setCell ⟨b, 1, none⟩ v1).setCell ⟨b, 2, none⟩ v2).setCell ⟨b, 3, none⟩ v3).setCell ⟨b, 4, none⟩ v4).heap[k]? = ((((w.setCell ⟨b, 0, none⟩ v0).setCell ⟨b, 1, none⟩ v1).setCell ⟨b, 2, none⟩ v2).setCell ⟨b, 3, none⟩ v3).heap[k]? := heap_setCell_other _ _ _ _ h
  have e5 : ((((((w.setCell ⟨b, 0, none⟩ v0).setCell ⟨b, 1, none⟩ v1).setCell ⟨b, 2, none⟩ v2).setCell ⟨b, 3, none⟩ v3).setCell ⟨b, 4, none⟩ v4).setCell ⟨b, 5, none⟩ v5).heap[k]? = (((((w.setCell ⟨b, 0, none⟩ v0).setCell ⟨b, 1, none⟩ v1).setCell ⟨b, 2, none⟩ v2).setCell ⟨b, 3, none⟩ v3).setCell ⟨b, 4, none⟩ v4).heap[k]? := heap_setCell_other _ _ _ _ h
  have e6 : (((((((w.setCell ⟨b, 0, none⟩ v0).setCell ⟨b, 1, none⟩ v1).setCell ⟨b, 2, none⟩ v2).setCell ⟨b, 3, none⟩ v3).setCell ⟨b, 4, none⟩ v4).setCell ⟨b, 5, none⟩ v5).setCell ⟨b, 6, none⟩ v6).heap[k]? = ((((((w.setCell ⟨b, 0, none⟩ v0).setCell ⟨b, 1, none⟩ v1).setCell ⟨b, 2, none⟩ v2).setCell ⟨b, 3, none⟩ v3).setCell ⟨b, 4, none⟩ v4).setCell ⟨b, 5, none⟩ v5).heap[k]? := heap_setCell_other _ _ _ _ h
  have e7 : ((((((((w.setCell ⟨b, 0, none⟩ v0).setCell ⟨b, 1, none⟩ v1).setCell ⟨b, 2, none⟩ v2).setCell ⟨b, 3, none⟩ v3).setCell ⟨b, 4, none⟩ v4).setCell ⟨b, 5, none⟩ v5).setCell ⟨b, 6, none⟩ v6).setCell ⟨b, 7, none⟩ v7).heap[k]? = (((((((w.setCell ⟨b, 0, none⟩ v0).setCell ⟨b, 1, none⟩ v1).setCell ⟨b, 2, none⟩ v2).setCell ⟨b, 3, none⟩ v3).setCell ⟨b, 4, none⟩ v4).setCell ⟨b, 5, none⟩ v5).setCell ⟨b, 6, none⟩ v6).heap[k]? := heap_setCell_other _ _ _ _ h
  have e8 : (((((((((w.setCell ⟨b, 0, none⟩ v0).setCell ⟨b, 1, none⟩ v1).setCell ⟨b, 2, none⟩ v2).setCell ⟨b, 3, none⟩ v3).setCell ⟨b, 4, none⟩ v4).setCell ⟨b, 5, none⟩ v5).setCell ⟨b, 6, none⟩ v6).setCell ⟨b, 7, none⟩ v7).setCell ⟨b, 8, none⟩ v8).heap[k]? = ((((((((w.setCell ⟨b, 0, none⟩ v0).setCell ⟨b, 1, none⟩ v1).setCell ⟨b, 2, none⟩ v2).setCell ⟨b, 3, none⟩ v3).setCell ⟨b, 4, none⟩ v4).setCell ⟨b, 5, none⟩ v5).setCell ⟨b, 6, none⟩ v6).setCell ⟨b, 7, none⟩ v7).heap[k]? := heap_setCell_other _ _ _ _ h
  have e9 : ((((((((((w.setCell ⟨b, 0, none⟩ v0).setCell ⟨b, 1, none⟩ v1).setCell ⟨b, 2, none⟩ v2).setCell ⟨b, 3, none⟩ v3).setCell ⟨b, 4, none⟩ v4).setCell ⟨b, 5, none⟩ v5).setCell ⟨b, 6, none⟩ v6).setCell ⟨b, 7, none⟩ v7).setCell ⟨b, 8, none⟩ v8).setCell ⟨b, 9, none⟩ v9).heap[k]? = (((((((((w.setCell ⟨b, 0, none⟩ v0).setCell ⟨b, 1, none⟩ v1).setCell ⟨b, 2, none⟩ v2).setCell ⟨b, 3, none⟩ v3).setCell ⟨b, 4, none⟩ v4).setCell ⟨b, 5, none⟩ v5).setCell ⟨b, 6, none⟩ v6).setCell ⟨b, 7, none⟩ v7).setCell ⟨b, 8, none⟩ v8).heap[k]? := heap_setCell_other _ _ _ _ h
  have e10 : (((((((((((w.setCell ⟨b, 0, none⟩ v0).setCell ⟨b, 1, none⟩ v1).setCell ⟨b, 2, none⟩ v2).setCell ⟨b, 3, none⟩ v3).setCell ⟨b, 4, none⟩ v4).setCell ⟨b, 5, none⟩ v5).setCell ⟨b, 6, none⟩ v6).setCell ⟨b, 7, none⟩ v7).setCell ⟨b, 8, none⟩ v8).setCell ⟨b, 9, none⟩ v9).setCell ⟨b, 10, none⟩ v10).heap[k]? = ((((((((((w.setCell ⟨b, 0, none⟩ v0).setCell ⟨b, 1, none⟩ v1).setCell ⟨b, 2, none⟩ v2).setCell ⟨b, 3, none⟩ v3).setCell ⟨b, 4, none⟩ v4).setCell ⟨b, 5, none⟩ v5).setCell ⟨b, 6, none⟩ v6).setCell ⟨b, 7, none⟩ v7).setCell ⟨b, 8, none⟩ v8).setCell ⟨b, 9, none⟩ v9).heap[k]? := heap_setCell_other _ _ _ _ h
  exact e10.trans (e9.trans (e8.trans (e7.trans (e6.trans (e5.trans (e4.trans (e3.trans (e2.trans (e1.trans (e0))))))))))
theorem set11_below {w w0 : World} {b B : Nat} (hb : Below B w0 w) (h : B ≤ b) (v0 v1 v2 v3 v4 v5 v6 v7 v8 v9 v10 : Value) : Below B w0 (((((((((((w.setCell ⟨b, 0, none⟩ v0).setCell ⟨b, 1, none⟩ v1).setCell ⟨b, 2, none⟩ v2).setCell ⟨b, 3, none⟩ v3).setCell ⟨b, 4, none⟩ v4).setCell ⟨b, 5, none⟩ v5).setCell ⟨b, 6, none⟩ v6).setCell ⟨b, 7, none⟩ v7).setCell ⟨b, 8, none⟩ v8).setCell ⟨b, 9, none⟩ v9).setCell ⟨b, 10, none⟩ v10) := by
  have b0 := hb.setCell (p := ⟨b, 0, none⟩) h v0
  have b1 := b0.setCell (p := ⟨b, 1, none⟩) h v1
  have b2 := b1.setCell (p := ⟨b, 2, none⟩) h v2
  have b3 := b2.setCell (p := ⟨b, 3, none⟩) h v3
  have b4 := b3.setCell (p := ⟨b, 4, none⟩) h v4
  have b5 := b4.setCell (p := ⟨b, 5, none⟩) h v5
  have b6 := b5.setCell (p := ⟨b, 6, none⟩) h v6
  have b7 := b6.setCell (p := ⟨b, 7, none⟩) h v7
  have b8 := b7.setCell (p := ⟨b, 8, none⟩) h v8
  have b9 := b8.setCell (p := ⟨b, 9, none⟩) h v9
  have b10 := b9.setCell (p := ⟨b, 10, none⟩) h v10
  exact b10
theorem set11_size {w : World} {b : Nat} (v0 v1 v2 v3 v4 v5 v6 v7 v8 v9 v10 : Value) : (((((((((((w.setCell ⟨b, 0, none⟩ v0).setCell ⟨b, 1, none⟩ v1).setCell ⟨b, 2, none⟩ v2).setCell ⟨b, 3, none⟩ v3).setCell ⟨b, 4, none⟩ v4).setCell ⟨b, 5, none⟩ v5).setCell ⟨b, 6, none⟩ v6).setCell ⟨b, 7, none⟩ v7).setCell ⟨b, 8, none⟩ v8).setCell ⟨b, 9, none⟩ v9).setCell ⟨b, 10, none⟩ v10).heap.size = w.heap.size := by simp only [World.size_setCell]
/-- A snapshot as it is told. -/
def LdP (w : World) (z : Sp) (E : Int) (e : Ending) (w' : World) : Prop := ∃ (mv : Value) (k1 k2 : Int) (n1 n2 : Nat) (s1 s2 : ByteArray) (u1 u2 : Value), e = .returned (.tuple #[.agg #[.int .u64 z.ix, .int .u64 z.tm, mv, .int .i64 k1, .int .u64 n1, .string s1, u1, .int .i64 k2, .int .u64 n2, .string s2, u2], .int .i64 E]) ∧ NR w' mv z.ms ∧ CR w' z.ss (cellV k1 n1 s1 u1) ∧ CR w' z.st (cellV k2 n2 s2 u2) ∧ Below w.heap.size w w'
def LdR (w : World) (l : List Nat) (e : Ending) (w' : World) : Prop := LdP w (loadV l).2 (if (loadV l).1 = true then 0 else 4) e w'
theorem keep4a {W : World} {B : Nat} {u0 u1 u2 u3 : Value} (h : W.cell? ⟨B, 0, none⟩ = some u0 ∧ W.cell? ⟨B, 1, none⟩ = some u1 ∧ W.cell? ⟨B, 2, none⟩ = some u2 ∧ W.cell? ⟨B, 3, none⟩ = some u3) (o : Obj) : (W.alloc o).cell? ⟨B, 0, none⟩ = some u0 ∧ (W.alloc o).cell? ⟨B, 1, none⟩ = some u1 ∧ (W.alloc o).cell? ⟨B, 2, none⟩ = some u2 ∧ (W.alloc o).cell? ⟨B, 3, none⟩ = some u3 :=
  keep4s h ((Below.refl _ _).alloc (Nat.le_refl _) o)
theorem at_cnt (t : Tr) (i : Nat) : (atT t i).cnt ≤ t.cnt := by
  obtain ⟨k, n, s, l⟩ := t
  have hz : zT.cnt = 1 := by unfold zT; rw [Tr.cnt_mk, cnts_nil]
  have hp := cnt_pos (.mk k n s l)
  unfold atT
  split
  · rw [List.getD_eq_getElem?_getD]
    by_cases hi : i < l.length
    · rw [List.getElem?_eq_getElem hi, Tr.cnt_mk]
      have h1 := cnts_take l i hi
      have h2 := cnts_append (l.take (i + 1)) (l.drop (i + 1))
      rw [List.take_append_drop] at h2
      simp only [Option.getD_some]
      omega
    · rw [List.getElem?_eq_none (by show l.length ≤ i; omega)]
      simp only [Option.getD_none]
      omega
  · omega
theorem at_st {t : Tr} (h : ST t) (i : Nat) : ST (atT t i) := by
  obtain ⟨k, n, s, l⟩ := t
  have hz : ST zT := by unfold zT; rw [ST_mk]; exact ⟨by decide, fun t h => by cases h⟩
  rw [ST_mk] at h
  unfold atT
  split
  · rw [List.getD_eq_getElem?_getD]
    by_cases hi : i < l.length
    · rw [List.getElem?_eq_getElem hi]
      exact h.2 _ (List.getElem_mem hi)
    · rw [List.getElem?_eq_none (by show l.length ≤ i; omega)]
      exact hz
  · exact hz
theorem len_cnt (t : Tr) : t.l.length ≤ t.cnt := by
  obtain ⟨k, n, s, l⟩ := t
  rw [Tr.cnt_mk]
  have : l.length ≤ cnts l := by
    induction l with
    | nil => simp [cnts_nil]
    | cons a l ih => rw [cnts_cons, List.length_cons]; have := cnt_pos a; omega
  show l.length ≤ _
  omega
theorem sz28 : (Tryd.prog.info? 28).map (fun i => i.size) = some 11 := by kernel_rfl
theorem ld_zero {w W wk : World} {b : Nat} {x0 x1 x2 x3 x4 x5 x6 x7 x8 x9 x10 : Value} (hblk : wk.heap[b]? = some (.cells #[x0, x1, x2, x3, x4, x5, x6, x7, x8, x9, x10] 28 (0, 0))) (hb : w.heap.size ≤ b) (hB : Below w.heap.size w wk)
    (hW : W = (((((((((((wk.setCell ⟨b, 0, none⟩ (.int .u64 (0 : Nat))).setCell ⟨b, 1, none⟩ (.int .u64 (0 : Nat))).setCell ⟨b, 2, none⟩ (.slice none 0 0)).setCell ⟨b, 3, none⟩ (.int .i64 0)).setCell ⟨b, 4, none⟩ (.int .u64 (0 : Nat))).setCell ⟨b, 5, none⟩ (.string nob)).setCell ⟨b, 6, none⟩ (.slice none 0 0)).setCell ⟨b, 7, none⟩ (.int .i64 0)).setCell ⟨b, 8, none⟩ (.int .u64 (0 : Nat))).setCell ⟨b, 9, none⟩ (.string nob)).setCell ⟨b, 10, none⟩ (.slice none 0 0))) :
    W.heap[b]? = some (.cells #[.int .u64 (0 : Nat), .int .u64 (0 : Nat), .slice none 0 0, .int .i64 0, .int .u64 (0 : Nat), .string nob, .slice none 0 0, .int .i64 0, .int .u64 (0 : Nat), .string nob, .slice none 0 0] 28 (0, 0)) ∧ LdP w zS 4 (.returned (.tuple #[.agg #[.int .u64 (0 : Nat), .int .u64 (0 : Nat), .slice none 0 0, .int .i64 0, .int .u64 (0 : Nat), .string nob, .slice none 0 0, .int .i64 0, .int .u64 (0 : Nat), .string nob, .slice none 0 0], .int .i64 4])) W := by
  subst hW
  exact ⟨set11_block hblk _ _ _ _ _ _ _ _ _ _ _, _, _, _, _, _, _, _, _, _, rfl, nr_nil _, cr_zT _, cr_zT _, set11_below hB hb _ _ _ _ _ _ _ _ _ _ _⟩
theorem cr_other {w W : World} {b : Nat} {t : Tr} {v : Value} {S : Nat → Prop} (h : CS w S t v) (hS : ∀ k, S k → k ≠ b) (hW : ∀ k, k ≠ b → W.heap[k]? = w.heap[k]?) : CR W t v := (h.kept (fun k hk => hW k (hS k hk))).cr
theorem nr_other {w W : World} {b : Nat} {v : Value} {l : List Int} (h : NR w v l) (hS : 0 < l.length → ∀ k, v.ownBlock = some k → k ≠ b) (hW : ∀ k, k ≠ b → W.heap[k]? = w.heap[k]?) : NR W v l := by
  obtain ⟨a, cap, h1, h2, h3, h4, h5⟩ := h.form
  refine ⟨⟨a, cap, h1, h2, h3, h4, fun y hy => ⟨(h5 y hy).1, fun i hi => ?_⟩⟩⟩
  refine (World.cell?_of_block (w := w) (a := ⟨y.block, y.off + i, none⟩) (hW _ ?_)).trans ((h5 y hy).2 i hi)
  exact hS (by omega) y.block (by rw [h1, hy]; rfl)
theorem ld_good {w W wk : World} {b : Nat} {z : Sp} {mv : Value} {k1 k2 : Int} {n1 n2 : Nat} {s1 s2 : ByteArray} {u1 u2 x0 x1 x2 x3 x4 x5 x6 x7 x8 x9 x10 : Value} (hblk : wk.heap[b]? = some (.cells #[x0, x1, x2, x3, x4, x5, x6, x7, x8, x9, x10] 28 (0, 0))) (hb : w.heap.size ≤ b) (hB : Below w.heap.size w wk)
    (hn : NR wk mv z.ms) (hu : ∀ k, mv.ownBlock = some k → k ≠ b) (h1 : CS wk (fun k => b + 1 ≤ k) z.ss (cellV k1 n1 s1 u1)) (h2 : CS wk (fun k => b + 1 ≤ k) z.st (cellV k2 n2 s2 u2))
    (hW : W = (((((((((((wk.setCell ⟨b, 0, none⟩ (.int .u64 z.ix)).setCell ⟨b, 1, none⟩ (.int .u64 z.tm)).setCell ⟨b, 2, none⟩ mv).setCell ⟨b, 3, none⟩ (.int .i64 k1)).setCell ⟨b, 4, none⟩ (.int .u64 n1)).setCell ⟨b, 5, none⟩ (.string s1)).setCell ⟨b, 6, none⟩ u1).setCell ⟨b, 7, none⟩ (.int .i64 k2)).setCell ⟨b, 8, none⟩ (.int .u64 n2)).setCell ⟨b, 9, none⟩ (.string s2)).setCell ⟨b, 10, none⟩ u2)) :
    W.heap[b]? = some (.cells #[.int .u64 z.ix, .int .u64 z.tm, mv, .int .i64 k1, .int .u64 n1, .string s1, u1, .int .i64 k2, .int .u64 n2, .string s2, u2] 28 (0, 0)) ∧ LdP w z 0 (.returned (.tuple #[.agg #[.int .u64 z.ix, .int .u64 z.tm, mv, .int .i64 k1, .int .u64 n1, .string s1, u1, .int .i64 k2, .int .u64 n2, .string s2, u2], .int .i64 0])) W := by
  have hoth : ∀ k, k ≠ b → W.heap[k]? = wk.heap[k]? := fun k hk => by rw [hW]; exact set11_other hk _ _ _ _ _ _ _ _ _ _ _
  exact ⟨by rw [hW]; exact set11_block hblk _ _ _ _ _ _ _ _ _ _ _, mv, k1, k2, n1, n2, s1, s2, u1, u2, rfl, nr_other hn (fun _ => hu) hoth, cr_other h1 (fun k hk => by omega) hoth, cr_other h2 (fun k hk => by omega) hoth, by rw [hW]; exact set11_below hB hb _ _ _ _ _ _ _ _ _ _ _⟩
end Sn

end Go.Proofs.YtjngknnkffbnmaaDoor
