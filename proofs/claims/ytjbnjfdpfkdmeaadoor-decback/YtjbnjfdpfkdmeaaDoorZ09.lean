/-
  Prt2
-/
import Derived.Test.YtjbnjfdpfkdmeaaDoorZ08

/-
  A room in memory: its five cells, its four numbers, and that all of them lie apart.
-/
namespace Go.Proofs.YtjbnjfdpfkdmeaaDoor
set_option maxRecDepth 100000
open Go.RowKit Pt

/-- Blocks that are there, each another one. -/
def Sep (w : World) (ls : List Nat) : Prop := ls.Nodup ∧ ∀ x ∈ ls, x < w.heap.size
theorem Sep.mv {w w' : World} {p r : List Nat} {g g' : Nat} (h : Sep w (p ++ g :: r)) (m : Mv w w' g g') (hg : g' < w'.heap.size) : Sep w' (p ++ g' :: r) := by
  obtain ⟨h1, h2⟩ := h
  have hs := m.1.size
  have h3 := (List.perm_middle (a := g) (l₁ := p) (l₂ := r)).nodup_iff.1 h1
  rw [List.nodup_cons] at h3
  refine ⟨(List.perm_middle (a := g') (l₁ := p) (l₂ := r)).nodup_iff.2 ?_, ?_⟩
  · rw [List.nodup_cons]
    refine ⟨?_, h3.2⟩
    rcases m.2 with e | e
    · rw [e]; exact h3.1
    · intro hm
      have := h2 g' (by rcases List.mem_append.1 hm with q | q <;> simp [q])
      omega
  · intro x hx
    rcases List.mem_append.1 hx with q | q
    · have := h2 x (by simp [q]); omega
    · rcases List.mem_cons.1 q with q | q
      · rw [q]; exact hg
      · have := h2 x (by simp [q]); omega
theorem Sep.size {w w' : World} {ls : List Nat} (h : Sep w ls) (hs : w.heap.size ≤ w'.heap.size) : Sep w' ls := ⟨h.1, fun x hx => Nat.lt_of_lt_of_le (h.2 x hx) hs⟩
theorem Sep.facts {w : World} {b bx g0 g1 g2 g3 : Nat} {ss : List Nat} (h : Sep w (b :: bx :: g0 :: g1 :: g2 :: g3 :: ss)) :
    (b ≠ bx ∧ b ≠ g0 ∧ b ≠ g1 ∧ b ≠ g2 ∧ b ≠ g3) ∧ (bx ≠ g0 ∧ bx ≠ g1 ∧ bx ≠ g2 ∧ bx ≠ g3) ∧ (g0 ≠ g1 ∧ g0 ≠ g2 ∧ g0 ≠ g3) ∧ (g1 ≠ g2 ∧ g1 ≠ g3) ∧ g2 ≠ g3 ∧ (b < w.heap.size ∧ bx < w.heap.size) := by
  obtain ⟨h1, h2⟩ := h
  have hb := h2 b (by simp)
  have hbx := h2 bx (by simp)
  simp only [List.nodup_cons, List.mem_cons, not_or] at h1
  obtain ⟨⟨a1, a2, a3, a4, a5, _⟩, ⟨b1, b2, b3, b4, _⟩, ⟨c1, c2, c3, _⟩, ⟨d1, d2, _⟩, ⟨e1, _⟩, _⟩ := h1
  exact ⟨⟨a1, a2, a3, a4, a5⟩, ⟨b1, b2, b3, b4⟩, ⟨c1, c2, c3⟩, ⟨d1, d2⟩, e1, hb, hbx⟩

structure RM (w : World) (b g0 g1 g2 g3 : Nat) (v0 v1 v2 v3 : Value) (T U L A : Nat) (ed : Bool) : Prop where
  c0 : w.cell? ⟨b, 0, none⟩ = some v0
  c1 : w.cell? ⟨b, 1, none⟩ = some v1
  c2 : w.cell? ⟨b, 2, none⟩ = some v2
  c3 : w.cell? ⟨b, 3, none⟩ = some v3
  c4 : w.cell? ⟨b, 4, none⟩ = some (.bool ed)
  fz : ∀ i, w.frozen? ⟨b, i, none⟩ = false
  p0 : PR w g0 v0 T
  p1 : PR w g1 v1 U
  p2 : PR w g2 v2 L
  p3 : PR w g3 v3 A

section
variable {w w' : World} {b g0 g1 g2 g3 : Nat} {v0 v1 v2 v3 : Value} {T U L A : Nat} {ed : Bool}
theorem gb_cell {b g i : Nat} (m : w.grownBy w' (some g)) (hb : b < w.heap.size) (hne : b ≠ g) : w'.cell? ⟨b, i, none⟩ = w.cell? ⟨b, i, none⟩ := World.cell?_of_block (m.block b hb (by simpa using hne))
theorem gb_frozen {b g i : Nat} (m : w.grownBy w' (some g)) (hb : b < w.heap.size) (hne : b ≠ g) : w'.frozen? ⟨b, i, none⟩ = w.frozen? ⟨b, i, none⟩ := World.frozen?_of_block (m.block b hb (by simpa using hne))
theorem RM.grown (h : RM w b g0 g1 g2 g3 v0 v1 v2 v3 T U L A ed) {g : Nat} (m : w.grownBy w' (some g)) (hb : b < w.heap.size) (n : b ≠ g) (n0 : g0 ≠ g) (n1 : g1 ≠ g) (n2 : g2 ≠ g) (n3 : g3 ≠ g) : RM w' b g0 g1 g2 g3 v0 v1 v2 v3 T U L A ed :=
  ⟨by rw [gb_cell m hb n]; exact h.c0, by rw [gb_cell m hb n]; exact h.c1, by rw [gb_cell m hb n]; exact h.c2, by rw [gb_cell m hb n]; exact h.c3, by rw [gb_cell m hb n]; exact h.c4,
    fun i => by rw [gb_frozen m hb n]; exact h.fz i, h.p0.other m n0, h.p1.other m n1, h.p2.other m n2, h.p3.other m n3⟩
theorem RM.below (h : RM w b g0 g1 g2 g3 v0 v1 v2 v3 T U L A ed) (m : Below w.heap.size w w') (hb : b < w.heap.size) : RM w' b g0 g1 g2 g3 v0 v1 v2 v3 T U L A ed := by
  have hc : ∀ i, w'.cell? ⟨b, i, none⟩ = w.cell? ⟨b, i, none⟩ := fun i => m.cell (p := ⟨b, i, none⟩) hb
  exact ⟨by rw [hc]; exact h.c0, by rw [hc]; exact h.c1, by rw [hc]; exact h.c2, by rw [hc]; exact h.c3, by rw [hc]; exact h.c4,
    fun i => by rw [m.frozen (p := ⟨b, i, none⟩) hb]; exact h.fz i, h.p0.below m h.p0.lt, h.p1.below m h.p1.lt, h.p2.below m h.p2.lt, h.p3.below m h.p3.lt⟩
theorem RM.drewN (h : RM w b g0 g1 g2 g3 v0 v1 v2 v3 T U L A ed) (q : Nat) : RM (w.drewN q) b g0 g1 g2 g3 v0 v1 v2 v3 T U L A ed :=
  ⟨h.c0, h.c1, h.c2, h.c3, h.c4, h.fz, h.p0, h.p1, h.p2, h.p3⟩
theorem set_same (w : World) (b i : Nat) (v u : Value) (h : w.cell? ⟨b, i, none⟩ = some u) : (w.setCell ⟨b, i, none⟩ v).cell? ⟨b, i, none⟩ = some v :=
  World.cell?_setCell_same _ _ _ h
theorem set_far (w : World) (b i j : Nat) (v : Value) (h : i ≠ j) : (w.setCell ⟨b, i, none⟩ v).cell? ⟨b, j, none⟩ = w.cell? ⟨b, j, none⟩ :=
  World.cell?_setCell_other w _ _ v (fun e => h (congrArg Addr.off e))
theorem RM.put0 {bx : Nat} {ss : List Nat} {g0' T' : Nat} {v0' : Value} (h : RM w b g0 g1 g2 g3 v0 v1 v2 v3 T U L A ed) (F : Sep w (b :: bx :: g0 :: g1 :: g2 :: g3 :: ss)) (m : Mv w w' g0 g0') (p : PR w' g0' v0' T') :
    RM (w'.setCell ⟨b, 0, none⟩ v0') b g0' g1 g2 g3 v0' v1 v2 v3 T' U L A ed := by
  obtain ⟨⟨a1, a2, a3, a4, a5⟩, ⟨b1, b2, b3, b4⟩, ⟨c1, c2, c3⟩, ⟨d1, d2⟩, e1, hb, hbx⟩ := F.facts
  exact ⟨set_same _ _ _ _ _ (by rw [gb_cell m.1 hb a2]; exact h.c0), by rw [set_far _ _ _ _ _ (by decide), gb_cell m.1 hb a2]; exact h.c1, by rw [set_far _ _ _ _ _ (by decide), gb_cell m.1 hb a2]; exact h.c2, by rw [set_far _ _ _ _ _ (by decide), gb_cell m.1 hb a2]; exact h.c3, by rw [set_far _ _ _ _ _ (by decide), gb_cell m.1 hb a2]; exact h.c4,
    fun j => by rw [World.frozen?_setCell, gb_frozen m.1 hb a2]; exact h.fz j, p.other (gb_set _ _ _ _) (m.ne hb a2).symm, (m.pr h.p1 c1.symm).other (gb_set _ _ _ _) a3.symm, (m.pr h.p2 c2.symm).other (gb_set _ _ _ _) a4.symm, (m.pr h.p3 c3.symm).other (gb_set _ _ _ _) a5.symm⟩
theorem RM.put1 {bx : Nat} {ss : List Nat} {g1' U' : Nat} {v1' : Value} (h : RM w b g0 g1 g2 g3 v0 v1 v2 v3 T U L A ed) (F : Sep w (b :: bx :: g0 :: g1 :: g2 :: g3 :: ss)) (m : Mv w w' g1 g1') (p : PR w' g1' v1' U') :
    RM (w'.setCell ⟨b, 1, none⟩ v1') b g0 g1' g2 g3 v0 v1' v2 v3 T U' L A ed := by
  obtain ⟨⟨a1, a2, a3, a4, a5⟩, ⟨b1, b2, b3, b4⟩, ⟨c1, c2, c3⟩, ⟨d1, d2⟩, e1, hb, hbx⟩ := F.facts
  exact ⟨by rw [set_far _ _ _ _ _ (by decide), gb_cell m.1 hb a3]; exact h.c0, set_same _ _ _ _ _ (by rw [gb_cell m.1 hb a3]; exact h.c1), by rw [set_far _ _ _ _ _ (by decide), gb_cell m.1 hb a3]; exact h.c2, by rw [set_far _ _ _ _ _ (by decide), gb_cell m.1 hb a3]; exact h.c3, by rw [set_far _ _ _ _ _ (by decide), gb_cell m.1 hb a3]; exact h.c4,
    fun j => by rw [World.frozen?_setCell, gb_frozen m.1 hb a3]; exact h.fz j, (m.pr h.p0 c1).other (gb_set _ _ _ _) a2.symm, p.other (gb_set _ _ _ _) (m.ne hb a3).symm, (m.pr h.p2 d1.symm).other (gb_set _ _ _ _) a4.symm, (m.pr h.p3 d2.symm).other (gb_set _ _ _ _) a5.symm⟩
theorem RM.put2 {bx : Nat} {ss : List Nat} {g2' L' : Nat} {v2' : Value} (h : RM w b g0 g1 g2 g3 v0 v1 v2 v3 T U L A ed) (F : Sep w (b :: bx :: g0 :: g1 :: g2 :: g3 :: ss)) (m : Mv w w' g2 g2') (p : PR w' g2' v2' L') :
    RM (w'.setCell ⟨b, 2, none⟩ v2') b g0 g1 g2' g3 v0 v1 v2' v3 T U L' A ed := by
  obtain ⟨⟨a1, a2, a3, a4, a5⟩, ⟨b1, b2, b3, b4⟩, ⟨c1, c2, c3⟩, ⟨d1, d2⟩, e1, hb, hbx⟩ := F.facts
  exact ⟨by rw [set_far _ _ _ _ _ (by decide), gb_cell m.1 hb a4]; exact h.c0, by rw [set_far _ _ _ _ _ (by decide), gb_cell m.1 hb a4]; exact h.c1, set_same _ _ _ _ _ (by rw [gb_cell m.1 hb a4]; exact h.c2), by rw [set_far _ _ _ _ _ (by decide), gb_cell m.1 hb a4]; exact h.c3, by rw [set_far _ _ _ _ _ (by decide), gb_cell m.1 hb a4]; exact h.c4,
    fun j => by rw [World.frozen?_setCell, gb_frozen m.1 hb a4]; exact h.fz j, (m.pr h.p0 c2).other (gb_set _ _ _ _) a2.symm, (m.pr h.p1 d1).other (gb_set _ _ _ _) a3.symm, p.other (gb_set _ _ _ _) (m.ne hb a4).symm, (m.pr h.p3 e1.symm).other (gb_set _ _ _ _) a5.symm⟩
theorem RM.put3 {bx : Nat} {ss : List Nat} {g3' A' : Nat} {v3' : Value} (h : RM w b g0 g1 g2 g3 v0 v1 v2 v3 T U L A ed) (F : Sep w (b :: bx :: g0 :: g1 :: g2 :: g3 :: ss)) (m : Mv w w' g3 g3') (p : PR w' g3' v3' A') :
    RM (w'.setCell ⟨b, 3, none⟩ v3') b g0 g1 g2 g3' v0 v1 v2 v3' T U L A' ed := by
  obtain ⟨⟨a1, a2, a3, a4, a5⟩, ⟨b1, b2, b3, b4⟩, ⟨c1, c2, c3⟩, ⟨d1, d2⟩, e1, hb, hbx⟩ := F.facts
  exact ⟨by rw [set_far _ _ _ _ _ (by decide), gb_cell m.1 hb a5]; exact h.c0, by rw [set_far _ _ _ _ _ (by decide), gb_cell m.1 hb a5]; exact h.c1, by rw [set_far _ _ _ _ _ (by decide), gb_cell m.1 hb a5]; exact h.c2, set_same _ _ _ _ _ (by rw [gb_cell m.1 hb a5]; exact h.c3), by rw [set_far _ _ _ _ _ (by decide), gb_cell m.1 hb a5]; exact h.c4,
    fun j => by rw [World.frozen?_setCell, gb_frozen m.1 hb a5]; exact h.fz j, (m.pr h.p0 c3).other (gb_set _ _ _ _) a2.symm, (m.pr h.p1 d2).other (gb_set _ _ _ _) a3.symm, (m.pr h.p2 e1).other (gb_set _ _ _ _) a4.symm, p.other (gb_set _ _ _ _) (m.ne hb a5).symm⟩
end

end Go.Proofs.YtjbnjfdpfkdmeaaDoor
