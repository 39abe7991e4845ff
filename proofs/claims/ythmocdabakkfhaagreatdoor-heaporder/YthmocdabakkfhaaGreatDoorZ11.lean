/-
  Pt3, Pt4, QuoMath, DecMath, DecQuo, DecQuo2
-/
import Derived.Test.YthmocdabakkfhaaGreatDoorZ10

/-
  The walks of minus, bitLen, Clone, timesTens, timesTwos over parts.
-/
namespace Go.Proofs.YthmocdabakkfhaaGreatDoor
set_option maxRecDepth 100000
open Go.RowKit Pt

theorem PR.drewN {w : World} {g : Nat} {v : Value} {n : Nat} (h : PR w g v n) (q : Nat) : PR (w.drewN q) g v n := h

end Go.Proofs.YthmocdabakkfhaaGreatDoor

/-
  The walks of timesTens, timesTwos and Clone over parts.
-/
namespace Go.Proofs.YthmocdabakkfhaaGreatDoor
set_option maxRecDepth 100000
open Go.RowKit Pt

/-- Block g alone was written; what lay in it lies there or in a new block g'. -/
def Mv (w w' : World) (g g' : Nat) : Prop := w.grownBy w' (some g) ∧ (g' = g ∨ w.heap.size ≤ g')
theorem Mv.refl (w : World) (g : Nat) : Mv w w g g := ⟨gb_refl _ _, Or.inl rfl⟩
theorem Mv.trans {a b c : World} {g g1 g2 : Nat} (h : Mv a b g g1) (k : Mv b c g1 g2) : Mv a c g g2 := by
  refine ⟨gb_new h.1 k.1 h.2, ?_⟩
  have := h.1.size
  rcases k.2 with e | e
  · rw [e]; exact h.2
  · right; omega
theorem Mv.drewN {a b : World} {g g1 : Nat} (h : Mv a b g g1) (q : Nat) : Mv a (b.drewN q) g g1 := ⟨gb_drew h.1 q, h.2⟩
theorem Mv.ne {w w' : World} {g g' b : Nat} (h : Mv w w' g g') (hp : b < w.heap.size) (hb : b ≠ g) : b ≠ g' := by
  rcases h.2 with e | e
  · rw [e]; exact hb
  · omega
theorem Mv.below {w w' : World} {B g g' : Nat} (h : Mv w w' g g') (hB : B ≤ w.heap.size) (hg : B ≤ g) : Below B w w' :=
  (Below.refl _ _).grown h.1 hB (by intro k hk; simp at hk; omega)
end Go.Proofs.YthmocdabakkfhaaGreatDoor

/-
  Plain mathematics: what is cut off, but noted, does not change what is rounded.
-/
namespace Go.Proofs.YthmocdabakkfhaaGreatDoor.Flo
set_option maxRecDepth 100000
open Go.Proofs.YthmocdabakkfhaaGreatDoor

/-! Quotients. -/
/-- A quotient with k bits more, twice, and one more where anything is left. -/
def stick (A B k : Nat) : Nat := 2 * (A * 2 ^ k / B) + (if A * 2 ^ k % B = 0 then 0 else 1)

end Go.Proofs.YthmocdabakkfhaaGreatDoor.Flo

/-
  Layer 5: the number nearest to a quotient of whole numbers, and to a numeral.
-/
namespace Go.Proofs.YthmocdabakkfhaaGreatDoor
set_option maxRecDepth 100000
open Go.RowKit Flo

/-- So many bits more that a quotient by B has enough of them. -/
def KN (B : Nat) : Nat := OP + 100 + B.log2
/-- The rung nearest to A / B. -/
def nearR (A B : Nat) : Nat := if A = 0 then 0 else rung (KN B + 1 - OP) (stick A B (KN B))

theorem enough {A B : Nat} (hA : A ≠ 0) (hB : 0 < B) : 9007199254740992 ≤ A * 2 ^ KN B / B := by
  rw [Nat.le_div_iff_mul_le hB]
  have h1 : B < 2 ^ (B.log2 + 1) := Nat.lt_log2_self
  have h2 : 9007199254740992 * B ≤ 2 ^ 53 * 2 ^ (B.log2 + 1) := Nat.mul_le_mul (by decide) (Nat.le_of_lt h1)
  rw [← Nat.pow_add] at h2
  have h3 : (2 : Nat) ^ (53 + (B.log2 + 1)) ≤ 2 ^ KN B := Nat.pow_le_pow_right (by decide) (by unfold KN; omega)
  have h4 : 2 ^ KN B ≤ A * 2 ^ KN B := Nat.le_mul_of_pos_left _ (by omega)
  omega
/-- The rung nearest to D times 10 to the power e. -/
def decN (D : Nat) (e : Int) : Nat := if 0 ≤ e then nearR (D * 10 ^ e.toNat) 1 else nearR D (10 ^ (-e).toNat)
/-- The most digits of a numeral. -/
def DG : Nat := 400
end Go.Proofs.YthmocdabakkfhaaGreatDoor

/-
  The landed quotient of two numbers in parts: the rung nearest to it. First the mathematics.
-/
namespace Go.Proofs.YthmocdabakkfhaaGreatDoor
set_option maxRecDepth 100000
open Go.RowKit Pt Flo

end Go.Proofs.YthmocdabakkfhaaGreatDoor

/-
  The landed quotient, walked.
-/
namespace Go.Proofs.YthmocdabakkfhaaGreatDoor
set_option maxRecDepth 100000
open Go.RowKit Pt Flo

theorem PR.form {w : World} {g : Nat} {v : Value} {n : Nat} (h : PR w g v n) : ∃ l cap, v = .slice (some ⟨g, 0, none⟩) l cap ∧ (l = 0 ↔ n = 0) ∧ l ≤ cap ∧ cap ≤ 9223372036854775807 := by
  obtain ⟨ds, hP, hv, ht⟩ := h
  have hc := hP
  obtain ⟨cap, rfl, _, _⟩ := hP
  have hcap := hc.cap.2
  unfold maxLen at hcap
  refine ⟨ds.length, cap, rfl, ⟨?_, ?_⟩, hcap.1, by omega⟩
  · intro e
    rw [← hv, List.eq_nil_of_length_eq_zero e]; rfl
  · intro e
    rcases ht with h0 | h0
    · exact h0
    · have := rpos (ds.length - 1); omega
end Go.Proofs.YthmocdabakkfhaaGreatDoor
