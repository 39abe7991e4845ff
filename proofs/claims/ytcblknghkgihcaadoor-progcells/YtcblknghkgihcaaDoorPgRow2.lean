/-
  Layer 13: functions of which it is told in which blocks they lie; rows of them.
-/
import Derived.Test.YtcblknghkgihcaaDoorPgRow
namespace Go.Proofs.YtcblknghkgihcaaDoor
set_option maxRecDepth 100000
open Go.RowKit

namespace Pg
def InB (S : Nat → Prop) (v : Value) : Prop := ∀ a m c, v = .slice (some a) m c → 0 < m → S a.block
/-- The value reads as the function, and lies in blocks of S. -/
def PRS (S : Nat → Prop) (w : World) : Pr → Six → Prop
  | .mk pa rg us cs ks ps => fun x => x.pa = pa ∧ x.rg = rg ∧ i64 pa ∧ i64 rg ∧ (SU w x.u us ∧ InB S x.u) ∧ (SI w x.c cs ∧ InB S x.c) ∧ (SV w x.k ks ∧ InB S x.k) ∧ ∃ f : Nat → Six, (SL w x.p ps.length 6 (fun i j u => u = (f i).at j) ∧ InB S x.p) ∧ ∀ i (h : i < ps.length), PRS S w ps[i] (f i)
  termination_by t => t
  decreasing_by
    have := List.sizeOf_lt_of_mem (List.getElem_mem h)
    simp only [Pr.mk.sizeOf_spec]
    omega
theorem PRS_mk {S : Nat → Prop} {w : World} {pa rg : Int} {us : List Upp} {cs : List Ins} {ks : List Vl} {ps : List Pr} {x : Six} : PRS S w (.mk pa rg us cs ks ps) x ↔ x.pa = pa ∧ x.rg = rg ∧ i64 pa ∧ i64 rg ∧ (SU w x.u us ∧ InB S x.u) ∧ (SI w x.c cs ∧ InB S x.c) ∧ (SV w x.k ks ∧ InB S x.k) ∧ ∃ f : Nat → Six, (SL w x.p ps.length 6 (fun i j u => u = (f i).at j) ∧ InB S x.p) ∧ ∀ i (h : i < ps.length), PRS S w ps[i] (f i) := by
  rw [PRS]
theorem PRS.pr {S : Nat → Prop} {w : World} : ∀ (t : Pr) (x : Six), PRS S w t x → PR w t x := by
  refine Pr.ind' fun pa rg us cs ks ps ih x h => ?_
  rw [PRS_mk] at h
  rw [PR_mk]
  obtain ⟨h1, h2, h3, h4, h5, h6, h7, f, h8, h9⟩ := h
  exact ⟨h1, h2, h3, h4, h5.1, h6.1, h7.1, f, h8.1, fun i hi => ih _ (List.getElem_mem hi) _ (h9 i hi)⟩
theorem InB.widen {S S' : Nat → Prop} {v : Value} (h : InB S v) (k : ∀ b, S b → S' b) : InB S' v := fun a m c e hm => k _ (h a m c e hm)
theorem PRS.widen {S S' : Nat → Prop} {w : World} (k : ∀ b, S b → S' b) : ∀ (t : Pr) (x : Six), PRS S w t x → PRS S' w t x := by
  refine Pr.ind' fun pa rg us cs ks ps ih x h => ?_
  rw [PRS_mk] at h ⊢
  obtain ⟨h1, h2, h3, h4, h5, h6, h7, f, h8, h9⟩ := h
  exact ⟨h1, h2, h3, h4, ⟨h5.1, h5.2.widen k⟩, ⟨h6.1, h6.2.widen k⟩, ⟨h7.1, h7.2.widen k⟩, f, ⟨h8.1, h8.2.widen k⟩, fun i hi => ih _ (List.getElem_mem hi) _ (h9 i hi)⟩
theorem PRS.below {S : Nat → Prop} {w w' : World} {B : Nat} (hg : Below B w w') (hB : w.heap.size ≤ B) : ∀ (t : Pr) (x : Six), PRS S w t x → PRS S w' t x := by
  refine Pr.ind' fun pa rg us cs ks ps ih x h => ?_
  rw [PRS_mk] at h ⊢
  obtain ⟨h1, h2, h3, h4, h5, h6, h7, f, h8, h9⟩ := h
  exact ⟨h1, h2, h3, h4, ⟨h5.1.kept hg hB, h5.2⟩, ⟨h6.1.kept hg hB, h6.2⟩, ⟨h7.1.kept hg hB, h7.2⟩, f, ⟨h8.1.kept hg hB, h8.2⟩, fun i hi => ih _ (List.getElem_mem hi) _ (h9 i hi)⟩
theorem SL.same {S : Nat → Prop} {w w' : World} {v : Value} {n z : Nat} {F : Nat → Nat → Value → Prop} (h : SL w v n z F) (hs : InB S v) (k : ∀ b, S b → w'.heap[b]? = w.heap[b]?) : SL w' v n z F := by
  obtain ⟨a, cap, h1, h2, h3, h4, h5, h6⟩ := h.form
  refine ⟨a, cap, h1, h2, h3, h4, h5, fun x hx => ⟨(h6 x hx).1, fun i hi j hj => ?_⟩⟩
  obtain ⟨u, hu, hF⟩ := (h6 x hx).2 i hi j hj
  exact ⟨u, (World.cell?_of_block (w := w) (a := ⟨x.block, x.off + i * z + j, none⟩) (k _ (hs x n cap (by rw [h1, hx]) (by omega)))).trans hu, hF⟩
theorem PRS.same {S : Nat → Prop} {w w' : World} (k : ∀ b, S b → w'.heap[b]? = w.heap[b]?) : ∀ (t : Pr) (x : Six), PRS S w t x → PRS S w' t x := by
  refine Pr.ind' fun pa rg us cs ks ps ih x h => ?_
  rw [PRS_mk] at h ⊢
  obtain ⟨h1, h2, h3, h4, h5, h6, h7, f, h8, h9⟩ := h
  exact ⟨h1, h2, h3, h4, ⟨⟨h5.1.1.same h5.2 k, h5.1.2⟩, h5.2⟩, ⟨⟨h6.1.1.same h6.2 k, h6.1.2⟩, h6.2⟩, ⟨⟨h7.1.1.same h7.2 k, h7.1.2⟩, h7.2⟩, f, ⟨h8.1.same h8.2 k, h8.2⟩, fun i hi => ih _ (List.getElem_mem hi) _ (h9 i hi)⟩
theorem SL.inb {S : Nat → Prop} {w : World} {v : Value} {n z : Nat} {F : Nat → Nat → Value → Prop} (h : SL w v n z F) (hz : 0 < z) (hs : InB S v) : InB (fun k => S k ∧ k < w.heap.size) v := by
  intro a m c e hm
  refine ⟨hs a m c e hm, ?_⟩
  obtain ⟨a', cap, h1, h2, h3, h4, h5, h6⟩ := h.form
  rw [e] at h1
  injection h1 with e1 e2 e3
  subst e1 e2 e3
  obtain ⟨u, hu, _⟩ := (h6 a rfl).2 0 hm 0 hz
  exact World.block_lt_of_cell? w ⟨a.block, a.off + 0 * z + 0, none⟩ hu
theorem PRS.lt {S : Nat → Prop} {w : World} : ∀ (t : Pr) (x : Six), PRS S w t x → PRS (fun k => S k ∧ k < w.heap.size) w t x := by
  refine Pr.ind' fun pa rg us cs ks ps ih x h => ?_
  rw [PRS_mk] at h ⊢
  obtain ⟨h1, h2, h3, h4, h5, h6, h7, f, h8, h9⟩ := h
  exact ⟨h1, h2, h3, h4, ⟨h5.1, h5.1.1.inb (by decide) h5.2⟩, ⟨h6.1, h6.1.1.inb (by decide) h6.2⟩, ⟨h7.1, h7.1.1.inb (by decide) h7.2⟩, f, ⟨h8.1, h8.1.inb (by decide) h8.2⟩, fun i hi => ih _ (List.getElem_mem hi) _ (h9 i hi)⟩
theorem PR.prs {w : World} : ∀ (t : Pr) (x : Six), PR w t x → PRS (fun _ => True) w t x := by
  refine Pr.ind' fun pa rg us cs ks ps ih x h => ?_
  rw [PR_mk] at h
  rw [PRS_mk]
  obtain ⟨h1, h2, h3, h4, h5, h6, h7, f, h8, h9⟩ := h
  exact ⟨h1, h2, h3, h4, ⟨h5, fun _ _ _ _ _ => trivial⟩, ⟨h6, fun _ _ _ _ _ => trivial⟩, ⟨h7, fun _ _ _ _ _ => trivial⟩, f, ⟨h8, fun _ _ _ _ _ => trivial⟩, fun i hi => ih _ (List.getElem_mem hi) _ (h9 i hi)⟩

def sixC (y : Nat → Six) (i j : Nat) : Value := (y i).at j
theorem six_form {S : Nat → Prop} {w : World} {t : Pr} {x : Six} (h : PRS S w t x) : ∃ a1 n1 c1 a2 n2 c2 a3 n3 c3 a4 n4 c4, x.u = .slice a1 n1 c1 ∧ x.c = .slice a2 n2 c2 ∧ x.k = .slice a3 n3 c3 ∧ x.p = .slice a4 n4 c4 := by
  have hq := PRS.pr t x h
  obtain ⟨qpa, qrg, qus, qcs, qks, qps⟩ := t
  rw [PR_mk] at hq
  obtain ⟨-, -, -, -, hqu, hqc, hqk, f', hqp, -⟩ := hq
  obtain ⟨a1, c1, h1, -⟩ := hqu.1.val
  obtain ⟨a2, c2, h2, -⟩ := hqc.1.val
  obtain ⟨a3, c3, h3, -⟩ := hqk.1.val
  obtain ⟨a4, c4, h4, -⟩ := hqp.val
  exact ⟨_, _, _, _, _, _, _, _, _, _, _, _, h1, h2, h3, h4⟩
theorem sixC_one {S : Nat → Prop} {w : World} {t : Pr} {y : Nat → Six} {i : Nat} (h : PRS S w t (y i)) (j : Nat) : (sixC y i j).oneCell' = true := by
  obtain ⟨a1, n1, c1, a2, n2, c2, a3, n3, c3, a4, n4, c4, h1, h2, h3, h4⟩ := six_form h
  unfold sixC Six.at
  rw [h1, h2, h3, h4]
  split
  · rfl
  · split
    · rfl
    · split
      · rfl
      · split
        · rfl
        · split <;> rfl

/-- A row of functions under way, in blocks of one's own from B on, each of which lies in blocks from B on that are not the row's. -/
structure PW (e : TypeId) (w : World) (B : Nat) (v : Value) (ts : List Pr) (y : Nat → Six) : Prop where
  own : w.ownsRow B e 6 v ts.length (cellsF ts.length 6 (sixC y))
  kid : ∀ i (h : i < ts.length), PRS (fun b => B ≤ b ∧ some b ≠ v.ownBlock) w ts[i] (y i)
theorem PW.nil {e : TypeId} {w : World} {B : Nat} {v : Value} (y : Nat → Six) (h : w.ownsRow B e 6 v 0 []) : PW e w B v [] y := ⟨by simpa [cellsF] using h, fun i h => absurd h (Nat.not_lt_zero _)⟩
theorem PW.below {e : TypeId} {w w' : World} {B : Nat} {v : Value} {ts : List Pr} {y : Nat → Six} (h : PW e w B v ts y) (k : Below w.heap.size w w') : PW e w' B v ts y :=
  ⟨own_below h.own k, fun i hi => PRS.below k (Nat.le_refl _) _ _ (h.kid i hi)⟩
/-- One more is laid behind a row. -/
theorem PW.snoc {e : TypeId} {w w' : World} {B c' : Nat} {v : Value} {a' : Option Addr} {ts : List Pr} {y : Nat → Six} {t : Pr} {x : Six} (h : PW e w B v ts y) (hx : PRS (fun b => B ≤ b ∧ some b ≠ v.ownBlock) w t x)
    (q1 : w'.ownsRow B e 6 (.slice a' (ts.length + 1) c') (ts.length + 1) (cellsF ts.length 6 (sixC y) ++ cellsF 1 6 (sixC fun _ => x))) (q2 : w.grownBy w' v.ownBlock) (q3 : (Value.slice a' (ts.length + 1) c').ownBlock = v.ownBlock ∨ (Value.slice a' (ts.length + 1) c').ownBlock = some w.heap.size) :
    PW e w' B (.slice a' (ts.length + 1) c') (ts ++ [t]) (fun i => if i < ts.length then y i else x) := by
  have key : ∀ (u : Pr) (z : Six), PRS (fun b => B ≤ b ∧ some b ≠ v.ownBlock) w u z → PRS (fun b => B ≤ b ∧ some b ≠ (Value.slice a' (ts.length + 1) c').ownBlock) w' u z := by
    intro u z hz
    have h1 := PRS.lt _ _ hz
    have h2 := PRS.same (w' := w') (fun b hb => q2.block b hb.2 hb.1.2) _ _ h1
    refine PRS.widen (fun b hb => ⟨hb.1.1, ?_⟩) _ _ h2
    rcases q3 with e1 | e1
    · rw [e1]; exact hb.1.2
    · rw [e1]
      intro e2
      injection e2 with e2
      have := hb.2
      omega
  refine ⟨?_, fun i hi => ?_⟩
  · rw [List.length_append, List.length_singleton]
    have : cellsF (ts.length + 1) 6 (sixC fun i => if i < ts.length then y i else x) = cellsF ts.length 6 (sixC y) ++ cellsF 1 6 (sixC fun _ => x) := by
      apply List.ext_getElem?
      intro k
      by_cases c : k < ts.length * 6
      · rw [List.getElem?_append_left (by rw [cellsF_length]; exact c), cellsF_get c, cellsF_get (by omega)]
        have : k / 6 < ts.length := by omega
        simp [sixC, this]
      · by_cases c2 : k < (ts.length + 1) * 6
        · rw [List.getElem?_append_right (by rw [cellsF_length]; omega), cellsF_length, cellsF_get c2, cellsF_get (by omega)]
          have h1 : ¬ k / 6 < ts.length := by omega
          have h2 : k % 6 = (k - ts.length * 6) % 6 := by omega
          simp only [sixC, if_neg h1, h2]
        · rw [List.getElem?_eq_none (by rw [cellsF_length]; omega), List.getElem?_eq_none (by rw [List.length_append, cellsF_length, cellsF_length]; omega)]
    rw [this]
    exact q1
  · by_cases c : i < ts.length
    · rw [List.getElem_append_left c]
      simp only [if_pos c]
      exact key _ _ (h.kid i c)
    · have hi2 : i = ts.length := by rw [List.length_append, List.length_singleton] at hi; omega
      subst hi2
      rw [List.getElem_append_right (Nat.le_refl _)]
      simp only [Nat.sub_self, List.getElem_singleton, Nat.lt_irrefl, if_false]
      exact key _ _ hx
/-- A row of functions can be read. -/
theorem PW.sl {e : TypeId} {w : World} {B : Nat} {v : Value} {ts : List Pr} {y : Nat → Six} (h : PW e w B v ts y) (hn : ts.length ≤ far) : SL w v ts.length 6 (fun i j u => u = (y i).at j) :=
  SL.of_owns h.own hn (fun _ _ _ _ => rfl)
theorem InB.own {w : World} {B : Nat} {e : TypeId} {z : Nat} {v : Value} {n : Nat} {xs : List Value} (h : w.ownsRow B e z v n xs) : InB (fun k => B ≤ k) v := by
  intro a m c he _
  exact (h.lt a.block (by rw [he]; rfl)).1
end Pg
end Go.Proofs.YtcblknghkgihcaaDoor
