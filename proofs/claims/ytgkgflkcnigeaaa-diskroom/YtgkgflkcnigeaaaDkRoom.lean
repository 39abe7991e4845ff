/-
  Layer 20: what DiskRoom's disk comes to; a row of bytes that came in.
-/
import Derived.Test.YtgkgflkcnigeaaaDkSteps
namespace Go.Proofs.Ytgkgflkcnigeaaa
set_option maxRecDepth 100000
open Go.RowKit Txt Go.Maps Dk

namespace Dk
/-- A row of rows of bytes. -/
def RB (w : World) (v : Value) (ls : List (List Nat)) : Prop :=
  ∃ a cap, v = .slice a ls.length cap ∧ ls.length ≤ 140737488355328 ∧ (0 < ls.length → ∃ g o, a = some ⟨g, o, none⟩ ∧ g < w.heap.size ∧ ∀ i (h : i < ls.length), ∃ u, w.cell? ⟨g, o + i, none⟩ = some u ∧ BR w u ls[i] ∧ ls[i].length ≤ 140737488351232)
theorem RB.below {w w' : World} {v : Value} {ls : List (List Nat)} (h : RB w v ls) (k : Below w.heap.size w w') : RB w' v ls := by
  obtain ⟨a, cap, e, h0, h1⟩ := h
  refine ⟨a, cap, e, h0, fun hp => ?_⟩
  obtain ⟨g, o, ea, hg, hc⟩ := h1 hp
  refine ⟨g, o, ea, Nat.lt_of_lt_of_le hg k.size, fun i hi => ?_⟩
  obtain ⟨u, hu, hb, hl⟩ := hc i hi
  exact ⟨u, by rw [World.cell?_of_block (k.block g hg)]; exact hu, hb.below k (Nat.le_refl _), hl⟩
theorem Lv.ord {w0 w : World} {db : Nat} {S : Ps} (h : Lv w0 w db S) : OrdP S.P := by
  obtain ⟨X, h1, -⟩ := h.lies
  obtain ⟨mb, F, eF, hD⟩ := h1.lies
  rw [← eF]
  exact hD.fs.ordP
theorem Lv.room {w0 w : World} {db : Nat} {S : Ps} (h : Lv w0 w db S) : lenP S.P ≤ S.sz := by
  obtain ⟨X, h1, -⟩ := h.lies
  exact h1.room
theorem lay_length (P : List Pl) (s : List UInt8) (l : List Nat) : (layP P s l).length ≤ P.length + 1 := by
  unfold layP
  cases lookP P s with
  | some f => show (setP P s _).length ≤ _; unfold setP; rw [List.length_map]; omega
  | none =>
    show (insP _ P).length ≤ _
    have : ∀ (f : Pl) (Q : List Pl), (insP f Q).length = Q.length + 1 := by
      intro f Q
      induction Q with
      | nil => rfl
      | cons g r ih =>
        unfold insP
        split
        · rfl
        · simp [ih]
    rw [this]; exact Nat.le_refl _
theorem set_length (P : List Pl) (s : List UInt8) (h : Pl → Pl) : (setP P s h).length = P.length := by unfold setP; rw [List.length_map]
theorem r_ok {k : Nat} {P : List Pl} {s : List UInt8} {l : List Nat} (hn : nmB s = true) (h : (lenP P : Int) + l.length ≤ k) : appP ⟨k, 0, 0, P⟩ s l = (0, ⟨k, 0, 0, layP P s l⟩) := by
  have e1 : stepC 0 0 = (0, 0, 0) := rfl
  have e2 : refuseC s l.length k (lenP P) = 0 := by
    unfold refuseC
    rw [if_neg (by rw [hn]; decide), if_neg (by omega)]
  unfold appP
  simp only [e1, e2]
  rfl
theorem r_no {k : Nat} {P : List Pl} {s : List UInt8} {l : List Nat} (hn : nmB s = true) (h : ¬ (lenP P : Int) + l.length ≤ k) : appP ⟨k, 0, 0, P⟩ s l = (200, ⟨k, 0, 0, P⟩) := by
  have e1 : stepC 0 0 = (0, 0, 0) := rfl
  have e2 : refuseC s l.length k (lenP P) = 200 := by
    unfold refuseC
    rw [if_neg (by rw [hn]; decide), if_pos (by omega)]
  unfold appP
  simp only [e1, e2]
  rfl
theorem r_trunc {k : Nat} {P : List Pl} {s : List UInt8} (ho : OrdP P) (h : 0 < (readP P s).length) : ∃ P', truncP ⟨k, 0, 0, P⟩ s (((readP P s).length : Int) - 1) = (0, ⟨k, 0, 0, P'⟩) ∧ lenP P' + 1 = lenP P ∧ P'.length = P.length := by
  have e1 : stepC 0 0 = (0, 0, 0) := rfl
  unfold readP at h ⊢
  cases c : lookP P s with
  | none => rw [c] at h; exact absurd h (by decide)
  | some f =>
    rw [c] at h
    simp only at h ⊢
    refine ⟨setP P s fun g => ⟨g.nm, g.l.take ((f.l.length : Int) - 1).toNat, min g.fa ((f.l.length : Int) - 1).toNat⟩, ?_, ?_, set_length _ _ _⟩
    · unfold truncP
      simp only [e1, c]
      rw [if_neg (by decide), if_neg (by omega)]
      rfl
    · have := lenP_set (s := s) (h := fun g => (⟨g.nm, g.l.take ((f.l.length : Int) - 1).toNat, min g.fa ((f.l.length : Int) - 1).toNat⟩ : Pl)) ho c
      simp only [List.length_take] at this
      omega
theorem look_mem {s : List UInt8} {f : Pl} : ∀ {P : List Pl}, lookP P s = some f → f ∈ P := by
  intro P h
  unfold lookP at h
  exact List.mem_of_find?_eq_some h
theorem read_le (P : List Pl) (s : List UInt8) : (readP P s).length ≤ lenP P := by
  unfold readP
  cases c : lookP P s with
  | none => exact Nat.zero_le _
  | some f => exact lenP_mem (look_mem c)
def ch (i : Nat) : Nat := 97 + i % 3
theorem ch_lt (i : Nat) : 97 ≤ ch i ∧ ch i < 100 := by unfold ch; omega
def nmI (i : Nat) : List UInt8 := [UInt8.ofNat (ch i)]
theorem nmI_ok (i : Nat) : nmB (nmI i) = true := by
  have h := ch_lt i
  unfold nmI nmB inNm
  generalize ch i = c at *
  have : c = 97 ∨ c = 98 ∨ c = 99 := by omega
  rcases this with rfl | rfl | rfl <;> decide
theorem bsN_ch (i : Nat) : bsN [ch i] = bs (nmI i) := by
  unfold nmI
  have h := ch_lt i
  generalize ch i = c at *
  have : c = 97 ∨ c = 98 ∨ c = 99 := by omega
  rcases this with rfl | rfl | rfl <;> rfl
end Dk

end Go.Proofs.Ytgkgflkcnigeaaa
