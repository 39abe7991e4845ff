/-
  Rows of slices of bytes: a slice in a block of its own whose cells are slices that read as bytes.
-/
import Derived.Test.YtmjiaephmgngiaaDoorFrRefFirst
namespace Go.Proofs.YtmjiaephmgngiaaDoor
open Go.RowKit Crc

theorem info22 : (Tryd.prog.info? 22).map (fun i => (i.zero, i.size, i.bytes)) = some (some (.slice none 0 0), 1, 24) := by kernel_rfl
/-- The slice u reads as the bytes l, in a block that is there and is not v's. -/
def Far (w : World) (v u : Value) (l : List Nat) : Prop := BR w u l ∧ ∀ a n c, u = .slice (some a) n c → a.block < w.heap.size ∧ v.ownBlock ≠ some a.block
/-- The slice v, in a block of its own not below B, holds slices that read as ls. -/
def RW (w : World) (B : Nat) (v : Value) (ls : List (List Nat)) : Prop :=
  ∃ vs, w.ownsRow B 22 1 v ls.length vs ∧ vs.length = ls.length ∧ ∀ j, j < ls.length → Far w v (vs.getD j (.bool false)) (ls.getD j [])
theorem Far.below {w w' : World} {B : Nat} {v u : Value} {l : List Nat} (h : Far w v u l) (hg : Below B w w') (hB : w.heap.size ≤ B) : Far w' v u l :=
  ⟨h.1.below hg hB, fun a n c e => ⟨by have := (h.2 a n c e).1; have := hg.size; omega, (h.2 a n c e).2⟩⟩
theorem RW.below {w w' : World} {B C : Nat} {v : Value} {ls : List (List Nat)} (h : RW w C v ls) (hg : Below B w w') (hB : w.heap.size ≤ B) : RW w' C v ls := by
  obtain ⟨vs, h1, h2, h3⟩ := h
  refine ⟨vs, ?_, h2, fun j hj => (h3 j hj).below hg hB⟩
  cases e : v.ownBlock with
  | none =>
    refine ⟨h1.1, ?_⟩
    rcases h1.2 with c | ⟨g, cap, cur, rfl, _⟩
    · exact Or.inl c
    · cases e
  | some g => exact ownsRow_far h1 (hg.block g (by have := (h1.lt g e).2; omega)) e
theorem RW.base {w : World} {B C : Nat} {v : Value} {ls : List (List Nat)} (h : RW w B v ls) (hC : C ≤ B) : RW w C v ls := by
  obtain ⟨vs, h1, h2, h3⟩ := h
  refine ⟨vs, ⟨h1.1, ?_⟩, h2, h3⟩
  rcases h1.2 with c | ⟨g, cap, cur, rfl, hb, r⟩
  · exact Or.inl c
  · exact Or.inr ⟨g, cap, cur, rfl, by omega, r⟩
theorem RW_nil (w : World) (B : Nat) : RW w B (.slice none 0 0) [] := ⟨[], World.ownsRow_nil w B _ _, rfl, fun j hj => by simp at hj⟩
theorem RW_empty (w : World) : RW (w.alloc (.cells #[] 22)) w.heap.size (.slice (some ⟨w.heap.size, 0, none⟩) 0 0) [] :=
  ⟨[], World.ownsRow_made (size := 1) w #[] 0 (Nat.le_refl _) (by decide) rfl, rfl, fun j hj => by simp at hj⟩
/-- What was made afresh lies elsewhere. -/
theorem OW.far {w w' : World} {C : Nat} {v u : Value} {l : List Nat} {ls : List (List Nat)} (h : OW w' w.heap.size u l) (hv : RW w C v ls) : Far w' v u l := by
  refine ⟨h.br, fun a n c e => ?_⟩
  rcases h.2.2 with ⟨e2, _⟩ | ⟨g, cap, cur, e2, hb, hg, _⟩
  · rw [e] at e2; cases e2
  · rw [e] at e2
    simp only [Value.slice.injEq, Option.some.injEq] at e2
    obtain ⟨rfl, _, _⟩ := e2
    refine ⟨?_, fun e3 => ?_⟩
    · rcases Nat.lt_or_ge g w'.heap.size with hlt | hge
      · exact hlt
      · rw [Array.getElem?_eq_none hge] at hg; cases hg
    · obtain ⟨vs, h1, _⟩ := hv
      have := (h1.lt _ e3).2
      show False
      simp at this
      omega
theorem BR.grownFar {w w' : World} {u : Value} {l : List Nat} {row : Option Nat} (h : BR w u l) (hf : ∀ a n c, u = .slice (some a) n c → a.block < w.heap.size ∧ row ≠ some a.block) (hg : w.grownBy w' row) : BR w' u l := by
  obtain ⟨h1, a, cap, h2, h3, h4, h5⟩ := h
  refine ⟨h1, a, cap, h2, h3, h4, ?_⟩
  rcases h5 with c | ⟨x, e, hc⟩
  · exact Or.inl c
  · refine Or.inr ⟨x, e, fun i hi => ?_⟩
    have := hf x _ _ (by rw [h2, e])
    have e2 : (x.add i).block = x.block := by unfold Addr.add; split <;> rfl
    rw [hg.cell_far _ (by rw [e2]; exact this.1) (by rw [e2]; exact fun e => this.2 e.symm)]
    exact hc i hi

theorem wpList_append_row {w : World} {ops : Array Oper} {rest : List Oper} {o : Oper} {a : Act} {Q : Exit → Act → World → Prop} (hgd : o.guard = none) (s x : Operand)
    (ho : o.op = .call { callee := .builtin .append, args := #[s, x], argTypes := #[34, 34] }) (B : Nat) (v u : Value) (ls : List (List Nat)) (l : List Nat) (hs : a.eval s = v) (hx : a.eval x = .slice (some ⟨w.heap.size, 0, none⟩) 1 1)
    (hR : RW w B v ls) (hu : Far w v u l) (hlen : ls.length ≤ 1048576) (hB : B ≤ w.heap.size)
    (h : ∀ v' w', RW w' B v' (ls ++ [l]) → Below B w w' → wpList Tryd.prog ops Q rest (a.put o.dst v') w') : wpList Tryd.prog ops Q (o :: rest) a (w.alloc (.cells #[u] 22)) := by
  obtain ⟨i0, hi0, hz0, hz1, hz2⟩ := info_parts info22
  obtain ⟨vs, h1, h2, h3⟩ := hR
  have hu1 : u.oneCell' = true := by obtain ⟨_, _, _, rfl, _⟩ := hu.1; rfl
  have hb1 : Below w.heap.size w (w.alloc (.cells #[u] 22)) := (Below.refl _ _).alloc (Nat.le_refl _) _
  refine wpList_append_lies (w.alloc (.cells #[u] 22)) hgd s x 34 ho B 22 i0 (.slice none 0 0) 1 24 Tryd.underlying34 hi0 hz0 hz1 hz2 rfl (by decide) v ls.length vs hs (h1.alloc _) ⟨w.heap.size, 0, none⟩ 1 1 [u] hx rfl
    (World.news_of_block (cs := #[u]) (t := 22) (fr := (0, 0)) (heap_alloc_new w _)) (by simpa using hu1) (by decide) (by unfold maxLen; omega) (by omega) (by simp; omega) (w.heap.size + 1) (by simp) ?_
  intro g cap w' hown hgrow hat hlt
  have hfar : ∀ (u' : Value) (l' : List Nat), Far w v u' l' → Far w' (.slice (some ⟨g, 0, none⟩) (ls.length + 1) cap) u' l' := by
    intro u' l' hF
    refine ⟨(hF.1.below hb1 (Nat.le_refl _)).grownFar (fun a n c e => ⟨by have := (hF.2 a n c e).1; simp; omega, (hF.2 a n c e).2⟩) hgrow, fun a n c e => ?_⟩
    have h4 := hF.2 a n c e
    have h5 := hgrow.size
    simp at h5
    refine ⟨by omega, fun e3 => ?_⟩
    have e4 : g = a.block := by simpa [Value.ownBlock] using e3
    rcases hat with e5 | e5
    · exact h4.2 (by rw [e5, e4])
    · omega
  refine h _ _ ⟨vs ++ [u], ?_, by simp [h2], ?_⟩ ?_
  · rw [List.length_append]; exact hown
  · intro j hj
    rw [List.length_append, List.length_singleton] at hj
    by_cases c : j < ls.length
    · have := hfar _ _ (h3 j c)
      rw [List.getD_eq_getElem?_getD, List.getD_eq_getElem?_getD] at this ⊢
      rw [List.getElem?_append_left (by omega), List.getElem?_append_left c]
      exact this
    · have e : j = ls.length := by omega
      subst e
      have := hfar _ _ hu
      rw [List.getD_eq_getElem?_getD, List.getD_eq_getElem?_getD, List.getElem?_append_right (by omega), List.getElem?_append_right (by omega), h2]
      simpa using this
  · exact (hb1.mono hB).grown hgrow (by simp; omega) (fun k hk => (h1.lt k hk).1)

end Go.Proofs.YtmjiaephmgngiaaDoor
