/-
  Layer 7: the landed reader's cells, walked.
-/
import Derived.Test.YtbkjghhghefejaaCdRCell
import Derived.Test.YtbkjghhghefejaaCdWCell
namespace Go.Proofs.Ytbkjghhghefejaa
open Go.RowKit Crc

/-- What the reader does with so many cells. -/
def ReadL (r : Nat ⊕ (List Tr × List Nat)) (b H : Nat) (w : World) (e : Ending) (w' : World) : Prop :=
  match r with
  | .inl x => e = gaveUp x ∧ KR b w w'
  | .inr p => ∃ lv v2, e = .returned lv ∧ TW w' w.heap.size lv p.1 ∧ RD w' b H v2 p.2 ∧ KR b w w' ∧ p.2.length ≤ 1048576

theorem TW_nil (w : World) (B : Nat) : TW w B (.slice none 0 0) [] :=
  ⟨[], fun _ => 0, fun _ => 0, fun _ => ⟨#[]⟩, fun _ => .slice none 0 0, World.ownsRow_nil _ _ _ _, ⟨fun _ h => absurd h (Nat.not_lt_zero _), fun _ h => absurd h (Nat.not_lt_zero _), fun _ h => absurd h (Nat.not_lt_zero _), fun _ h => absurd h (Nat.not_lt_zero _)⟩, fun _ h => absurd h (Nat.not_lt_zero _)⟩

theorem KR.row {b B : Nat} {w w1 w2 : World} {v : Value} {o : Obj} (h : KR b w w1) (hB : w.heap.size ≤ B) (hg : (w1.alloc o).grownBy w2 v.ownBlock) (ho : ∀ k, v.ownBlock = some k → B ≤ k) : KR b w w2 := by
  have h1 := h.size
  have h2 := hg.size
  have h3 : (w1.alloc o).heap.size = w1.heap.size + 1 := by simp
  refine ⟨hg.os.trans h.os, hg.tape.trans h.tape, hg.output.trans h.output, by omega, fun k hk hb => ?_⟩
  rw [hg.block k (by omega) (fun e => by have := ho k e.symm; omega), Below.heap_alloc _ _ _ (by omega)]
  exact h.block k hk hb

theorem RD.grown {b H : Nat} {w1 w2 : World} {v u : Value} {l : List Nat} {o : Obj} (h : RD w1 b H u l) (hg : (w1.alloc o).grownBy w2 v.ownBlock) (ho : ∀ k, v.ownBlock = some k → H ≤ k ∧ k ≠ b) : RD w2 b H u l := by
  have h2 := hg.size
  have h3 : (w1.alloc o).heap.size = w1.heap.size + 1 := by simp
  have hlt := h.lt
  have hk : ∀ k, k < w1.heap.size → v.ownBlock ≠ some k → w2.heap[k]? = w1.heap[k]? := fun k h4 h5 => by
    rw [hg.block k (by omega) (fun e => h5 e.symm)]; exact Below.heap_alloc _ _ _ h4
  have e := hk b hlt (fun e => (ho b e).2 rfl)
  refine ⟨(World.cell?_of_block (w := w1) (a := ⟨b, 0, none⟩) e).trans h.c, fun i => (World.frozen?_of_block (w := w1) (a := ⟨b, i, none⟩) e).trans (h.fz i), ?_, h.ne, h.hi, by omega⟩
  obtain ⟨h1, a, cap, h2, h3, h4, h5⟩ := h.br
  refine ⟨h1, a, cap, h2, h3, h4, ?_⟩
  rcases h5 with c | ⟨x, e2, hc⟩
  · exact Or.inl c
  · refine Or.inr ⟨x, e2, fun i hi => ?_⟩
    have hx := h.hi x _ _ (by rw [h2, e2])
    have hlt2 : x.block < w1.heap.size := by
      have := hc i hi
      rcases Nat.lt_or_ge x.block w1.heap.size with q | q
      · exact q
      · exfalso
        unfold World.cell? at this
        rw [add_block, Array.getElem?_eq_none q] at this
        simp at this
    rw [← hc i hi]
    exact World.cell?_of_block (w := w1) (a := x.add i) (by rw [add_block]; exact hk x.block hlt2 (fun e => by have := (ho _ e).1; omega))

set_option maxHeartbeats 2000000 in
theorem rcells_any (b H D : Nat) (HC : ∀ (v : Value) (l : List Nat) (w : World), RD w b H v l → H ≤ w.heap.size → l.length ≤ 1048576 → Calls Try.prog 29 #[.pointer (some ⟨b, 0, none⟩), .int .i64 (64 - (D : Int))] w (Readd (decT D l) b H w))
    (n : Nat) (v : Value) (l : List Nat) (w : World) (h : RD w b H v l) (hH : H ≤ w.heap.size) (hl : l.length ≤ 1048576) (hn : n ≤ 1048576) (r : Nat ⊕ (List Tr × List Nat)) (hr : r = decL (decT D) n l) :
    Calls Try.prog 39 #[.pointer (some ⟨b, 0, none⟩), .int .i64 n, .int .i64 (64 - (D : Int))] w (ReadL r b H w) := by
  obtain ⟨i0, hi0, hz0, hz1, hz2⟩ := info_parts info25b
  have HR : Hid (r = decL (decT D) n l) := hr
  have HCC : Hid _ := HC
  have hlt := h.lt
  have HS : Hid (TW w w.heap.size (.slice none 0 0) [] ∧ RD w b H v l) := ⟨TW_nil _ _, h⟩
  clear h hr HC
  go_enter Try.func39, Try.ntmps39
  go_wp2_with fail
  go_loopw [7, 9] (fun t7 t9 wr => ∃ (i : Nat), i ≤ n ∧ t9 = .int .i64 i ∧ Hid (∃ ts l2 v2, TW wr w.heap.size t7 ts ∧ RD wr b H v2 l2 ∧ KR b w wr ∧ l2.length ≤ 1048576 ∧ decL (decT D) i l = .inr (ts, l2))) (fun _ t9 _ => n - (intOf t9).toNat)
  case atStart => exact ⟨0, Nat.zero_le _, rfl, ⟨[], l, v, HS.out.1, HS.out.2, KR.refl _ _, hl, rfl⟩⟩
  case round =>
    obtain ⟨i, hi, rfl, HV⟩ := hrel
    obtain ⟨ts, l2, v2, g1, g2, g3, g4, g5⟩ := HV.out
    have hsz := g3.size
    by_cases c : i < n
    · have hcall := HCC.out v2 l2 wr g2 (by omega) g4
      have hsn := decL_snoc (decT D) i l
      rw [g5] at hsn
      simp only at hsn
      have HG : Hid (TW wr w.heap.size u7 ts ∧ KR b w wr ∧ ts.length = i) := ⟨g1, g3, decL_length _ _ _ _ _ g5⟩
      clear g1 g2 g3 g5 HV
      generalize decT D l2 = E at hcall hsn
      go_wp2_with fail
      refine hcall.mono ?_
      intro e w2 hrd
      clear hcall
      cases E with
      | inl x =>
        obtain ⟨rfl, hk⟩ := hrd
        have HQ : Hid (ReadL r b H w (gaveUp x) w2) := by
          have e1 : r = .inl x := by rw [HR.out]; exact decL_stop _ _ x (i + 1) hsn n (by omega)
          show ReadL r b H w (gaveUp x) w2
          rw [e1]
          exact ⟨rfl, HG.out.2.1.trans hk⟩
        clear hsn hk
        unfold gaveUp at HQ ⊢
        go_wp2
        exact ⟨rfl, HQ.out⟩
      | inr p =>
        obtain ⟨t, l3⟩ := p
        obtain ⟨cv, v3, rfl, q1, q2, q3, q4⟩ := hrd
        simp only at q1 q2 q4 hsn
        obtain ⟨k2, n2, s2, a2, m2, cap2, rfl⟩ := q1.form
        have hlen := HG.out.2.2
        have hs2 := q3.size
        obtain ⟨xs, ho1, ho2, hnext⟩ := HG.out.1.snocK (B := w.heap.size) (w1 := w2) (by omega) hs2 (fun k hk hk2 => q3.block k hk2 (by omega)) q1 (.cells #[.int .i64 k2, .int .u64 n2, .string s2, .slice a2 m2 cap2] 25)
        rw [hlen] at ho2
        have HNX : Hid (∀ (w3 : World) (g cap : Nat), _) := hnext
        have HQ3 : Hid (RD w2 b H v3 l3 ∧ KR b wr w2 ∧ l3.length ≤ 1048576) := ⟨q2, q3, q4⟩
        have hs3 : w.heap.size ≤ w2.heap.size + 1 := by omega
        have HSN : Hid (decL (decT D) (i + 1) l = .inr (ts ++ [t], l3)) := hsn
        unfold cellV
        clear hnext ho1 q1 q2 q3 q4 hsn
        go_wp2_with (at_builtin; refine wpList_append_lies _ rfl _ _ 23 rfl (w.heap.size) 25 i0 _ 4 56 Try.underlying23 hi0 hz0 hz1 hz2 rfl (by decide) _ i xs rfl ho2 ⟨w2.heap.size, 0, none⟩ 1 1 (quad k2 n2 s2 (.slice a2 m2 cap2)) rfl rfl (cells_quad _ _ _ _ _ _) (by intro u hu; simp [quad] at hu; rcases hu with rfl | rfl | rfl | rfl <;> rfl) (by decide) (by unfold maxLen; omega) (by omega) (by simp; omega) _ rfl ?_)
        intro g3 cap3 w3 hown3 hgrow3 hat3 _
        have HV3 : Hid (∃ ts l2 v2, TW w3 w.heap.size (.slice (some ⟨g3, 0, none⟩) (i + 1) cap3) ts ∧ RD w3 b H v2 l2 ∧ KR b w w3 ∧ l2.length ≤ 1048576 ∧ decL (decT D) (i + 1) l = .inr (ts, l2)) := by
          have h1 := HNX.out w3 g3 cap3 (by rw [hlen]; exact hown3) hgrow3 (by simpa using hat3)
          rw [hlen] at h1
          refine ⟨_, l3, v3, h1, HQ3.out.1.grown hgrow3 (fun k hk => ?_), (HG.out.2.1.trans HQ3.out.2.1).row (Nat.le_refl _) hgrow3 (fun k hk => (ho2.lt k hk).1), HQ3.out.2.2, HSN.out⟩
          have := (ho2.lt k hk).1
          omega
        clear hown3 hgrow3 hat3 ho2 hs2
        go_wp2
        go_roundw
        case rel => exact ⟨i + 1, by omega, by go_num, HV3⟩
        case measure => simp [intOf]; omega
    · have e : i = n := by omega
      subst e
      obtain ⟨a7, cap7, e7⟩ : ∃ a7 cap7, u7 = .slice a7 ts.length cap7 := by
        obtain ⟨xs, _, _, _, _, h1, _⟩ := g1
        exact ownsRow_slice h1
      subst e7
      have HQ : Hid (ReadL r b H w (.returned (.slice a7 ts.length cap7)) wr) := by
        have e1 : r = .inr (ts, l2) := by rw [HR.out]; exact g5
        show ReadL r b H w _ wr
        rw [e1]
        exact ⟨_, v2, rfl, g1, g2, g3, g4⟩
      clear g1 g2 g3 g4 g5 HV
      go_wp2
      go_ret
      exact HQ.out

end Go.Proofs.Ytbkjghhghefejaa
