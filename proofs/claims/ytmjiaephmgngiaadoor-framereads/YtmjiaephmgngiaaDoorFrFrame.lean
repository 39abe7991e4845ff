/-
  The landed Frame, walked.
-/
import Derived.Test.YtmjiaephmgngiaaDoorFrWord
import Derived.OwnWalk
namespace Go.Proofs.YtmjiaephmgngiaaDoor
open Go.RowKit Crc

/-- A frame's bytes. -/
def frm (l : List Nat) : List Nat := be4 l.length ++ be4 (sumN (be4 l.length ++ l)) ++ l
theorem frm_length (l : List Nat) : (frm l).length = 8 + l.length := by unfold frm be4; simp; omega
theorem frm_sm {l : List Nat} (h : Sm8 l) : Sm8 (frm l) := ((be4_sm _).append (be4_sm _)).append h

theorem frame_long (v : Value) (l : List Nat) (w : World) (h : BR w v l) (hl : 1048576 < l.length) :
    Calls Tryd.prog 12 #[v] w fun e w' => e = .returned (.tuple #[.slice none 0 0, .int .i64 2]) ∧ w' = w := by
  obtain ⟨_, a, cap, rfl, h3, h4, _⟩ := h
  unfold maxLen at h4
  have hi : (1048576 : Int) < (l.length : Int) := by omega
  generalize l.length = n at *
  go_enter Tryd.func12, Tryd.ntmps12
  go_wp2
  go_ret2
  exact ⟨rfl, rfl⟩

set_option maxHeartbeats 1000000 in
theorem frame_any (v : Value) (l : List Nat) (w : World) (h : BR w v l) (hT : Tb w) (h0 : 0 < w.heap.size) (hl : l.length ≤ 1048576) :
    Calls Tryd.prog 12 #[v] w fun e w' => ∃ v', e = .returned (.tuple #[v', .int .i64 0]) ∧ OW w' w.heap.size v' (frm l) ∧ Below w.heap.size w w' := by
  obtain ⟨i0, hi0, hz0, hz1, hz2⟩ := info_parts info8
  obtain ⟨n, hn⟩ : ∃ n, n = l.length := ⟨_, rfl⟩
  have HR : Hid (BR w v l) := h
  have HT : Hid (Tb w) := hT
  obtain ⟨s1, a, cap, rfl, h3, h4, h5⟩ := h
  have HN : Hid (n = l.length) := hn
  replace HR : Hid (BR w (.slice a n cap) l) := by rw [hn]; exact HR
  have HX : Hid ((a = none ∧ cap = 0) ∨ ∃ x, a = some x ∧ ∀ i, i < l.length → w.cell? (x.add i) = some (.int .u8 (l.getD i 0 : Nat))) := h5
  have HL : Hid (l.length ≤ cap) := h3
  rw [← hn] at hl ⊢
  have hi : ¬ (1048576 : Int) < (n : Int) := by omega
  have HS : Hid (Sm8 l) := s1
  clear s1 h3 h4 h5 hn hT
  go_enter Tryd.func12, Tryd.ntmps12
  go_wp2_with (at_make; refine wpList_make_own _ rfl _ _ 22 rfl w.heap.size 5 i0 (.int .u8 0) 1 Tryd.underlying22 hi0 hz0 hz1 .i64 .i64 _ (8 + n) rfl rfl (by omega) (by rw [hz2]; omega) (by unfold maxLen; omega) (Nat.le_refl _) ?_)
  intro w1 ho1 hg1
  have hO1 : OW w1 w.heap.size (.slice (some ⟨w.heap.size, 0, none⟩) 0 (8 + n)) [] := ⟨fun d hd => (by cases hd), ho1⟩
  have hb1 : Below w.heap.size w w1 := (Below.refl _ _).grown hg1 (Nat.le_refl _) (fun k hk => by cases hk)
  have z1 := hb1.size
  have hn1 : (n : Int) % 4294967296 = (n : Int) := by omega
  clear ho1 hg1
  go_wp2_with fail
  refine (appendWord_any _ [] n w.heap.size w1 hO1 z1 (by omega) (by simp)).mono ?_
  rintro e w2 ⟨v2, rfl, hO2, hb2⟩
  rw [List.nil_append] at hO2
  have z2 := hb2.size
  have hB2 := hb1.trans hb2
  obtain ⟨a2, c2, rfl⟩ : ∃ a2 c2, v2 = .slice a2 4 c2 := by
    obtain ⟨_, a2, c2, e, _⟩ := hO2.br
    exact ⟨a2, c2, e⟩
  have hb3 : Below w2.heap.size w2 (w2.alloc (.cells #[.slice a2 4 c2, .slice a n cap] 22)) := (Below.refl _ _).alloc (Nat.le_refl _) _
  have hs := sumOf_any w2.heap.size 2 [.slice a2 4 c2, .slice a n cap] [be4 n, l] (w2.alloc (.cells #[.slice a2 4 c2, .slice a n cap] 22)) rfl (by decide) ((HT.out.below hB2 h0).below hb3 (by omega)) (by
    intro j hj
    have : j = 0 ∨ j = 1 := by omega
    rcases this with rfl | rfl
    · exact ⟨cells_at _ _ _ _ _ rfl, hO2.br.below hb3 (Nat.le_refl _)⟩
    · exact ⟨cells_at _ _ _ _ _ rfl, (HR.out.below hB2 (Nat.le_refl _)).below hb3 (Nat.le_refl _)⟩)
  have e1 : ([be4 n, l] : List (List Nat)).flatten = be4 n ++ l := by simp
  rw [e1] at hs
  have hlt : sumN (be4 n ++ l) < 4294967296 := sumN_lt ((be4_sm n).append HS.out)
  have HF : Hid (frm l = be4 n ++ be4 (sumN (be4 n ++ l)) ++ l) := by show _ = _; unfold frm; rw [← HN.out]
  generalize sumN (be4 n ++ l) = s at *
  have hO3 := hO2.below hb3 (Nat.le_refl _)
  have hB3 := hB2.trans (hb3.mono (by omega))
  have z3 := hb3.size
  clear e1 hO1 hb1 hb2 hO2 hB2 hb3
  go_wp2_with fail
  refine hs.mono ?_
  rintro e w3 ⟨rfl, hw3⟩
  rw [hw3]
  clear hw3 hs
  go_wp2_with fail
  refine (appendWord_any _ _ s w.heap.size _ hO3 (by omega) hlt (by unfold be4; simp)).mono ?_
  rintro e w4 ⟨v4, rfl, hO4, hb4⟩
  have hB4 := hB3.trans hb4
  have z4 := hb4.size
  clear hb4 hB3 hO3
  have hown := hO4.2
  have e2 : (be4 n ++ be4 s).length = 8 := by unfold be4; rfl
  rw [e2] at hown
  rcases HX.out with ⟨rfl, rfl⟩ | ⟨x, rfl, hc⟩
  · have en : n = 0 := by have := HL.out; have := HN.out; omega
    have el : l = [] := List.eq_nil_of_length_eq_zero (by have := HN.out; omega)
    subst en
    have HQ : Hid (OW w4 w.heap.size v4 (frm l) ∧ Below w.heap.size w w4) := by
      refine ⟨?_, hB4⟩
      rw [HF.out, el, List.append_nil]; exact hO4
    go_wp2_with (at_builtin; refine wpList_append_own_none rfl _ _ 22 rfl w.heap.size 5 i0 1 Tryd.underlying22 hi0 _ 8 _ rfl hown rfl ?_)
    go_wp2
    go_ret2
    exact ⟨_, rfl, HQ.out⟩
  · have HC : Hid (∀ j u, (c8 l)[j]? = some u → w4.cell? (x.add j) = some u) := by
      intro j u hu
      obtain ⟨e1, rfl⟩ := c8_at hu
      have := World.block_lt_of_cell? w _ (hc j e1)
      rw [hB4.cell this]
      exact hc j e1
    have ho := c8_one l
    have hd : (c8 l).length = n * 1 := by rw [c8_length]; have := HN.out; omega
    clear hc
    go_wp2_with (at_builtin; refine wpList_append_own _ rfl _ _ 22 rfl w.heap.size 5 i0 (.int .u8 0) 1 1 Tryd.underlying22 hi0 hz0 hz1 hz2 rfl (by decide) v4 8 _ rfl hown x n cap (c8 l) rfl hd HC.out ho (by unfold maxLen; omega) (by omega) (by omega) ?_)
    intro v' w5 hown5 hgrow _
    have HQ : Hid (OW w5 w.heap.size v' (frm l) ∧ Below w.heap.size w w5) := by
      refine ⟨⟨frm_sm HS.out, ?_⟩, grown_below hB4 hown hgrow⟩
      rw [frm_length, HF.out, c8_append, ← HN.out]
      exact hown5
    clear hown5 hgrow
    go_wp2
    go_ret2
    exact ⟨_, rfl, HQ.out⟩

end Go.Proofs.YtmjiaephmgngiaaDoor
