/-
  The statement CodeDecodes, walked.
-/
import Derived.Test.YtbkjghhghefejaaCdRead3
import Derived.Test.YtbkjghhghefejaaCdApp
import Derived.Test.YtbkjghhghefejaaCodeBegins
namespace Go.Proofs.Ytbkjghhghefejaa
open Go.RowKit Crc

set_option maxHeartbeats 8000000 in
theorem codeDecodes_any (v : Value) (l : List Nat) (W : World) (h : BR W v l) (hl : l.length ≤ 140737488351232) :
    Calls Try.prog 4 #[v] W fun e w' => e = .returned (.bool true) ∧ Below W.heap.size W w' := by
  have HBR : Hid (BR W v l) := h
  have oe := OW_empty W
  have bk : BR (W.alloc (.cells #[] 5)) v l := h.below ((Below.refl _ _).alloc (Nat.le_refl _) _) (Nat.le_refl _)
  obtain ⟨a, cap, rfl⟩ : ∃ a cap, v = .slice a l.length cap := by obtain ⟨_, a, cap, e, _⟩ := h; exact ⟨a, cap, e⟩
  clear h
  go_enter Try.func4, Try.ntmps4
  go_wp2_with (at_builtin; refine wpList_append_br rfl _ _ rfl W.heap.size _ _ [] l rfl rfl oe bk (by simp only [List.length_nil]; omega) (by simp) ?_)
  intro v1 w1 o1 g1
  have hb1 : Below W.heap.size W w1 := oe.grown g1 ((Below.refl _ _).alloc (Nat.le_refl _) _) (by simp)
  have HB1 : Hid (Below W.heap.size W w1) := hb1
  obtain ⟨r, hr⟩ : ∃ r, r = decD l := ⟨_, rfl⟩
  have HR : Hid (r = decD l) := hr
  have hdec := decode_any W.heap.size v1 l w1 o1 r hr
  obtain ⟨a1, cap1, rfl⟩ := ownsRow_slice o1.2
  clear oe bk o1 g1 hb1 hr
  go_wp2_with fail
  refine hdec.mono ?_
  rintro e w2 ⟨v2, x2, rfl, hb2, q2⟩
  obtain ⟨k2, n2, s2, a2, m2, cap2, rfl⟩ : ∃ k n s a m cap, v2 = cellV k n s (.slice a m cap) := by
    cases r with
    | inl z => exact ⟨0, 0, ⟨#[]⟩, none, 0, 0, q2.1⟩
    | inr p => exact q2.1.form
  obtain ⟨t, ht, htr⟩ : ∃ t, CR w2 t (cellV k2 n2 s2 (.slice a2 m2 cap2)) ∧ ((∃ z : Nat, r = .inl z ∧ t = .mk 0 0 ⟨#[]⟩ [] ∧ x2 = (z : Int)) ∨ (r = .inr t ∧ x2 = 0)) := by
    cases r with
    | inl z =>
      refine ⟨.mk 0 0 ⟨#[]⟩ [], ?_, Or.inl ⟨z, rfl, rfl, q2.2⟩⟩
      rw [q2.1]
      exact (CS_flat w2 (fun _ => True) 0 0 ⟨#[]⟩ (by decide) (by decide) (by decide)).cr
    | inr p => exact ⟨p, q2.1.cr, Or.inr ⟨rfl, q2.2⟩⟩
  obtain ⟨w3, hw3⟩ : ∃ w3, w3 = w2.alloc (.cells #[.int .i64 k2, .int .u64 n2, .string s2, .slice a2 m2 cap2] 25) := ⟨_, rfl⟩
  have hb3 : Below w2.heap.size w2 w3 := by rw [hw3]; exact (Below.refl _ _).alloc (Nat.le_refl _) _
  have HB3 : Hid (Below W.heap.size W w3) := Below.then (Below.then HB1.out hb2) hb3
  have HX3 : Hid (Bxc w3 w2.heap.size k2 n2 s2 (.slice a2 m2 cap2)) := by rw [hw3]; exact Bxc.new w2 k2 n2 s2 _ _
  have HT3 : Hid (CR w3 t (cellV k2 n2 s2 (.slice a2 m2 cap2))) := ht.kept hb3 (Nat.le_refl _)
  have HTR : Hid _ := htr
  have hrd := rdecode_any _ l w3 (HBR.out.below HB3.out (Nat.le_refl _)) r HR.out
  unfold cellV
  clear hdec q2 ht htr hb2 hb3
  go_wp2_with fail
  rw [← hw3]
  refine hrd.mono ?_
  rintro e w4 ⟨v4, x4, rfl, hb4, q4⟩
  obtain ⟨k4, n4, s4, a4, m4, cap4, rfl⟩ : ∃ k n s a m cap, v4 = cellV k n s (.slice a m cap) := by
    cases r with
    | inl z => exact ⟨0, 0, ⟨#[]⟩, none, 0, 0, q4.1⟩
    | inr p => exact q4.1.form
  have ht4 : CR w4 t (cellV k4 n4 s4 (.slice a4 m4 cap4)) ∧ x4 = x2 := by
    rcases HTR.out with ⟨z, rfl, rfl, rfl⟩ | ⟨rfl, rfl⟩
    · refine ⟨?_, q4.2⟩
      rw [q4.1]
      exact (CS_flat w4 (fun _ => True) 0 0 ⟨#[]⟩ (by decide) (by decide) (by decide)).cr
    · exact ⟨q4.1.cr, q4.2⟩
  obtain ⟨ht4, rfl⟩ := ht4
  obtain ⟨w5, hw5⟩ : ∃ w5, w5 = w4.alloc (.cells #[.int .i64 k4, .int .u64 n4, .string s4, .slice a4 m4 cap4] 25) := ⟨_, rfl⟩
  have hb5 : Below w4.heap.size w4 w5 := by rw [hw5]; exact (Below.refl _ _).alloc (Nat.le_refl _) _
  have hb35 : Below w3.heap.size w3 w5 := Below.then hb4 hb5
  have HB5 : Hid (Below W.heap.size W w5) := Below.then HB3.out hb35
  have HX5 : Hid (Bxc w5 w2.heap.size k2 n2 s2 (.slice a2 m2 cap2)) := HX3.out.below hb35
  have hY5 : Bxc w5 w4.heap.size k4 n4 s4 (.slice a4 m4 cap4) := by rw [hw5]; exact Bxc.new w4 k4 n4 s4 _ _
  have HT5 : Hid (CR w5 t (cellV k2 n2 s2 (.slice a2 m2 cap2))) := HT3.out.kept hb35 (Nat.le_refl _)
  have hsm := same_any (t.dep + 1) t t _ _ w5 (Nat.lt_succ_self _) HT5.out (ht4.kept hb5 (Nat.le_refl _))
  rw [(same_iff _ _).mpr rfl] at hsm
  have hx5 := HX5.out
  obtain ⟨_, c0, c1, c2, c3⟩ := hx5
  obtain ⟨_, d0, d1, d2, d3⟩ := hY5
  rw [hw5] at c0 c1 c2 c3 d0 d1 d2 d3
  unfold cellV at hsm ⊢
  clear hrd q4 ht4 hb4 hb5 hb35 hw3
  go_wp2_with fail
  rw [← hw5]
  refine hsm.mono ?_
  rintro e w6 ⟨rfl, hb6⟩
  have HB6 : Hid (Below W.heap.size W w6) := Below.then HB5.out hb6
  have HX6 : Hid (Bxc w6 w2.heap.size k2 n2 s2 (.slice a2 m2 cap2)) := HX5.out.below hb6
  have HT6 : Hid (CR w6 t (cellV k2 n2 s2 (.slice a2 m2 cap2))) := HT5.out.kept hb6 (Nat.le_refl _)
  clear hsm hb6 c0 c1 c2 c3 d0 d1 d2 d3 hw5
  have hl6 := lives_any w6
  rcases HTR.out with ⟨z, hz, _, hxz⟩ | ⟨hrt, hx0⟩
  · have hz3 : z = 2 ∨ z = 3 ∨ z = 4 := by
      have e := HR.out
      rw [hz] at e
      unfold decD at e
      split at e
      · injection e with e; omega
      · split at e
        · next y hy => injection e with e; subst e; exact dec_err 64 l _ hy
        · next p hp => split at e
                       · cases e
                       · injection e with e; omega
    have hx3 : x4 = 2 ∨ x4 = 3 ∨ x4 = 4 := by omega
    clear hxz hz3 hz
    rcases hx3 with rfl | rfl | rfl
    all_goals
      go_wp2_with fail
      refine hl6.mono ?_
      rintro e w7 ⟨rfl, hb7⟩
      have HQ : Hid (Below W.heap.size W w7) := Below.then HB6.out hb7
      clear hl6 hb7
      go_wp2
      go_ret
      exact ⟨rfl, HQ.out⟩
  · subst hx0
    have henc := encode_any t _ w6 HT6.out (.inr l) (law_reads HBR.out.1 (by rw [← HR.out]; exact hrt)).symm
    obtain ⟨_, c0, c1, c2, c3⟩ := HX6.out
    unfold cellV at henc
    clear hl6
    go_wp2_with fail
    refine henc.mono ?_
    rintro e w7 ⟨v7, x7, rfl, hb7, o7, rfl⟩
    have HB7 : Hid (Below W.heap.size W w7) := Below.then HB6.out hb7
    have hc7 := conv_any o7.br
    have hcb := conv_any (HBR.out.below HB7.out (Nat.le_refl _))
    obtain ⟨a7, cap7, rfl⟩ := ownsRow_slice o7.2
    have hlv := lives_any w7
    generalize bsN l = T at *
    clear henc hb7 o7 c0 c1 c2 c3
    go_wp2_with fail
    refine hlv.mono ?_
    rintro e w8 ⟨rfl, hb8⟩
    have HQ : Hid (Below W.heap.size W w8) := Below.then HB7.out hb8
    clear hlv hb8 hc7 hcb
    go_wp2
    go_ret
    exact ⟨rfl, HQ.out⟩

end Go.Proofs.Ytbkjghhghefejaa
