/-
  The statement CodeCuts, walked.
-/
import Derived.Test.YtbkjghhghefejaaCdApp
import Derived.Test.YtbkjghhghefejaaCodeBegins
namespace Go.Proofs.Ytbkjghhghefejaa
open Go.RowKit Crc

set_option maxHeartbeats 4000000 in
theorem codeCuts_any (t : Tr) (v : Value) (at0 : Nat) (W : World) (h : CR W t v) (hat : at0 < 65536) :
    Calls Try.prog 7 #[v, .int .u16 at0] W fun e w' => e = .returned (.bool true) ∧ Below W.heap.size W w' := by
  obtain ⟨k, n, s, a, m, cap, rfl⟩ := h.cs.form
  obtain ⟨w1, hw1⟩ : ∃ w1, w1 = W.alloc (.cells #[.int .i64 k, .int .u64 n, .string s, .slice a m cap] 25) := ⟨_, rfl⟩
  have hB1 : Below W.heap.size W w1 := by rw [hw1]; exact (Below.refl _ _).alloc (Nat.le_refl _) _
  have x1 : Bxc w1 W.heap.size k n s (.slice a m cap) := by rw [hw1]; exact Bxc.new W k n s _ _
  have HT : Hid (CR W t (cellV k n s (.slice a m cap))) := h
  have HX1 : Hid _ := x1
  have HB1 : Hid _ := hB1
  have hsm := lawSmall_any t _ w1 (h.kept hB1 (Nat.le_refl _))
  obtain ⟨_, c0, c1, c2, c3⟩ := x1
  unfold cellV at hsm ⊢
  clear h hB1
  go_enter Try.func7, Try.ntmps7
  go_wp2_with fail
  rw [← hw1]
  clear hw1
  refine hsm.mono ?_
  rintro e w2 ⟨ok, rfl, hok, hb2⟩
  have HB2 : Hid (Below W.heap.size W w2) := Below.then HB1.out hb2
  have HX2 : Hid _ := HX1.out.below hb2
  clear hsm c0 c1 c2 c3 hb2
  cases ok with
  | false =>
    clear hok
    have hl := lives_any w2
    go_wp2_with fail
    refine hl.mono ?_
    rintro e w3 ⟨rfl, hb3⟩
    have HQ : Hid (Below W.heap.size W w3) := Below.then HB2.out hb3
    clear hl hb3
    go_wp2
    go_ret
    exact ⟨rfl, HQ.out⟩
  | true =>
    have HOK : Hid (t.cnt ≤ 3000 ∧ t.dep ≤ 100) := hok rfl
    clear hok
    have how := own_cell (t.dep + 1) t _ w2 (Nat.lt_succ_self _) (by have := HOK.out; omega) (HT.out.kept HB2.out (Nat.le_refl _))
    obtain ⟨_, c0, c1, c2, c3⟩ := HX2.out
    unfold cellV at how
    go_wp2_with fail
    refine how.mono ?_
    rintro e w4 ⟨v4, rfl, q4, hb4⟩
    have henc := encode_any t v4 w4 q4.cr _ rfl
    obtain ⟨k4, n4, s4, a4, m4, cap4, rfl⟩ := q4.form
    have HB4 : Hid (Below W.heap.size W w4) := Below.then HB2.out hb4
    generalize hr : encT t 64 [] = r at henc
    have HR : Hid (encT t 64 [] = r) := hr
    unfold cellV at henc ⊢
    clear how c0 c1 c2 c3 hb4 q4 hr
    go_wp2_with fail
    refine henc.mono ?_
    rintro e w5 ⟨v5, x5, rfl, hb5, q5⟩
    have HB5 : Hid (Below W.heap.size W w5) := Below.then HB4.out hb5
    have HQ5 : Hid (EncV r w4.heap.size w5 v5 x5) := q5
    clear henc hb5 q5
    cases r with
    | inl y =>
      obtain ⟨rfl, rfl⟩ := HQ5.out
      have hy : ¬ (y : Int) = 0 := by have := enc_err t _ _ y HR.out; omega
      have hl := lives_any w5
      go_wp2_with fail
      refine hl.mono ?_
      rintro e w8 ⟨rfl, hb8⟩
      have HQ : Hid (Below W.heap.size W w8) := Below.then HB5.out hb8
      clear hl hb8
      go_wp2
      go_ret
      exact ⟨rfl, HQ.out⟩
    | inr lb =>
      obtain ⟨o5, rfl⟩ := HQ5.out
      obtain ⟨hlb, hlm, hl1⟩ := enc_top HR.out
      obtain ⟨a5, cap5, rfl⟩ := ownsRow_slice o5.2
      have b5 : BR w5 (.slice a5 lb.length cap5) lb := o5.br
      have hcap5 : lb.length ≤ cap5 ∧ cap5 ≤ 9223372036854775807 := by
        obtain ⟨_, _, _, e, h1, h2, _⟩ := b5
        simp only [Value.slice.injEq] at e
        obtain ⟨_, _, rfl⟩ := e
        unfold maxLen at h2
        omega
      have HD1 : Hid (∀ i, i < lb.length → decD (lb.take i) = .inl 3) := fun i hi => law_cut HR.out HT.out.nt i hi
      have HD2 : Hid (∀ x, decD (lb ++ [x]) = if lb.length = 1048576 then .inl 2 else .inl 4) := fun x => law_more HR.out HT.out.nt x
      have HSM : Hid (Sm8 lb) := o5.1
      have HBR : Hid (BR w5 (.slice a5 lb.length cap5) lb) := b5
      obtain ⟨N, hN⟩ : ∃ N, N = lb.length := ⟨_, rfl⟩
      have HN : Hid (N = lb.length) := hN
      obtain ⟨K, hK⟩ : ∃ K, K = at0 % N := ⟨_, rfl⟩
      have hKN : K < N := by rw [hK]; exact Nat.mod_lt _ (by omega)
      have hKi : (at0 : Int).tmod (N : Int) = (K : Int) := by
        rw [hK]; rfl
      rw [← hN] at hlm hl1 hcap5 b5 ⊢
      have hN0 : ¬ (N : Int) = 0 := by omega
      have hKc : (K : Int) ≤ (cap5 : Int) := by omega
      -- the first part
      have oe := OW_empty w5
      have bk : BR (w5.alloc (.cells #[] 5)) (.slice a5 K cap5) (lb.take K) := by
        have := b5.head (hi := K) (by rw [← hN]; omega)
        exact this.below ((Below.refl _ _).alloc (Nat.le_refl _) _) (Nat.le_refl _)
      have hbl : (lb.take K).length = K := by rw [List.length_take]; omega
      clear hK hN o5 hlb b5
      go_wp2_with (at_builtin; refine wpList_append_br rfl _ _ rfl w5.heap.size _ _ [] (lb.take K) rfl rfl oe bk (by simp only [List.length_nil]; omega) (by simp) ?_)
      intro v6 w6 o6 g6
      have hb6 : Below w5.heap.size w5 w6 := oe.grown g6 ((Below.refl _ _).alloc (Nat.le_refl _) _) (by simp)
      have HB6 : Hid (Below W.heap.size W w6) := Below.then HB5.out hb6
      have HW6 : Hid (Below w5.heap.size w5 w6) := hb6
      have hdec := decode_any w5.heap.size v6 (lb.take K) w6 o6 (.inl 3) (HD1.out K (by rw [← HN.out]; exact hKN)).symm
      obtain ⟨a6, cap6, rfl⟩ := ownsRow_slice o6.2
      rw [hbl] at hdec ⊢
      clear oe bk o6 g6 hb6
      go_wp2_with fail
      refine hdec.mono ?_
      rintro e w7 ⟨v7, x7, rfl, hb7, rfl, rfl⟩
      have HB7 : Hid (Below W.heap.size W w7) := Below.then HB6.out hb7
      have HW7 : Hid (Below w5.heap.size w5 w7) := Below.then HW6.out hb7
      clear hdec hb7
      unfold cellV
      -- the second part
      obtain ⟨w8, hw8⟩ : ∃ w8, w8 = w7.alloc (.cells #[.int .i64 0, .int .u64 0, .string ⟨#[]⟩, .slice none 0 0] 25) := ⟨_, rfl⟩
      have hb8 : Below w7.heap.size w7 w8 := by rw [hw8]; exact (Below.refl _ _).alloc (Nat.le_refl _) _
      have HB8 : Hid (Below W.heap.size W w8) := Below.then HB7.out hb8
      have hs8 : w8.heap.size = w7.heap.size + 1 := by rw [hw8]; simp
      have hs7 := HB7.out.size
      have oe := OW_empty w8
      rw [hs8] at oe
      have bk : BR (w8.alloc (.cells #[] 5)) (.slice a5 N cap5) lb := by
        have := HBR.out
        rw [← HN.out] at this
        exact this.below ((Below.then HW7.out hb8).alloc (by have := HW7.out.size; have := hb8.size; omega) _) (Nat.le_refl _)
      have hlbN : lb.length = N := HN.out.symm
      go_wp2_with (at_builtin; rw [← hw8]; refine wpList_append_br rfl _ _ rfl (w7.heap.size + 1) _ _ [] lb rfl rfl oe bk (by simp only [List.length_nil]; omega) (by simp; omega) ?_)
      intro v9 w9 o9 g9
      rw [← hw8] at g9
      have hb9 : Below (w7.heap.size + 1) w8 w9 := oe.grown g9 ((Below.refl _ _).alloc (by omega) _) (by simp; omega)
      have HB9 : Hid (Below W.heap.size W w9) := HB8.out.trans (hb9.mono (by omega))
      obtain ⟨X, hX⟩ : ∃ X, X = at0 % 256 := ⟨_, rfl⟩
      have hX8 : X < 256 := by omega
      have hXi : (at0 : Int) % 256 = (X : Int) := by omega
      have o9a := o9.alloc (.cells #[.int .u8 (X : Int)] 5)
      have bx := br_one w9 X hX8
      have hs9 := hb9.size
      obtain ⟨a9, cap9, rfl⟩ := ownsRow_slice o9.2
      rw [hlbN] at o9a ⊢
      clear hX oe bk o9 g9 hw8
      go_wp2_with (at_builtin; refine wpList_append_br rfl _ _ rfl (w7.heap.size + 1) _ _ lb [X] rfl rfl o9a bx (by simp only [List.length_cons, List.length_nil]; omega) (by simp; omega) ?_)
      intro v10 w10 o10 g10
      have hb10 : Below (w7.heap.size + 1) w8 w10 := o9a.grown g10 (hb9.alloc (by omega) _) (by simp; omega)
      have HB10 : Hid (Below W.heap.size W w10) := HB8.out.trans (hb10.mono (by omega))
      have hdec := decode_any (w7.heap.size + 1) v10 (lb ++ [X]) w10 o10 _ (HD2.out X).symm
      rw [hlbN] at hdec
      obtain ⟨a10, cap10, rfl⟩ := ownsRow_slice o10.2
      have hlx : (lb ++ [X]).length = N + 1 := by simp [hlbN]
      rw [hlx] at hdec ⊢
      clear o9a bx o10 g10 hb10 hb9 hs9
      generalize hE : (if N = 1048576 then Sum.inl 2 else Sum.inl 4 : Nat ⊕ Tr) = E at hdec
      have HE : Hid ((if N = 1048576 then Sum.inl 2 else Sum.inl 4 : Nat ⊕ Tr) = E) := hE
      clear hE
      go_wp2_with fail
      refine hdec.mono ?_
      rintro e w11 ⟨v11, x11, rfl, hb11, hv⟩
      have HB11 : Hid (Below W.heap.size W w11) := Below.then HB10.out hb11
      have hl := fun o : Obj => lives_any (w11.alloc o)
      have hv2 : v11 = cellV 0 0 ⟨#[]⟩ (.slice none 0 0) ∧ (x11 = 4 ∨ N = 1048576 ∧ x11 = 2) := by
        by_cases cM : N = 1048576
        · rw [← HE.out, if_pos cM] at hv; exact ⟨hv.1, Or.inr ⟨cM, hv.2⟩⟩
        · rw [← HE.out, if_neg cM] at hv; exact ⟨hv.1, Or.inl hv.2⟩
      clear hdec hb11 hv
      obtain ⟨rfl, hv3⟩ := hv2
      unfold cellV
      rcases hv3 with rfl | ⟨cM, rfl⟩
      · go_wp2_with fail
        refine (hl _).mono ?_
        rintro e w12 ⟨rfl, hb12⟩
        have HQ : Hid (Below W.heap.size W w12) := Below.then (HB11.out.alloc HB11.out.size _) hb12
        clear hl hb12
        go_wp2
        go_ret
        exact ⟨rfl, HQ.out⟩
      · have cMi : (N : Int) = 1048576 := by omega
        clear cM
        go_wp2_with fail
        refine (hl _).mono ?_
        rintro e w12 ⟨rfl, hb12⟩
        have HQ : Hid (Below W.heap.size W w12) := Below.then (HB11.out.alloc HB11.out.size _) hb12
        clear hl hb12
        go_wp2
        go_ret
        exact ⟨rfl, HQ.out⟩

end Go.Proofs.Ytbkjghhghefejaa
