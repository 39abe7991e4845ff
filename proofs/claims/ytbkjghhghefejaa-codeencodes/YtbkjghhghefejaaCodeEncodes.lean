/-
  The statement CodeEncodes, walked.
-/
import Derived.Test.YtbkjghhghefejaaCodeBegins
import Derived.Test.YtbkjghhghefejaaCdPut3
import Derived.Test.YtbkjghhghefejaaCdSame2
import Derived.Deep.RegionHeld3
namespace Go.Proofs.Ytbkjghhghefejaa
open Go.RowKit Crc

theorem conv_nil (w : World) : (convert 28 9 (.slice none 0 0)).run Try.prog w = .ok (.string (bsN [])) w :=
  conv_any ⟨fun d hd => by simp at hd, none, 0, rfl, Nat.le_refl _, by unfold maxLen; omega, Or.inl ⟨rfl, rfl⟩⟩

set_option maxHeartbeats 8000000 in
theorem codeEncodes_any (t t' : Tr) (v v' : Value) (W : World) (h : CR W t v) (h' : CR W t' v') (st : ST t) :
    Calls Try.prog 3 #[v, v'] W fun e w' => e = .returned (.bool true) ∧ Below W.heap.size W w' := by
  obtain ⟨k, n, s, a, m, cap, rfl⟩ := h.cs.form
  obtain ⟨k', n', s', a', m', cap', rfl⟩ := h'.cs.form
  obtain ⟨w1, hw1⟩ : ∃ w1, w1 = (W.alloc (.cells #[.int .i64 k, .int .u64 n, .string s, .slice a m cap] 25)).alloc (.cells #[.int .i64 k', .int .u64 n', .string s', .slice a' m' cap'] 25) := ⟨_, rfl⟩
  have hB1 : Below W.heap.size W w1 := by rw [hw1]; exact ((Below.refl _ _).alloc (Nat.le_refl _) _).alloc (by simp) _
  have x1 : Bxc w1 W.heap.size k n s (.slice a m cap) := by rw [hw1]; exact (Bxc.new W k n s _ _).below ((Below.refl _ _).alloc (Nat.le_refl _) _)
  have y1 : Bxc w1 (W.heap.size + 1) k' n' s' (.slice a' m' cap') := by
    have := Bxc.new (W.alloc (.cells #[.int .i64 k, .int .u64 n, .string s, .slice a m cap] 25)) k' n' s' (.slice a' m' cap') 25
    rw [← hw1, show (W.alloc (.cells #[.int .i64 k, .int .u64 n, .string s, .slice a m cap] 25)).heap.size = W.heap.size + 1 by simp] at this
    exact this
  have HT : Hid (CR W t (cellV k n s (.slice a m cap))) := h
  have HT' : Hid (CR W t' (cellV k' n' s' (.slice a' m' cap'))) := h'
  have HX1 : Hid _ := x1
  have HY1 : Hid _ := y1
  have HB1 : Hid _ := hB1
  have hsm := lawSmall_any t _ w1 (h.kept hB1 (Nat.le_refl _))
  obtain ⟨_, c0, c1, c2, c3⟩ := x1
  unfold cellV at hsm ⊢
  clear h h' y1 hB1
  go_enter Try.func3, Try.ntmps3
  go_wp2_with fail
  rw [← hw1]
  clear hw1
  refine hsm.mono ?_
  rintro e w2 ⟨ok, rfl, hok, hb2⟩
  have HB2 : Hid (Below W.heap.size W w2) := Below.then HB1.out hb2
  have HX2 : Hid _ := HX1.out.below hb2
  have HY2 : Hid _ := HY1.out.below hb2
  clear hsm c0 c1 c2 c3 hb2
  cases ok with
  | false =>
    clear hok
    have hl := lives_any w2
    go_wp2_with fail
    refine hl.mono ?_
    rintro e w3 ⟨rfl, hb3⟩
    have HQ : Hid (Below W.heap.size W w3) := Below.then HB2.out hb3
    clear hl hb3
    go_wp2
    go_ret
    exact ⟨rfl, HQ.out⟩
  | true =>
    have HOK : Hid (t.cnt ≤ 3000 ∧ t.dep ≤ 100) := hok rfl
    have hsm := lawSmall_any t' _ w2 (HT'.out.kept HB2.out (Nat.le_refl _))
    obtain ⟨_, c0, c1, c2, c3⟩ := HY2.out
    unfold cellV at hsm
    clear hok
    go_wp2_with fail
    refine hsm.mono ?_
    rintro e w3 ⟨ok, rfl, hok, hb3⟩
    have HB3 : Hid (Below W.heap.size W w3) := Below.then HB2.out hb3
    have HX3 : Hid _ := HX2.out.below hb3
    have HY3 : Hid _ := HY2.out.below hb3
    clear hsm c0 c1 c2 c3 hb3
    cases ok with
    | false =>
      clear hok
      have hl := lives_any w3
      go_wp2_with fail
      refine hl.mono ?_
      rintro e w4 ⟨rfl, hb4⟩
      have HQ : Hid (Below W.heap.size W w4) := Below.then HB3.out hb4
      clear hl hb4
      go_wp2
      go_ret
      exact ⟨rfl, HQ.out⟩
    | true =>
      have HOK' : Hid (t'.cnt ≤ 3000 ∧ t'.dep ≤ 100) := hok rfl
      clear hok
      -- the first cell
      have how := own_cell (t.dep + 1) t _ w3 (Nat.lt_succ_self _) (by have := HOK.out; omega) (HT.out.kept HB3.out (Nat.le_refl _))
      obtain ⟨_, c0, c1, c2, c3⟩ := HX3.out
      unfold cellV at how
      go_wp2_with fail
      refine how.mono ?_
      rintro e w4 ⟨v4, rfl, q4, hb4⟩
      have henc := encode_any t v4 w4 q4.cr _ rfl
      obtain ⟨k4, n4, s4, a4, m4, cap4, rfl⟩ := q4.form
      have HB4 : Hid (Below W.heap.size W w4) := Below.then HB3.out hb4
      have HX4 : Hid _ := HX3.out.below hb4
      have HY4 : Hid _ := HY3.out.below hb4
      generalize hr : encT t 64 [] = r at henc
      have HR : Hid (encT t 64 [] = r) := hr
      unfold cellV at henc ⊢
      clear how c0 c1 c2 c3 hb4 q4 hr
      go_wp2_with fail
      refine henc.mono ?_
      rintro e w5 ⟨v5, x5, rfl, hb5, q5⟩
      have HB5 : Hid (Below W.heap.size W w5) := Below.then HB4.out hb5
      have HX5 : Hid _ := HX4.out.below hb5
      have HY5 : Hid _ := HY4.out.below hb5
      have HQ5 : Hid (EncV r w4.heap.size w5 v5 x5) := q5
      clear henc hb5 q5
      -- the reference's bytes
      have henc := rencode_any t _ w5 (HT.out.kept HB5.out (Nat.le_refl _)) (by have := HOK.out; omega) st r HR.out.symm
      obtain ⟨_, c0, c1, c2, c3⟩ := HX5.out
      unfold cellV at henc
      go_wp2_with fail
      refine henc.mono ?_
      rintro e w6 ⟨v6, x6, rfl, hb6, q6⟩
      have HB6 : Hid (Below W.heap.size W w6) := Below.then HB5.out hb6
      have HX6 : Hid _ := HX5.out.below hb6
      have HY6 : Hid _ := HY5.out.below hb6
      have HQ6 : Hid (EncV r w5.heap.size w6 v6 x6) := q6
      have HW6 : Hid (Below w5.heap.size w5 w6) := hb6
      clear henc hb6 q6 c0 c1 c2 c3
      -- both are the same
      obtain ⟨T, hT, hx⟩ : ∃ T : ByteArray, (∀ w', Below w6.heap.size w6 w' → (convert 28 9 v5).run Try.prog w' = .ok (.string T) w' ∧ (convert 28 9 v6).run Try.prog w' = .ok (.string T) w') ∧ x5 = x6 := by
        have p5 := HQ5.out
        have p6 := HQ6.out
        cases r with
        | inl y =>
          obtain ⟨rfl, rfl⟩ := p5
          obtain ⟨rfl, rfl⟩ := p6
          exact ⟨bsN [], fun w' _ => ⟨conv_nil w', conv_nil w'⟩, rfl⟩
        | inr m =>
          obtain ⟨o5, rfl⟩ := p5
          obtain ⟨o6, rfl⟩ := p6
          exact ⟨bsN m, fun w' hb => ⟨conv_any (o5.br.below (Below.then HW6.out hb) (Nat.le_refl _)), conv_any (o6.br.below hb (Nat.le_refl _))⟩, rfl⟩
      subst hx
      have HK : Hid (∀ w', Below w6.heap.size w6 w' → (convert 28 9 v5).run Try.prog w' = .ok (.string T) w' ∧ (convert 28 9 v6).run Try.prog w' = .ok (.string T) w' ∧
          w'.cell? ⟨W.heap.size, 0, none⟩ = some (.int .i64 k) ∧ w'.cell? ⟨W.heap.size, 1, none⟩ = some (.int .u64 n) ∧ w'.cell? ⟨W.heap.size, 2, none⟩ = some (.string s) ∧ w'.cell? ⟨W.heap.size, 3, none⟩ = some (.slice a m cap) ∧
          w'.cell? ⟨W.heap.size + 1, 0, none⟩ = some (.int .i64 k') ∧ w'.cell? ⟨W.heap.size + 1, 1, none⟩ = some (.int .u64 n') ∧ w'.cell? ⟨W.heap.size + 1, 2, none⟩ = some (.string s') ∧ w'.cell? ⟨W.heap.size + 1, 3, none⟩ = some (.slice a' m' cap')) := by
        intro w' hb
        have hx := HX6.out.below hb
        have hy := HY6.out.below hb
        exact ⟨(hT w' hb).1, (hT w' hb).2, hx.c0, hx.c1, hx.c2, hx.c3, hy.c0, hy.c1, hy.c2, hy.c3⟩
      clear hT
      obtain ⟨a5, n5, cap5, rfl⟩ : ∃ a5 n5 cap5, v5 = .slice a5 n5 cap5 := by
        have p5 := HQ5.out
        cases r with
        | inl y => exact ⟨none, 0, 0, p5.1⟩
        | inr m => obtain ⟨a, c, e⟩ := ownsRow_slice p5.1.2; exact ⟨a, _, c, e⟩
      obtain ⟨a6, n6, cap6, rfl⟩ : ∃ a6 n6 cap6, v6 = .slice a6 n6 cap6 := by
        have p6 := HQ6.out
        cases r with
        | inl y => exact ⟨none, 0, 0, p6.1⟩
        | inr m => obtain ⟨a, c, e⟩ := ownsRow_slice p6.1.2; exact ⟨a, _, c, e⟩
      have HOWN : Hid (∀ w', Below w6.heap.size w6 w' → Calls Try.prog 11 #[.agg #[.int .i64 k, .int .u64 n, .string s, .slice a m cap]] w' fun e w'' => ∃ v', e = .returned v' ∧ CS w'' (fun k => w'.heap.size ≤ k) t v' ∧ Below w'.heap.size w' w'') := fun w' hb => own_cell (t.dep + 1) t _ w' (Nat.lt_succ_self _) (by have := HOK.out; omega) (HT.out.kept (Below.then HB6.out hb) (Nat.le_refl _))
      have HOWN' : Hid (∀ w', Below w6.heap.size w6 w' → Calls Try.prog 11 #[.agg #[.int .i64 k', .int .u64 n', .string s', .slice a' m' cap']] w' fun e w'' => ∃ v', e = .returned v' ∧ CS w'' (fun k => w'.heap.size ≤ k) t' v' ∧ Below w'.heap.size w' w'') := fun w' hb => own_cell (t'.dep + 1) t' _ w' (Nat.lt_succ_self _) (by have := HOK'.out; omega) (HT'.out.kept (Below.then HB6.out hb) (Nat.le_refl _))
      have HCS : Hid (∀ w' v v', CR w' t v → CR w' t' v' → Calls Try.prog 13 #[v, v'] w' fun e w'' => e = .returned (.bool (sameT t t')) ∧ Below w'.heap.size w' w'') := fun w' v v' h1 h2 => csame_any (t.dep + 1) t t' v v' w' (Nat.lt_succ_self _) h1 h2
      have HRS : Hid (∀ w', Below w6.heap.size w6 w' → Calls Try.prog 14 #[.agg #[.int .i64 k, .int .u64 n, .string s, .slice a m cap], .agg #[.int .i64 k', .int .u64 n', .string s', .slice a' m' cap']] w' fun e w'' => e = .returned (.bool (sameT t t')) ∧ Below w'.heap.size w' w'') := fun w' hb => same_any (t.dep + 1) t t' _ _ w' (Nat.lt_succ_self _) (HT.out.kept (Below.then HB6.out hb) (Nat.le_refl _)) (HT'.out.kept (Below.then HB6.out hb) (Nat.le_refl _))
      generalize sameT t t' = z at *
      go_wp2_with fail
      go_region_held3 (fun w' => (convert 28 9 (.slice a5 n5 cap5)).run Try.prog w' = .ok (.string T) w' ∧ (convert 28 9 (.slice a6 n6 cap6)).run Try.prog w' = .ok (.string T) w' ∧
          w'.cell? ⟨W.heap.size, 0, none⟩ = some (.int .i64 k) ∧ w'.cell? ⟨W.heap.size, 1, none⟩ = some (.int .u64 n) ∧ w'.cell? ⟨W.heap.size, 2, none⟩ = some (.string s) ∧ w'.cell? ⟨W.heap.size, 3, none⟩ = some (.slice a m cap) ∧
          w'.cell? ⟨W.heap.size + 1, 0, none⟩ = some (.int .i64 k') ∧ w'.cell? ⟨W.heap.size + 1, 1, none⟩ = some (.int .u64 n') ∧ w'.cell? ⟨W.heap.size + 1, 2, none⟩ = some (.string s') ∧ w'.cell? ⟨W.heap.size + 1, 3, none⟩ = some (.slice a' m' cap'))
        (first | exact HK.out _ hb10 | exact HK.out _ hb9 | exact HK.out _ hb8 | exact HK.out _ hb7 | exact HK.out _ ((Below.refl _ w6).drew))
        (first
          | (go_at_call 14; refine (HRS.out _ hb9).mono ?_; rintro e w10 ⟨rfl, hb10⟩; replace hb10 : Below w6.heap.size w6 w10 := Below.then hb9 hb10)
          | (go_at_call 13; refine (HCS.out _ _ _ q7 q8.cr).mono ?_; rintro e w9 ⟨rfl, hb9⟩; replace hb9 : Below w6.heap.size w6 w9 := Below.then hb8 hb9)
          | (go_at_call 11; refine (HOWN'.out _ hb7).mono ?_; rintro e w8 ⟨v8, rfl, q8, hb8⟩; obtain ⟨k8, n8, s8, a8, m8, cap8, rfl⟩ := q8.form; unfold cellV; replace q7 := q7.cr.kept hb8 (Nat.le_refl _); replace hb8 : Below w6.heap.size w6 w8 := Below.then hb7 hb8)
          | (go_at_call 11; refine (HOWN.out _ ((Below.refl _ w6).drew)).mono ?_; rintro e w7 ⟨v7, rfl, q7, hb7⟩; obtain ⟨k7, n7, s7, a7, m7, cap7, rfl⟩ := q7.form; unfold cellV; replace hb7 : Below w6.heap.size w6 w7 := Below.undrew hb7))
      have HB10 : Hid (Below W.heap.size W w10) := Below.then HB6.out hb10
      have HW10 : Hid (Below w5.heap.size w5 w10) := Below.then HW6.out hb10
      have HX10 : Hid _ := HX6.out.below hb10
      clear q7 q8 hb7 hb8 hb9 hb10 HK HOWN HOWN' HCS HRS
      cases r with
      | inl y =>
        obtain ⟨e5, rfl⟩ := HQ5.out
        simp only [Value.slice.injEq] at e5
        obtain ⟨rfl, rfl, rfl⟩ := e5
        have hy := enc_err t _ _ y HR.out
        have hl := lives_any w10
        rcases hy with rfl | rfl
        · go_wp2_with fail
          refine hl.mono ?_
          rintro e w11 ⟨rfl, hb11⟩
          have HQ : Hid (Below W.heap.size W w11) := Below.then HB10.out hb11
          clear hl hb11
          go_wp2
          go_ret
          exact ⟨rfl, HQ.out⟩
        · go_wp2_with fail
          refine hl.mono ?_
          rintro e w11 ⟨rfl, hb11⟩
          have HQ : Hid (Below W.heap.size W w11) := Below.then HB10.out hb11
          clear hl hb11
          go_wp2
          go_ret
          exact ⟨rfl, HQ.out⟩
      | inr lb =>
        obtain ⟨o5, rfl⟩ := HQ5.out
        have hn5 : n5 = lb.length := by
          obtain ⟨_, _, e⟩ := ownsRow_slice o5.2
          simp only [Value.slice.injEq] at e
          exact e.2.1
        subst hn5
        have o10 : OW w10 w4.heap.size (.slice a5 lb.length cap5) lb := o5.below HW10.out (Nat.le_refl _)
        have hdec := decode_any w4.heap.size _ lb w10 o10 _ (law_back HR.out HT.out.nt).symm
        clear o5 o10
        go_wp2_with fail
        refine hdec.mono ?_
        rintro e w11 ⟨v11, x11, rfl, hb11, q11, rfl⟩
        have HB11 : Hid (Below W.heap.size W w11) := Below.then HB10.out hb11
        have HX11 : Hid _ := HX10.out.below hb11
        obtain ⟨k11, n11, s11, a11, m11, cap11, rfl⟩ := q11.form
        obtain ⟨w12, hw12⟩ : ∃ w12, w12 = w11.alloc (.cells #[.int .i64 k11, .int .u64 n11, .string s11, .slice a11 m11 cap11] 25) := ⟨_, rfl⟩
        have hb12 : Below w11.heap.size w11 w12 := by rw [hw12]; exact (Below.refl _ _).alloc (Nat.le_refl _) _
        have hsm : ∀ w', Below w11.heap.size w11 w' → Calls Try.prog 14 #[.agg #[.int .i64 k11, .int .u64 n11, .string s11, .slice a11 m11 cap11], .agg #[.int .i64 k, .int .u64 n, .string s, .slice a m cap]] w' fun e w'' => e = .returned (.bool true) ∧ Below w'.heap.size w' w'' := fun w' hb => by
          have := same_any ((cpT t).dep + 1) (cpT t) t _ _ w' (Nat.lt_succ_self _) (q11.cr.kept hb (Nat.le_refl _)) (HT.out.kept (Below.then HB11.out hb) (Nat.le_refl _))
          rw [same_cp] at this
          exact this
        have hcall := hsm w12 hb12
        have HB12 : Hid (Below W.heap.size W w12) := Below.then HB11.out hb12
        have x12 := HX11.out.below hb12
        obtain ⟨_, c0, c1, c2, c3⟩ := x12
        have y12 : Bxc w12 w11.heap.size k11 n11 s11 (.slice a11 m11 cap11) := by rw [hw12]; exact Bxc.new w11 k11 n11 s11 _ _
        obtain ⟨_, d0, d1, d2, d3⟩ := y12
        unfold cellV
        clear hdec hb11 q11 hsm hb12
        rw [hw12] at c0 c1 c2 c3 d0 d1 d2 d3
        go_wp2_with fail
        rw [← hw12]
        refine hcall.mono ?_
        rintro e w13 ⟨rfl, hb13⟩
        have HB13 : Hid (Below W.heap.size W w13) := Below.then HB12.out hb13
        clear hcall hb13 c0 c1 c2 c3 d0 d1 d2 d3
        have hl := lives_any w13
        go_wp2_with fail
        refine hl.mono ?_
        rintro e w14 ⟨rfl, hb14⟩
        have HQ : Hid (Below W.heap.size W w14) := Below.then HB13.out hb14
        clear hl hb14
        go_wp2
        go_ret
        exact ⟨rfl, HQ.out⟩

end Go.Proofs.Ytbkjghhghefejaa
