/-
  The statement CodeBegins, walked.
-/
import Derived.Test.YtbkjghhghefejaaCdMath2
import Derived.Deep.QuietTactic
import Derived.BigQuiet
namespace Go.Proofs.Ytbkjghhghefejaa
open Go.RowKit Crc

/-- A cell in a box. -/
structure Bxc (w : World) (q : Nat) (k : Int) (n : Nat) (s : ByteArray) (u : Value) : Prop where
  lt : q < w.heap.size
  c0 : w.cell? ⟨q, 0, none⟩ = some (.int .i64 k)
  c1 : w.cell? ⟨q, 1, none⟩ = some (.int .u64 n)
  c2 : w.cell? ⟨q, 2, none⟩ = some (.string s)
  c3 : w.cell? ⟨q, 3, none⟩ = some u
theorem Bxc.below {w w' : World} {q : Nat} {k : Int} {n : Nat} {s : ByteArray} {u : Value} (h : Bxc w q k n s u) (hb : Below w.heap.size w w') : Bxc w' q k n s u :=
  ⟨by have := h.lt; have := hb.size; omega, cell_kept hb (Nat.le_refl _) h.c0, cell_kept hb (Nat.le_refl _) h.c1, cell_kept hb (Nat.le_refl _) h.c2, cell_kept hb (Nat.le_refl _) h.c3⟩
theorem Bxc.new (w : World) (k : Int) (n : Nat) (s : ByteArray) (u : Value) (t : TypeId) : Bxc (w.alloc (.cells #[.int .i64 k, .int .u64 n, .string s, u] t)) w.heap.size k n s u :=
  ⟨by simp, by rw [World.cell?_alloc_new]; rfl, by rw [World.cell?_alloc_new]; rfl, by rw [World.cell?_alloc_new]; rfl, by rw [World.cell?_alloc_new]; rfl⟩

set_option maxHeartbeats 4000000 in
theorem codeBegins_any (t t' : Tr) (v v' : Value) (W : World) (h : CR W t v) (h' : CR W t' v') :
    Calls Try.prog 5 #[v, v'] W fun e w' => e = .returned (.bool true) ∧ Below W.heap.size W w' := by
  obtain ⟨k, n, s, a, m, cap, rfl⟩ := h.cs.form
  obtain ⟨k', n', s', a', m', cap', rfl⟩ := h'.cs.form
  obtain ⟨w1, hw1⟩ : ∃ w1, w1 = (W.alloc (.cells #[.int .i64 k, .int .u64 n, .string s, .slice a m cap] 25)).alloc (.cells #[.int .i64 k', .int .u64 n', .string s', .slice a' m' cap'] 25) := ⟨_, rfl⟩
  have hB1 : Below W.heap.size W w1 := by rw [hw1]; exact ((Below.refl _ _).alloc (Nat.le_refl _) _).alloc (by simp) _
  have x1 : Bxc w1 W.heap.size k n s (.slice a m cap) := by rw [hw1]; exact (Bxc.new W k n s _ _).below ((Below.refl _ _).alloc (Nat.le_refl _) _)
  have y1 : Bxc w1 (W.heap.size + 1) k' n' s' (.slice a' m' cap') := by
    have := Bxc.new (W.alloc (.cells #[.int .i64 k, .int .u64 n, .string s, .slice a m cap] 25)) k' n' s' (.slice a' m' cap') 25
    rw [← hw1, show (W.alloc (.cells #[.int .i64 k, .int .u64 n, .string s, .slice a m cap] 25)).heap.size = W.heap.size + 1 by simp] at this
    exact this
  have HT : Hid (CR W t (cellV k n s (.slice a m cap))) := h
  have HT' : Hid (CR W t' (cellV k' n' s' (.slice a' m' cap'))) := h'
  have HX1 : Hid _ := x1
  have HY1 : Hid _ := y1
  have HB1 : Hid _ := hB1
  have hsm := lawSmall_any t _ w1 (h.kept hB1 (Nat.le_refl _))
  obtain ⟨_, c0, c1, c2, c3⟩ := x1
  unfold cellV at hsm ⊢
  clear h h' y1 hB1
  go_enter Try.func5, Try.ntmps5
  go_wp2_with fail
  rw [← hw1]
  clear hw1
  refine hsm.mono ?_
  rintro e w2 ⟨ok, rfl, hok, hb2⟩
  have HB2 : Hid (Below W.heap.size W w2) := Below.then HB1.out hb2
  have HX2 : Hid _ := HX1.out.below hb2
  have HY2 : Hid _ := HY1.out.below hb2
  clear hsm c0 c1 c2 c3 hb2
  cases ok with
  | false =>
    clear hok
    have hl := lives_any w2
    go_wp2_with fail
    refine hl.mono ?_
    rintro e w3 ⟨rfl, hb3⟩
    have HQ : Hid (Below W.heap.size W w3) := Below.then HB2.out hb3
    clear hl hb3
    go_wp2
    go_ret
    exact ⟨rfl, HQ.out⟩
  | true =>
    have HOK : Hid (t.cnt ≤ 3000 ∧ t.dep ≤ 100) := hok rfl
    have hsm := lawSmall_any t' _ w2 (HT'.out.kept HB2.out (Nat.le_refl _))
    obtain ⟨_, c0, c1, c2, c3⟩ := HY2.out
    unfold cellV at hsm
    clear hok
    go_wp2_with fail
    refine hsm.mono ?_
    rintro e w3 ⟨ok, rfl, hok, hb3⟩
    have HB3 : Hid (Below W.heap.size W w3) := Below.then HB2.out hb3
    have HX3 : Hid _ := HX2.out.below hb3
    have HY3 : Hid _ := HY2.out.below hb3
    clear hsm c0 c1 c2 c3 hb3
    cases ok with
    | false =>
      clear hok
      have hl := lives_any w3
      go_wp2_with fail
      refine hl.mono ?_
      rintro e w4 ⟨rfl, hb4⟩
      have HQ : Hid (Below W.heap.size W w4) := Below.then HB3.out hb4
      clear hl hb4
      go_wp2
      go_ret
      exact ⟨rfl, HQ.out⟩
    | true =>
      have HOK' : Hid (t'.cnt ≤ 3000 ∧ t'.dep ≤ 100) := hok rfl
      clear hok
      -- the first cell
      have how := own_cell (t.dep + 1) t _ w3 (Nat.lt_succ_self _) (by have := HOK.out; omega) (HT.out.kept HB3.out (Nat.le_refl _))
      obtain ⟨_, c0, c1, c2, c3⟩ := HX3.out
      unfold cellV at how
      go_wp2_with fail
      refine how.mono ?_
      rintro e w4 ⟨v4, rfl, q4, hb4⟩
      have henc := encode_any t v4 w4 q4.cr _ rfl
      obtain ⟨k4, n4, s4, a4, m4, cap4, rfl⟩ := q4.form
      have HB4 : Hid (Below W.heap.size W w4) := Below.then HB3.out hb4
      have HX4 : Hid _ := HX3.out.below hb4
      have HY4 : Hid _ := HY3.out.below hb4
      generalize hr : encT t 64 [] = r at henc
      have HR : Hid (encT t 64 [] = r) := hr
      unfold cellV at henc ⊢
      clear how c0 c1 c2 c3 hb4 q4 hr
      go_wp2_with fail
      refine henc.mono ?_
      rintro e w5 ⟨v5, x5, rfl, hb5, q5⟩
      have HB5 : Hid (Below W.heap.size W w5) := Below.then HB4.out hb5
      have HX5 : Hid _ := HX4.out.below hb5
      have HY5 : Hid _ := HY4.out.below hb5
      have HQ5 : Hid (EncV r w4.heap.size w5 v5 x5) := q5
      clear henc hb5 q5
      -- the second one
      have how := own_cell (t'.dep + 1) t' _ w5 (Nat.lt_succ_self _) (by have := HOK'.out; omega) (HT'.out.kept HB5.out (Nat.le_refl _))
      obtain ⟨_, c0, c1, c2, c3⟩ := HY5.out
      unfold cellV at how
      go_wp2_with fail
      refine how.mono ?_
      rintro e w6 ⟨v6, rfl, q6, hb6⟩
      have henc := encode_any t' v6 w6 q6.cr _ rfl
      obtain ⟨k6, n6, s6, a6, m6, cap6, rfl⟩ := q6.form
      have HB6 : Hid (Below W.heap.size W w6) := Below.then HB5.out hb6
      have HX6 : Hid _ := HX5.out.below hb6
      have HY6 : Hid _ := HY5.out.below hb6
      have HW6 : Hid (Below w5.heap.size w5 w6) := hb6
      generalize hr : encT t' 64 [] = r' at henc
      have HR' : Hid (encT t' 64 [] = r') := hr
      unfold cellV at henc ⊢
      clear how c0 c1 c2 c3 hb6 q6 hr
      go_wp2_with fail
      refine henc.mono ?_
      rintro e w7 ⟨v7, x7, rfl, hb7, q7⟩
      have HB7 : Hid (Below W.heap.size W w7) := Below.then HB6.out hb7
      have HX7 : Hid _ := HX6.out.below hb7
      have HY7 : Hid _ := HY6.out.below hb7
      have HW7 : Hid (Below w5.heap.size w5 w7) := Below.then HW6.out hb7
      have HQ7 : Hid (EncV r' w6.heap.size w7 v7 x7) := q7
      clear henc hb7 q7
      cases r with
      | inl y =>
        obtain ⟨rfl, rfl⟩ := HQ5.out
        have hy : ¬ (y : Int) = 0 := by have := enc_err t _ _ y HR.out; omega
        have hl := lives_any w7
        go_wp2_with fail
        refine hl.mono ?_
        rintro e w8 ⟨rfl, hb8⟩
        have HQ : Hid (Below W.heap.size W w8) := Below.then HB7.out hb8
        clear hl hb8
        go_wp2
        go_ret
        exact ⟨rfl, HQ.out⟩
      | inr la =>
        obtain ⟨o5, rfl⟩ := HQ5.out
        cases r' with
        | inl y =>
          obtain ⟨rfl, rfl⟩ := HQ7.out
          have hy : ¬ (y : Int) = 0 := by have := enc_err t' _ _ y HR'.out; omega
          clear o5
          have hl := lives_any w7
          go_wp2_with fail
          refine hl.mono ?_
          rintro e w8 ⟨rfl, hb8⟩
          have HQ : Hid (Below W.heap.size W w8) := Below.then HB7.out hb8
          clear hl hb8
          go_wp2
          go_ret
          exact ⟨rfl, HQ.out⟩
        | inr lb =>
          obtain ⟨o7, rfl⟩ := HQ7.out
          have hla := enc_top HR.out
          have hlb := enc_top HR'.out
          obtain ⟨a5, cap5, rfl⟩ := ownsRow_slice o5.2
          obtain ⟨a7, cap7, rfl⟩ := ownsRow_slice o7.2
          have b5 : BR w7 (.slice a5 la.length cap5) la := o5.br.below HW7.out (Nat.le_refl _)
          have b7 : BR w7 (.slice a7 lb.length cap7) lb := o7.br
          have hcap7 : lb.length ≤ cap7 ∧ cap7 ≤ 9223372036854775807 := by
            obtain ⟨_, _, _, e, h1, h2, _⟩ := b7
            simp only [Value.slice.injEq] at e
            obtain ⟨_, _, rfl⟩ := e
            unfold maxLen at h2
            omega
          have HS : Hid (Sm8 la ∧ Sm8 lb) := ⟨o5.1, o7.1⟩
          have HLE : Hid (la.length ≤ lb.length → decide (lb.take la.length = la) = sameT t t') := fun _ => law_begins HR.out HR'.out HT.out.nt HT'.out.nt
          have hlm : la.length ≤ 1048576 ∧ lb.length ≤ 1048576 := ⟨hla.2.1, hlb.2.1⟩
          by_cases c : la.length > lb.length
          · have ci : (la.length : Int) > (lb.length : Int) := by omega
            clear o5 o7 b5 b7 hla hlb hcap7
            have hl := lives_any w7
            go_wp2_with fail
            refine hl.mono ?_
            rintro e w8 ⟨rfl, hb8⟩
            have HQ : Hid (Below W.heap.size W w8) := Below.then HB7.out hb8
            clear hl hb8
            go_wp2
            go_ret
            exact ⟨rfl, HQ.out⟩
          · have ci : ¬ (la.length : Int) > (lb.length : Int) := by omega
            have HZ : Hid (((bsN (lb.take la.length)).toList == (bsN la).toList) = sameT t t') := by
              show _ = _
              rw [bsN_eq (HS.out.2.take _) HS.out.1]
              exact HLE.out (by omega)
            have q5 : ∀ p : BelowOf w7, (convert 28 9 (.slice a5 la.length cap5)).run Try.prog p.u = .ok (.string (bsN la)) p.u := fun p => conv_any (b5.below p.h (Nat.le_refl _))
            have q7 : ∀ p : BelowOf w7, (convert 28 9 (.slice a7 la.length cap7)).run Try.prog p.u = .ok (.string (bsN (lb.take la.length))) p.u := fun p => conv_any ((b7.head (by omega)).below p.h (Nat.le_refl _))
            have p0 : ∀ p : BelowOf w7, p.u.cell? ⟨W.heap.size, 0, none⟩ = some (.int .i64 k) := fun p => (HX7.out.below p.h).c0
            have p1 : ∀ p : BelowOf w7, p.u.cell? ⟨W.heap.size, 1, none⟩ = some (.int .u64 n) := fun p => (HX7.out.below p.h).c1
            have p2 : ∀ p : BelowOf w7, p.u.cell? ⟨W.heap.size, 2, none⟩ = some (.string s) := fun p => (HX7.out.below p.h).c2
            have p3 : ∀ p : BelowOf w7, p.u.cell? ⟨W.heap.size, 3, none⟩ = some (.slice a m cap) := fun p => (HX7.out.below p.h).c3
            have r0 : ∀ p : BelowOf w7, p.u.cell? ⟨W.heap.size + 1, 0, none⟩ = some (.int .i64 k') := fun p => (HY7.out.below p.h).c0
            have r1 : ∀ p : BelowOf w7, p.u.cell? ⟨W.heap.size + 1, 1, none⟩ = some (.int .u64 n') := fun p => (HY7.out.below p.h).c1
            have r2 : ∀ p : BelowOf w7, p.u.cell? ⟨W.heap.size + 1, 2, none⟩ = some (.string s') := fun p => (HY7.out.below p.h).c2
            have r3 : ∀ p : BelowOf w7, p.u.cell? ⟨W.heap.size + 1, 3, none⟩ = some (.slice a' m' cap') := fun p => (HY7.out.below p.h).c3
            have HSM : Hid (∀ p : BelowOf w7, Calls Try.prog 14 #[.agg #[.int .i64 k, .int .u64 n, .string s, .slice a m cap], .agg #[.int .i64 k', .int .u64 n', .string s', .slice a' m' cap']] p.u fun e w' => e = .returned (.bool (sameT t t')) ∧ Below p.u.heap.size p.u w') := fun p => same_any (t.dep + 1) t t' _ _ p.u (Nat.lt_succ_self _) (HT.out.kept (Below.then HB7.out p.h) (Nat.le_refl _)) (HT'.out.kept (Below.then HB7.out p.h) (Nat.le_refl _))
            have HLV : Hid (∀ p : BelowOf w7, Calls Try.prog 9 #[] p.u fun e w' => e = .returned (.bool true) ∧ Below p.u.heap.size p.u w') := fun p => lives_any p.u
            have hInh : Inhabited (BelowOf w7) := ⟨⟨w7, Below.refl _ _⟩⟩
            have hcp : (la.length : Int) ≤ (cap7 : Int) := by omega
            generalize bsN (lb.take la.length) = T1 at *
            generalize bsN la = T2 at *
            generalize hz : (T1.toList == T2.toList) = z at *
            have HZ2 : Hid (z = sameT t t') := HZ.out
            generalize sameT t t' = z2 at *
            clear o5 o7 b5 b7 hla hlb HZ HLE
            go_wp2_with fail
            refine wp_region_below (by kernel_rfl) (by kernel_rfl) ?_
            repeat (quiet_step (fail))
            quiet_step ((go_at_call 14; exact below_of (HSM.out _)))
            have e : (z == z2) = true := by rw [HZ2.out]; simp
            repeat (quiet_step (fail))
            quiet_step ((go_at_call 9; exact below_of (HLV.out _)))
            repeat (quiet_step (fail))
            refine wpQuiet_nil ?_
            intro wq hw'
            obtain ⟨⟨w9, hwq⟩, hw''⟩ := hw'
            subst hw''
            have HQ : Hid (Below W.heap.size W wq) := Below.then HB7.out hwq
            clear hwq p0 p1 p2 p3 r0 r1 r2 r3 q5 q7
            go_wp2
            go_ret
            exact ⟨rfl, HQ.out⟩

end Go.Proofs.Ytbkjghhghefejaa
