/-
  Layer 7: the landed Same, walked.
-/
import Derived.Test.YtbkjghhghefejaaCdList
namespace Go.Proofs.Ytbkjghhghefejaa
open Go.RowKit Crc

set_option maxHeartbeats 4000000 in
theorem eqf_of (D : Nat) (HC : ∀ (t t' : Tr) (v v' : Value) (w : World), t.dep < D → CR w t v → CR w t' v' → Calls Try.prog 13 #[v, v'] w fun e w' => e = .returned (.bool (sameT t t')) ∧ Below w.heap.size w w')
    (ts ts' : List Tr) (a a' : Option Addr) (cap cap' : Nat) (k0 k0' : Int) (n0 n0' : Nat) (s0 s0' : ByteArray) (w : World) (hD : deps ts ≤ D) (h : CR w (.mk k0 n0 s0 ts) (cellV k0 n0 s0 (.slice a ts.length cap))) (h' : CR w (.mk k0' n0' s0' ts') (cellV k0' n0' s0' (.slice a' ts'.length cap'))) :
    Calls Try.prog 27 #[.slice a ts.length cap, .slice a' ts'.length cap', .func (.func 13) #[] #[]] w fun e w' => e = .returned (.bool (sameL ts ts')) ∧ Below w.heap.size w w' := by
  generalize hv : cellV k0 n0 s0 (.slice a ts.length cap) = v0 at h
  cases h using CR.elim with
  | mk k n s _ a1 cap1 ks ns ss us hk hn hs hl hc h0 hx hr =>
  unfold cellV at hv
  simp only [Value.agg.injEq, Array.mk.injEq, List.cons.injEq, Value.slice.injEq, and_true, true_and] at hv
  obtain ⟨rfl, rfl⟩ := hv
  generalize hv : cellV k0' n0' s0' (.slice a' ts'.length cap') = v0' at h'
  cases h' using CR.elim with
  | mk k' n' s' _ a2 cap2 ks' ns' ss' us' hk' hn' hs' hl' hc' h0' hx' hr' =>
  unfold cellV at hv
  simp only [Value.agg.injEq, Array.mk.injEq, List.cons.injEq, Value.slice.injEq, and_true, true_and] at hv
  obtain ⟨rfl, rfl⟩ := hv
  by_cases c4 : ts.length = ts'.length
  · have HR : Hid (∀ i (h : i < ts.length), CR w ts[i] (cellV (ks i) (ns i) (ss i) (us i))) := hr
    have HX : Hid (∀ x i, a = some x → i < ts.length → x.spot = none ∧ Lies w x.block x.off i (ks i) (ns i) (ss i) (us i)) := hx
    have H0 : Hid (a = none → ts = []) := h0
    have HR' : Hid (∀ i (h : i < ts'.length), CR w ts'[i] (cellV (ks' i) (ns' i) (ss' i) (us' i))) := hr'
    have HX' : Hid (∀ x i, a' = some x → i < ts'.length → x.spot = none ∧ Lies w x.block x.off i (ks' i) (ns' i) (ss' i) (us' i)) := hx'
    have H0' : Hid (a' = none → ts' = []) := h0'
    have HCC : Hid _ := HC
    have HD : Hid (deps ts ≤ D) := hD
    obtain ⟨N, hN⟩ : ∃ N, N = ts.length := ⟨_, rfl⟩
    have HN : Hid (N = ts.length ∧ N = ts'.length) := ⟨hN, by omega⟩
    rw [← c4, ← hN]
    rw [← c4, ← hN] at hl'
    rw [← hN] at hl
    clear hr hx h0 hr' hx' h0' HC hD hN c4
    go_enter Try.func27, Try.ntmps27
    go_wp2_with fail
    go_loopw [17] (fun t17 wr => ∃ i : Nat, i ≤ N ∧ t17 = .int .i64 i ∧ Hid (∀ j (h1 : j < ts.length) (h2 : j < ts'.length), j < i → sameT ts[j] ts'[j] = true) ∧ Hid (Below w.heap.size w wr)) (fun t17 _ => N - (intOf t17).toNat)
    case atStart => exact ⟨0, Nat.zero_le _, rfl, fun j _ _ h => absurd h (Nat.not_lt_zero _), Below.refl _ _⟩
    case round =>
      obtain ⟨i, hi, rfl, HJ, HW⟩ := hrel
      by_cases c : i < N
      · have i1 : i < ts.length := by have := HN.out; omega
        have i2 : i < ts'.length := by have := HN.out; omega
        obtain ⟨x, hx⟩ : ∃ x, a = some x := by
          cases a with
          | some x => exact ⟨x, rfl⟩
          | none => rw [H0.out rfl] at i1; exact absurd i1 (by simp)
        subst hx
        obtain ⟨x', hx'⟩ : ∃ x, a' = some x := by
          cases a' with
          | some x => exact ⟨x, rfl⟩
          | none => rw [H0'.out rfl] at i2; exact absurd i2 (by simp)
        subst hx'
        obtain ⟨hsp, hli⟩ := HX.out x i rfl i1
        obtain ⟨g, o, sp⟩ := x
        simp only at hsp
        subst hsp
        obtain ⟨hsp, hli'⟩ := HX'.out x' i rfl i2
        obtain ⟨g', o', sp⟩ := x'
        simp only at hsp
        subst hsp
        obtain ⟨ai, mi, ci, hus⟩ : ∃ ai mi ci, us i = .slice ai mi ci := by
          obtain ⟨_, _, _, ai, mi, ci, e⟩ := (HR.out i i1).cs.form
          unfold cellV at e
          simp at e
          exact ⟨ai, mi, ci, e.2.2.2⟩
        obtain ⟨ai', mi', ci', hus'⟩ : ∃ ai mi ci, us' i = .slice ai mi ci := by
          obtain ⟨_, _, _, ai, mi, ci, e⟩ := (HR'.out i i2).cs.form
          unfold cellV at e
          simp at e
          exact ⟨ai, mi, ci, e.2.2.2⟩
        obtain ⟨l0, l1, l2, l3⟩ := hli.below HW.out (Nat.le_refl _)
        have hsz := HW.out.size
        rw [hus] at l3
        have hba : Below wr.heap.size wr (wr.alloc (.cells #[.int .i64 (ks i), .int .u64 (ns i), .string (ss i), .slice ai mi ci] 25)) := (Below.refl _ _).alloc (Nat.le_refl _) _
        obtain ⟨m0, m1, m2, m3⟩ := hli'.below (Below.then HW.out hba) (Nat.le_refl _)
        rw [hus'] at m3
        obtain ⟨w2, hw2⟩ : ∃ w2, w2 = (wr.alloc (.cells #[.int .i64 (ks i), .int .u64 (ns i), .string (ss i), .slice ai mi ci] 25)).alloc (.cells #[.int .i64 (ks' i), .int .u64 (ns' i), .string (ss' i), .slice ai' mi' ci'] 25) := ⟨_, rfl⟩
        have hb2 : Below w.heap.size w w2 := by rw [hw2]; exact (Below.then HW.out hba).alloc (by simp; omega) _
        have r1 := HR.out i i1
        have r2 := HR'.out i i2
        rw [hus] at r1
        rw [hus'] at r2
        have hcall := HCC.out ts[i] ts'[i] _ _ w2 (by have := deps_get i i1; have := HD.out; omega) (r1.kept hb2 (Nat.le_refl _)) (r2.kept hb2 (Nat.le_refl _))
        unfold cellV at hcall
        have HF : Hid (sameT ts[i] ts'[i] = false → sameL ts ts' = false) := sameL_at i i1 i2
        have HG : Hid (sameT ts[i] ts'[i] = true → ∀ j (h1 : j < ts.length) (h2 : j < ts'.length), j < i + 1 → sameT ts[j] ts'[j] = true) := by
          intro e j h1 h2 hj
          by_cases e2 : j = i
          · subst e2; exact e
          · exact HJ.out j h1 h2 (by omega)
        generalize sameT ts[i] ts'[i] = z at *
        have HB2 : Hid (Below w.heap.size w w2) := hb2
        clear hli hli' r1 r2 hb2 hba
        go_wp2_with fail
        rw [← hw2]
        refine hcall.mono ?_
        rintro e w5 ⟨rfl, hb5⟩
        have HB5 : Hid (Below w.heap.size w w5) := Below.then HB2.out hb5
        clear hcall hb5 l0 l1 l2 l3 m0 m1 m2 m3 hw2
        cases z with
        | false =>
          have HF2 : Hid (sameL ts ts' = false) := HF.out rfl
          clear HF HG
          go_wp2
          go_ret
          exact ⟨by rw [HF2.out]; rfl, HB5.out⟩
        | true =>
          have HJ2 : Hid (∀ j (h1 : j < ts.length) (h2 : j < ts'.length), j < i + 1 → sameT ts[j] ts'[j] = true) := HG.out rfl
          clear HF HG
          go_wp2
          go_roundw
          case rel => exact ⟨i + 1, by omega, by go_num, HJ2, HB5⟩
          case measure => simp [intOf]; omega
      · have e : i = N := by omega
        have HT : Hid (sameL ts ts' = true) := sameL_all (by have := HN.out; omega) (fun j h1 h2 => HJ.out j h1 h2 (by have := HN.out; omega))
        subst e
        go_wp2
        go_ret
        exact ⟨by rw [HT.out]; rfl, HW.out⟩
  · have HS : Hid (sameL ts ts' = false) := sameL_length c4
    have c5 : ¬ (ts.length : Int) = (ts'.length : Int) := by omega
    clear hr hx h0 hr' hx' h0' HC
    go_enter Try.func27, Try.ntmps27
    go_wp2
    go_ret
    exact ⟨by rw [HS.out]; rfl, Below.refl _ _⟩

set_option maxHeartbeats 4000000 in
theorem csame_any : ∀ (D : Nat) (t t' : Tr) (v v' : Value) (w : World), t.dep < D → CR w t v → CR w t' v' →
    Calls Try.prog 13 #[v, v'] w fun e w' => e = .returned (.bool (sameT t t')) ∧ Below w.heap.size w w' := by
  intro D
  induction D with
  | zero => intro t t' v v' w h; omega
  | succ D ih =>
    intro t t' v v' w hD h h'
    have q := h
    have q' := h'
    cases h using CR.elim with
    | mk k n s ts a cap ks ns ss us hk hn hs hl hc h0 hx hr =>
    cases h' using CR.elim with
    | mk k' n' s' ts' a' cap' ks' ns' ss' us' hk' hn' hs' hl' hc' h0' hx' hr' =>
    have HB : Hid (∀ o o' : Obj, Below w.heap.size w ((w.alloc o).alloc o')) := fun o o' => ((Below.refl _ w).alloc (Nat.le_refl _) o).alloc (by simp) o'
    rw [Tr.dep_mk] at hD
    have HEQ : Hid (∀ o o' : Obj, Calls Try.prog 27 #[.slice a ts.length cap, .slice a' ts'.length cap', .func (.func 13) #[] #[]] ((w.alloc o).alloc o') fun e w' => e = .returned (.bool (sameL ts ts')) ∧ Below ((w.alloc o).alloc o').heap.size ((w.alloc o).alloc o') w') := fun o o' =>
      eqf_of D ih ts ts' a a' cap cap' k k' n n' s s' _ (by omega) (q.kept (HB.out o o') (Nat.le_refl _)) (q'.kept (HB.out o o') (Nat.le_refl _))
    unfold cellV
    clear q q' hx hr hx' hr' h0 h0' ih hD
    by_cases c0 : k = k'
    · subst c0
      by_cases c1 : k = 0
      · have HS : Hid (sameT (.mk k n s ts) (.mk k n' s' ts') = ((n : Int) == (n' : Int))) := by
          show _ = _
          by_cases e : n = n'
          · simp [sameT_mk, c1, e]
          · have : ¬ (n : Int) = (n' : Int) := by omega
            simp [sameT_mk, c1, e, this]
        subst c1
        go_enter Try.func13, Try.ntmps13
        go_wp2
        go_ret
        exact ⟨by rw [HS.out]; rfl, HB.out _ _⟩
      · by_cases c2 : k = 1
        · have HS : Hid (sameT (.mk k n s ts) (.mk k n' s' ts') = (s.toList == s'.toList)) := by
            show _ = _
            simp [sameT_mk, c2]
          subst c2
          go_enter Try.func13, Try.ntmps13
          go_wp2
          go_ret
          exact ⟨by rw [HS.out]; rfl, HB.out _ _⟩
        · by_cases c3 : k = 2
          · have HS : Hid (sameT (.mk k n s ts) (.mk k n' s' ts') = sameL ts ts') := by
              show _ = _
              simp [sameT_mk, c3]
            subst c3
            have hcall := HEQ.out (.cells #[.int .i64 2, .int .u64 n, .string s, .slice a ts.length cap] 25) (.cells #[.int .i64 2, .int .u64 n', .string s', .slice a' ts'.length cap'] 25)
            rw [HS.out]
            generalize sameL ts ts' = z at *
            go_enter Try.func13, Try.ntmps13
            go_wp2_with fail
            refine hcall.mono ?_
            rintro e w5 ⟨rfl, hb5⟩
            have HB5 : Hid (Below w.heap.size w w5) := Below.then (HB.out _ _) hb5
            clear hcall hb5
            go_wp2
            go_ret
            exact ⟨rfl, HB5.out⟩
          · have HS : Hid (sameT (.mk k n s ts) (.mk k n' s' ts') = true) := by
              show _ = _
              simp [sameT_mk, c1, c2, c3]
            go_enter Try.func13, Try.ntmps13
            go_wp2
            go_ret
            exact ⟨by rw [HS.out]; rfl, HB.out _ _⟩
    · have HS : Hid (sameT (.mk k n s ts) (.mk k' n' s' ts') = false) := by show _ = _; simp [sameT_mk, c0]
      go_enter Try.func13, Try.ntmps13
      go_wp2
      go_ret
      exact ⟨by rw [HS.out]; rfl, HB.out _ _⟩

end Go.Proofs.Ytbkjghhghefejaa
