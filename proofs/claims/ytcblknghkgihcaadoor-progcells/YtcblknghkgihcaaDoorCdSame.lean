/-
  Layer 7: which trees are the same; the reference's Same, walked.
-/
import Derived.Test.YtcblknghkgihcaaDoorCdMake
import Derived.Deep.QuietTactic
import Derived.BigQuiet
import Derived.WalkSmall
namespace Go.Proofs.YtcblknghkgihcaaDoor
set_option maxRecDepth 100000
open Go.RowKit Crc

/-- A world in which all that was there is as it was. -/
structure BelowOf (w : World) where
  u : World
  h : Below w.heap.size w u

theorem below_drewN {B : Nat} {a w : World} (h : Below B a w) (n : Nat) : Below B a (w.drewN n) := ⟨h.os, h.tape, h.output, h.size, h.block⟩

theorem wp_region_below {P : Program} {id : Nat} {Q : Exit → Act → World → Prop} {a : Act} {w : World} {l : List Oper} (hm : P.follows .mixedOrders = true) (hB : Region.lexB .any l.toArray = true)
    (h : wpQuiet P l.toArray (fun w' => ∃ p : BelowOf w, w' = p.u) (fun a' => ∀ w', (∃ p : BelowOf w, w' = p.u) → Q .normal a' w') l a) : (Code.region id l.toArray true).wp P Q a w :=
  wp_region_quiet (C := fun w' => ∃ p : BelowOf w, w' = p.u) hm hB ⟨⟨w.drewN 1, below_drewN (Below.refl _ _) 1⟩, rfl⟩ (by simpa using h)

/-- A callee's contract, met in a world of the class. -/
theorem below_of {P : Program} {f : FuncId} {args : Array Value} {w : World} {p : BelowOf w} {v : Value}
    (h : Calls P f args p.u fun e w' => e = .returned v ∧ Below p.u.heap.size p.u w') : Calls P f args p.u fun e w'' => e = .returned v ∧ ∃ p' : BelowOf w, w'' = p'.u :=
  h.mono fun _ w' ⟨he, hb⟩ => ⟨he, ⟨⟨w', p.h.trans (hb.mono p.h.size)⟩, rfl⟩⟩

def all2 : (l : List Tr) → (∀ t, t ∈ l → Tr → Bool) → List Tr → Bool
  | [], _, [] => true
  | t :: l, f, u :: m => f t List.mem_cons_self u && all2 l (fun t h => f t (List.mem_cons_of_mem _ h)) m
  | _ :: _, _, [] => false
  | [], _, _ :: _ => false
def sameT : Tr → Tr → Bool
  | .mk k n s l, .mk k' n' s' l' => if k ≠ k' then false else if k = 0 then decide (n = n') else if k = 1 then s.toList == s'.toList else if k = 2 then all2 l (fun t _ u => sameT t u) l' else true
def sameL (l m : List Tr) : Bool := all2 l (fun t _ u => sameT t u) m
theorem sameT_mk (k : Int) (n : Nat) (s : ByteArray) (l : List Tr) (k' : Int) (n' : Nat) (s' : ByteArray) (l' : List Tr) : sameT (.mk k n s l) (.mk k' n' s' l') = if k ≠ k' then false else if k = 0 then decide (n = n') else if k = 1 then s.toList == s'.toList else if k = 2 then sameL l l' else true := by rw [sameT]; rfl
theorem sameL_nn : sameL [] [] = true := rfl
theorem sameL_nc (u : Tr) (m : List Tr) : sameL [] (u :: m) = false := rfl
theorem sameL_cn (t : Tr) (l : List Tr) : sameL (t :: l) [] = false := rfl
theorem sameL_cc (t u : Tr) (l m : List Tr) : sameL (t :: l) (u :: m) = (sameT t u && sameL l m) := rfl

theorem sameL_length : ∀ {l m : List Tr}, l.length ≠ m.length → sameL l m = false
  | [], [], h => absurd rfl h
  | [], _ :: _, _ => rfl
  | _ :: _, [], _ => rfl
  | a :: l, b :: m, h => by
    rw [sameL_cc]
    rw [sameL_length (l := l) (m := m) (by simpa using h)]
    simp

theorem sameL_at : ∀ {l m : List Tr} (i : Nat) (h1 : i < l.length) (h2 : i < m.length), sameT l[i] m[i] = false → sameL l m = false
  | a :: l, b :: m, 0, _, _, h => by rw [sameL_cc]; simp at h; rw [h]; simp
  | a :: l, b :: m, i + 1, h1, h2, h => by
    rw [sameL_cc]
    rw [sameL_at (l := l) (m := m) i (by simpa using h1) (by simpa using h2) (by simpa using h)]
    simp

theorem sameL_all : ∀ {l m : List Tr}, l.length = m.length → (∀ i (h1 : i < l.length) (h2 : i < m.length), sameT l[i] m[i] = true) → sameL l m = true
  | [], [], _, _ => rfl
  | a :: l, b :: m, e, h => by
    rw [sameL_cc]
    have h0 := h 0 (by simp) (by simp)
    simp at h0
    rw [h0, sameL_all (l := l) (m := m) (by simpa using e) (fun i h1 h2 => by have := h (i + 1) (by simpa using h1) (by simpa using h2); simpa using this)]
    rfl

theorem deps_get : ∀ {l : List Tr} (i : Nat) (h : i < l.length), l[i].dep + 1 ≤ deps l
  | a :: l, 0, _ => by rw [deps_cons]; simp; omega
  | a :: l, i + 1, h => by
    have := deps_get (l := l) i (by simpa using h)
    rw [deps_cons]; simp; omega

set_option maxHeartbeats 2000000 in
theorem same_any : ∀ (D : Nat) (t t' : Tr) (v v' : Value) (w : World), t.dep < D → CR w t v → CR w t' v' →
    Calls Tryd.prog 9 #[v, v'] w fun e w' => e = .returned (.bool (sameT t t')) ∧ Below w.heap.size w w' := by
  intro D
  induction D with
  | zero => intro t t' v v' w h; omega
  | succ D ih =>
    intro t t' v v' w hD h h'
    cases h using CR.elim with
    | mk k n s ts a cap ks ns ss us hk hn hs hl hc h0 hx hr =>
    cases h' using CR.elim with
    | mk k' n' s' ts' a' cap' ks' ns' ss' us' hk' hn' hs' hl' hc' h0' hx' hr' =>
    unfold cellV
    have HB : Hid (∀ o o' : Obj, Below w.heap.size w ((w.alloc o).alloc o')) := fun o o' => ((Below.refl _ w).alloc (Nat.le_refl _) o).alloc (by simp) o'
    by_cases c0 : k = k'
    · subst c0
      by_cases c1 : k = 0
      · have HS : Hid (sameT (.mk k n s ts) (.mk k n' s' ts') = ((n : Int) == (n' : Int))) := by
          show _ = _
          by_cases e : n = n'
          · simp [sameT_mk, c1, e]
          · have : ¬ (n : Int) = (n' : Int) := by omega
            simp [sameT_mk, c1, e, this]
        subst c1
        clear hx hr hx' hr' h0 h0'
        go_enter Tryd.func9, Tryd.ntmps9
        go_wp2
        go_ret
        exact ⟨by rw [HS.out]; rfl, HB.out _ _⟩
      · by_cases c2 : k = 1
        · have HS : Hid (sameT (.mk k n s ts) (.mk k n' s' ts') = (s.toList == s'.toList)) := by
            show _ = _
            simp [sameT_mk, c2]
          subst c2
          clear hx hr hx' hr' h0 h0'
          go_enter Tryd.func9, Tryd.ntmps9
          go_wp2
          go_ret
          refine ⟨?_, HB.out _ _⟩
          rw [HS.out]
          rfl
        · by_cases c3 : k = 2
          · by_cases c4 : ts.length = ts'.length
            · obtain ⟨N, hN⟩ : ∃ N, N = ts.length := ⟨_, rfl⟩
              have HN : Hid (N = ts.length ∧ N = ts'.length) := ⟨hN, by omega⟩
              have HS : Hid (sameT (.mk k n s ts) (.mk k n' s' ts') = sameL ts ts') := by
                show _ = _
                simp [sameT_mk, c3]
              have HD : Hid (deps ts < D + 1) := by rw [Tr.dep_mk] at hD; exact hD
              have HR : Hid (∀ i (h : i < ts.length), CR w ts[i] (cellV (ks i) (ns i) (ss i) (us i))) := hr
              have HX : Hid (∀ x i, a = some x → i < ts.length → x.spot = none ∧ Lies w x.block x.off i (ks i) (ns i) (ss i) (us i)) := hx
              have H0 : Hid (a = none → ts = []) := h0
              have HR' : Hid (∀ i (h : i < ts'.length), CR w ts'[i] (cellV (ks' i) (ns' i) (ss' i) (us' i))) := hr'
              have HX' : Hid (∀ x i, a' = some x → i < ts'.length → x.spot = none ∧ Lies w x.block x.off i (ks' i) (ns' i) (ss' i) (us' i)) := hx'
              have H0' : Hid (a' = none → ts' = []) := h0'
              have HI : Hid _ := ih
              rw [← c4, ← hN]
              rw [← c4, ← hN] at hl'
              rw [← hN] at hl
              subst c3
              clear hr hx h0 hr' hx' h0' ih hD hN c1 c2 c4
              go_enter Tryd.func9, Tryd.ntmps9
              go_wp2_with fail
              go_loopw [5] (fun t5 wr => ∃ (i : Nat), i ≤ N ∧ t5 = .int .i64 i ∧ Hid (∀ j (h1 : j < ts.length) (h2 : j < ts'.length), j < i → sameT ts[j] ts'[j] = true) ∧ Hid (Below (w.heap.size + 2) ((w.alloc (.cells #[.int .i64 2, .int .u64 n, .string s, .slice a N cap] 33)).alloc (.cells #[.int .i64 2, .int .u64 n', .string s', .slice a' N cap'] 33)) wr)) (fun t5 _ => N - (intOf t5).toNat)
              case atStart => exact ⟨0, Nat.zero_le _, rfl, fun j _ _ h => absurd h (Nat.not_lt_zero _), Below.refl _ _⟩
              case round =>
                obtain ⟨i, hi, rfl, HJ, HW⟩ := hrel
                have b0 : wr.cell? ⟨w.heap.size, 3, none⟩ = some (.slice a N cap) := cell_kept HW.out (by simp) (by simp)
                have b1 : wr.cell? ⟨w.heap.size + 1, 3, none⟩ = some (.slice a' N cap') := cell_kept HW.out (by simp) (by simp)
                have HBW : Hid (Below w.heap.size w wr) := (HB.out _ _).trans (HW.out.mono (by omega))
                by_cases c : i < N
                · have i1 : i < ts.length := by have := HN.out; omega
                  have i2 : i < ts'.length := by have := HN.out; omega
                  obtain ⟨x, hx⟩ : ∃ x, a = some x := by
                    cases a with
                    | some x => exact ⟨x, rfl⟩
                    | none => rw [H0.out rfl] at i1; exact absurd i1 (by simp)
                  subst hx
                  obtain ⟨x', hx'⟩ : ∃ x, a' = some x := by
                    cases a' with
                    | some x => exact ⟨x, rfl⟩
                    | none => rw [H0'.out rfl] at i2; exact absurd i2 (by simp)
                  subst hx'
                  obtain ⟨hsp, hli⟩ := HX.out x i rfl i1
                  obtain ⟨g, o, sp⟩ := x
                  simp only at hsp
                  subst hsp
                  obtain ⟨hsp, hli'⟩ := HX'.out x' i rfl i2
                  obtain ⟨g', o', sp⟩ := x'
                  simp only at hsp
                  subst hsp
                  have HPB : ∀ p : BelowOf wr, Below w.heap.size w p.u := fun p => Below.then HBW.out p.h
                  have p0 : ∀ p : BelowOf wr, p.u.cell? ⟨w.heap.size, 3, none⟩ = some (.slice (some ⟨g, o, none⟩) N cap) := fun p => cell_kept p.h (Nat.le_refl _) b0
                  have p1 : ∀ p : BelowOf wr, p.u.cell? ⟨w.heap.size + 1, 3, none⟩ = some (.slice (some ⟨g', o', none⟩) N cap') := fun p => cell_kept p.h (Nat.le_refl _) b1
                  have q0 : ∀ p : BelowOf wr, p.u.cell? ⟨g, o + i * 4, none⟩ = some (.int .i64 (ks i)) := fun p => cell_kept (HPB p) (Nat.le_refl _) hli.c0
                  have q1 : ∀ p : BelowOf wr, p.u.cell? ⟨g, o + i * 4 + 1, none⟩ = some (.int .u64 (ns i)) := fun p => cell_kept (HPB p) (Nat.le_refl _) hli.c1
                  have q2 : ∀ p : BelowOf wr, p.u.cell? ⟨g, o + i * 4 + 2, none⟩ = some (.string (ss i)) := fun p => cell_kept (HPB p) (Nat.le_refl _) hli.c2
                  have q3 : ∀ p : BelowOf wr, p.u.cell? ⟨g, o + i * 4 + 3, none⟩ = some (us i) := fun p => cell_kept (HPB p) (Nat.le_refl _) hli.c3
                  have r0 : ∀ p : BelowOf wr, p.u.cell? ⟨g', o' + i * 4, none⟩ = some (.int .i64 (ks' i)) := fun p => cell_kept (HPB p) (Nat.le_refl _) hli'.c0
                  have r1 : ∀ p : BelowOf wr, p.u.cell? ⟨g', o' + i * 4 + 1, none⟩ = some (.int .u64 (ns' i)) := fun p => cell_kept (HPB p) (Nat.le_refl _) hli'.c1
                  have r2 : ∀ p : BelowOf wr, p.u.cell? ⟨g', o' + i * 4 + 2, none⟩ = some (.string (ss' i)) := fun p => cell_kept (HPB p) (Nat.le_refl _) hli'.c2
                  have r3 : ∀ p : BelowOf wr, p.u.cell? ⟨g', o' + i * 4 + 3, none⟩ = some (us' i) := fun p => cell_kept (HPB p) (Nat.le_refl _) hli'.c3
                  have HC : Hid (∀ p : BelowOf wr, Calls Tryd.prog 9 #[.agg #[.int .i64 (ks i), .int .u64 (ns i), .string (ss i), us i], .agg #[.int .i64 (ks' i), .int .u64 (ns' i), .string (ss' i), us' i]] p.u fun e w' => e = .returned (.bool (sameT ts[i] ts'[i])) ∧ Below p.u.heap.size p.u w') :=
                    fun p => HI.out ts[i] ts'[i] _ _ p.u (by have := deps_get i i1; have := HD.out; omega) ((HR.out i i1).kept (HPB p) (Nat.le_refl _)) ((HR'.out i i2).kept (HPB p) (Nat.le_refl _))
                  have HF : Hid (sameT ts[i] ts'[i] = false → sameL ts ts' = false) := sameL_at i i1 i2
                  have HG : Hid (sameT ts[i] ts'[i] = true → ∀ j (h1 : j < ts.length) (h2 : j < ts'.length), j < i + 1 → sameT ts[j] ts'[j] = true) := by
                    intro e j h1 h2 hj
                    by_cases e2 : j = i
                    · subst e2; exact e
                    · exact HJ.out j h1 h2 (by omega)
                  generalize sameT ts[i] ts'[i] = z at *
                  have hInh : Inhabited (BelowOf wr) := ⟨⟨wr, Below.refl _ _⟩⟩
                  clear hli hli' HPB
                  go_wp2_with fail
                  refine wp_region_below (by kernel_rfl) (by kernel_rfl) ?_
                  repeat (quiet_step (fail))
                  quiet_step ((go_at_call 9; exact below_of (HC.out _)))
                  repeat (quiet_step (fail))
                  refine wpQuiet_nil ?_
                  intro wq hw'
                  obtain ⟨⟨w9, hwq⟩, hw''⟩ := hw'
                  subst hw''
                  have hsz := HW.out.size
                  have HQ : Hid (Below w.heap.size w wq) := Below.then HBW.out hwq
                  have HQ2 : Hid (Below (w.heap.size + 2) ((w.alloc (.cells #[.int .i64 2, .int .u64 n, .string s, .slice (some ⟨g, o, none⟩) N cap] 33)).alloc (.cells #[.int .i64 2, .int .u64 n', .string s', .slice (some ⟨g', o', none⟩) N cap'] 33)) wq) := HW.out.trans (hwq.mono (by simpa using hsz))
                  clear hsz hwq p0 p1 q0 q1 q2 q3 r0 r1 r2 r3
                  cases z with
                  | false =>
                    have HF2 : Hid (sameL ts ts' = false) := HF.out rfl
                    clear HF HG
                    go_wp2
                    go_ret
                    exact ⟨by rw [HS.out, HF2.out]; rfl, HQ.out⟩
                  | true =>
                    have HJ2 : Hid (∀ j (h1 : j < ts.length) (h2 : j < ts'.length), j < i + 1 → sameT ts[j] ts'[j] = true) := HG.out rfl
                    go_wp2
                    go_roundw
                    case rel => exact ⟨i + 1, by omega, by go_num, HJ2, HQ2⟩
                    case measure => simp [intOf]; omega
                · have e : i = N := by omega
                  have HT : Hid (sameL ts ts' = true) := sameL_all (by have := HN.out; omega) (fun j h1 h2 => HJ.out j h1 h2 (by have := HN.out; omega))
                  subst e
                  go_wp2
                  go_ret
                  exact ⟨by rw [HS.out, HT.out]; rfl, HBW.out⟩
            · have HS : Hid (sameT (.mk k n s ts) (.mk k n' s' ts') = false) := by
                show _ = _
                simp [sameT_mk, c3, sameL_length c4]
              subst c3
              have c5 : ¬ (ts.length : Int) = (ts'.length : Int) := by omega
              clear hx hr hx' hr' h0 h0'
              go_enter Tryd.func9, Tryd.ntmps9
              go_wp2
              go_ret
              exact ⟨by rw [HS.out]; rfl, HB.out _ _⟩
          · have HS : Hid (sameT (.mk k n s ts) (.mk k n' s' ts') = true) := by
              show _ = _
              simp [sameT_mk, c1, c2, c3]
            clear hx hr hx' hr' h0 h0'
            go_enter Tryd.func9, Tryd.ntmps9
            go_wp2
            go_ret
            exact ⟨by rw [HS.out]; rfl, HB.out _ _⟩
    · have HS : Hid (sameT (.mk k n s ts) (.mk k' n' s' ts') = false) := by show _ = _; simp [sameT_mk, c0]
      clear hx hr hx' hr' h0 h0'
      go_enter Tryd.func9, Tryd.ntmps9
      go_wp2
      go_ret
      exact ⟨by rw [HS.out]; rfl, HB.out _ _⟩

end Go.Proofs.YtcblknghkgihcaaDoor
