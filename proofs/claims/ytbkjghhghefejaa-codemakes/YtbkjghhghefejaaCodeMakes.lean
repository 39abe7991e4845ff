/-
  The statement CodeMakes, walked.
-/
import Derived.Test.YtbkjghhghefejaaCodeBegins
namespace Go.Proofs.Ytbkjghhghefejaa
open Go.RowKit Crc

/-- What was turned lies in blocks from B to below T, and only what its cells hold. -/
structure Tch (B T : Nat) (w w' : World) : Prop where
  os : w'.os = w.os
  tape : w'.tape = w.tape
  output : w'.output = w.output
  size : w'.heap.size = w.heap.size
  block : ∀ k, k < B ∨ T ≤ k → w'.heap[k]? = w.heap[k]?
  isv : ∀ a u, w.cell? a = some u → ∃ u', w'.cell? a = some u'
  frozen : ∀ a, w'.frozen? a = w.frozen? a

theorem Tch.refl (B T : Nat) (w : World) : Tch B T w w := ⟨rfl, rfl, rfl, rfl, fun _ _ => rfl, fun _ u h => ⟨u, h⟩, fun _ => rfl⟩
theorem Tch.set {B T : Nat} {w w' : World} (h : Tch B T w w') (b j : Nat) (hb : B ≤ b) (hT : b < T) (u v : Value) (hc : w'.cell? ⟨b, j, none⟩ = some v) : Tch B T w (w'.setCell ⟨b, j, none⟩ u) := by
  refine ⟨h.os, h.tape, h.output, by rw [World.size_setCell]; exact h.size, fun k hk => by rw [heap_setCell_other _ _ _ _ (by simp; omega)]; exact h.block k hk, fun a x hx => ?_, fun a => by rw [World.frozen?_setCell]; exact h.frozen a⟩
  obtain ⟨y, hy⟩ := h.isv a x hx
  by_cases e : (⟨b, j, none⟩ : Addr) = a
  · subst e; exact ⟨u, World.cell?_setCell_same _ _ _ hc⟩
  · exact ⟨y, by rw [World.cell?_setCell_other _ _ _ _ e]; exact hy⟩
theorem Tch.below {B T : Nat} {w0 w w' : World} (h : Tch B T w w') (hb : Below B w0 w) : Below B w0 w' :=
  ⟨h.os.trans hb.os, h.tape.trans hb.tape, h.output.trans hb.output, by rw [h.size]; exact hb.size, fun k hk => (h.block k (Or.inl hk)).trans (hb.block k hk)⟩

/-- Four cells laid. -/
theorem Tch.set4 {B T : Nat} {w w' W : World} (h : Tch B T w w') (b j : Nat) (hb : B ≤ b) (hT : b < T) (u0 u1 u2 u3 v0 v1 v2 v3 : Value) (c0 : w'.cell? ⟨b, j, none⟩ = some v0) (c1 : w'.cell? ⟨b, j + 1, none⟩ = some v1) (c2 : w'.cell? ⟨b, j + 2, none⟩ = some v2) (c3 : w'.cell? ⟨b, j + 3, none⟩ = some v3)
    (hW : W = (((w'.setCell ⟨b, j, none⟩ u0).setCell ⟨b, j + 1, none⟩ u1).setCell ⟨b, j + 2, none⟩ u2).setCell ⟨b, j + 3, none⟩ u3) : Tch B T w W := by
  subst hW
  refine (((h.set b j hb hT u0 v0 c0).set b (j + 1) hb hT u1 v1 ?_).set b (j + 2) hb hT u2 v2 ?_).set b (j + 3) hb hT u3 v3 ?_
  · rw [World.cell?_setCell_other _ _ _ _ (by simp)]; exact c1
  · rw [World.cell?_setCell_other _ _ _ _ (by simp), World.cell?_setCell_other _ _ _ _ (by simp)]; exact c2
  · rw [World.cell?_setCell_other _ _ _ _ (by simp), World.cell?_setCell_other _ _ _ _ (by simp), World.cell?_setCell_other _ _ _ _ (by simp)]; exact c3

/-- Where the lists of a row's cells lie, and that they may be written. -/
def Kids (w : World) (B T g N : Nat) (us : Nat → Value) : Prop :=
  ∀ j, j < N → ∃ a m c, us j = .slice a m c ∧ m ≤ c ∧ c ≤ 9223372036854775807 ∧ ∀ k, k < m → ∃ b o, a = some ⟨b, o, none⟩ ∧ B ≤ b ∧ b < T ∧ b ≠ g ∧ Uf w b ∧ (∃ x0, w.cell? ⟨b, o + k * 4, none⟩ = some x0) ∧ (∃ x1, w.cell? ⟨b, o + k * 4 + 1, none⟩ = some x1) ∧ (∃ x2, w.cell? ⟨b, o + k * 4 + 2, none⟩ = some x2) ∧ (∃ x3, w.cell? ⟨b, o + k * 4 + 3, none⟩ = some x3)

theorem TWz.kids {w : World} {B g N cap : Nat} {ts : List Tr} (h : TWz Uf w B (.slice (some ⟨g, 0, none⟩) N cap) ts) (hN : N = ts.length) : ∃ (ks : Nat → Int) (ns : Nat → Nat) (ss : Nat → ByteArray) (us : Nat → Value), B ≤ g ∧ g < w.heap.size ∧ Uf w g ∧ N ≤ cap ∧ cap ≤ 9223372036854775807 ∧ (∀ j, j < N → Lies w g 0 j (ks j) (ns j) (ss j) (us j)) ∧ Kids w B w.heap.size g N us := by
  obtain ⟨xs, ks, ns, ss, us, h1, h2, h3⟩ := h
  subst hN
  obtain ⟨hg1, hg2⟩ := h1.lt g rfl
  have hcap : ts.length ≤ cap ∧ cap ≤ 9223372036854775807 := by
    rcases h1.2 with ⟨e, _⟩ | ⟨g', cap', cur, e, _, _, hl, hc, _⟩
    · cases e
    · simp only [Value.slice.injEq] at e
      obtain ⟨_, _, rfl⟩ := e
      unfold maxLen at hc
      omega
  refine ⟨ks, ns, ss, us, hg1, hg2, ownsRow_uf h1 rfl, hcap.1, hcap.2, fun i hi => ⟨?_, ?_, ?_, ?_⟩, fun j hj => ?_⟩
  · simp only [Nat.zero_add]; rw [h1.cellAt _ (by omega)]; exact h2.q0 i hi
  · simp only [Nat.zero_add]; rw [h1.cellAt _ (by omega)]; exact h2.q1 i hi
  · simp only [Nat.zero_add]; rw [h1.cellAt _ (by omega)]; exact h2.q2 i hi
  · simp only [Nat.zero_add]; rw [h1.cellAt _ (by omega)]; exact h2.q3 i hi
  · have hc := h3 j hj
    generalize hv : cellV (ks j) (ns j) (ss j) (us j) = v at hc
    generalize ts[j] = tj at hc
    cases hc using CS.elim with
    | mk k' n' s' ts' a cap' ks' ns' ss' us' hk hn hs hl hc h0 hS hx hr =>
      unfold cellV at hv
      simp at hv
      refine ⟨a, _, cap', hv.2.2.2, hl, hc, fun k hk2 => ?_⟩
      cases a with
      | none => rw [h0 rfl] at hk2; exact absurd hk2 (by simp)
      | some x =>
        obtain ⟨hsp, hli⟩ := hx x k rfl hk2
        obtain ⟨b, o, sp⟩ := x
        simp only at hsp
        subst hsp
        obtain ⟨z1, z2, z3, z4⟩ := hS _ rfl (fun e => by rw [e] at hk2; exact absurd hk2 (by simp))
        simp only at z1 z2 z3 z4
        exact ⟨b, o, rfl, z1, z3, fun e => z2 (by rw [e]; rfl), z4, ⟨_, hli.c0⟩, ⟨_, hli.c1⟩, ⟨_, hli.c2⟩, ⟨_, hli.c3⟩⟩

set_option maxHeartbeats 8000000 in
theorem codeMakes_any (n0 : Nat) (s0 : ByteArray) (ts : List Tr) (v : Value) (W : World) (hn0 : n0 < 18446744073709551616) (hs0 : s0.size ≤ 9223372036854775807) (h : CR W (.mk 2 0 ⟨#[]⟩ ts) (cellV 2 0 ⟨#[]⟩ v)) :
    Calls Try.prog 6 #[.int .u64 n0, .string s0, v] W fun e w' => e = .returned (.bool true) ∧ Below W.heap.size W w' := by
  obtain ⟨i0, hi0, hz0, hz1, hz2⟩ := info_parts info25b
  have HT : Hid (CR W (.mk 2 0 ⟨#[]⟩ ts) (cellV 2 0 ⟨#[]⟩ v)) := h
  generalize hv : cellV 2 0 ⟨#[]⟩ v = v0 at h
  cases h using CR.elim with
  | mk _ _ _ _ a cap ks ns ss us hk hn hs hl hc h0 hx hr =>
  unfold cellV at hv
  simp only [Value.agg.injEq, Array.mk.injEq, List.cons.injEq, and_true, true_and] at hv
  subst hv
  have HR : Hid (∀ i (h : i < ts.length), CR W ts[i] (cellV (ks i) (ns i) (ss i) (us i))) := hr
  have HX : Hid (∀ x i, a = some x → i < ts.length → x.spot = none ∧ Lies W x.block x.off i (ks i) (ns i) (ss i) (us i)) := hx
  have H0 : Hid (a = none → ts = []) := h0
  have hsm := lawSmall_any _ _ W HT.out
  obtain ⟨N, hN⟩ : ∃ N, N = ts.length := ⟨_, rfl⟩
  have HN : Hid (N = ts.length) := hN
  rw [← hN] at hl HT hsm ⊢
  unfold cellV at hsm
  clear hr hx h0 hk hn hs hN
  by_cases c50 : (N : Int) > 50
  · have hlv := lives_any W
    clear hsm
    go_enter Try.func6, Try.ntmps6
    go_wp2_with fail
    refine hlv.mono ?_
    rintro e w3 ⟨rfl, hb3⟩
    have HQ : Hid (Below W.heap.size W w3) := hb3
    clear hlv hb3
    go_wp2
    go_ret
    exact ⟨rfl, HQ.out⟩
  go_enter Try.func6, Try.ntmps6
  go_wp2_with fail
  refine hsm.mono ?_
  rintro e w2 ⟨ok, rfl, hok, hb2⟩
  have HB2 : Hid (Below W.heap.size W w2) := hb2
  clear hsm hb2
  cases ok with
  | false =>
    clear hok
    have hlv := lives_any w2
    go_wp2_with fail
    refine hlv.mono ?_
    rintro e w3 ⟨rfl, hb3⟩
    have HQ : Hid (Below W.heap.size W w3) := Below.then HB2.out hb3
    clear hlv hb3
    go_wp2
    go_ret
    exact ⟨rfl, HQ.out⟩
  | true =>
    have HOK : Hid (cnts ts ≤ 3000 ∧ deps ts ≤ 100) := by
      have := hok rfl
      rw [Tr.cnt_mk, Tr.dep_mk] at this
      exact ⟨by omega, this.2⟩
    clear hok
    have hs2 := HB2.out.size
    have HT0 : Hid (TWz Uf (w2.alloc (.cells #[] 25)) w2.heap.size (.slice (some ⟨w2.heap.size, 0, none⟩) 0 0) []) := by
      refine ⟨[], fun _ => 0, fun _ => 0, fun _ => ⟨#[]⟩, fun _ => .slice none 0 0, ?_, ⟨fun _ h => absurd h (Nat.not_lt_zero _), fun _ h => absurd h (Nat.not_lt_zero _), fun _ h => absurd h (Nat.not_lt_zero _), fun _ h => absurd h (Nat.not_lt_zero _)⟩, fun _ h => absurd h (Nat.not_lt_zero _)⟩
      have := World.ownsRow_made (e := 25) (size := 4) (base := w2.heap.size) w2 #[] 0 (Nat.le_refl _) (by decide) rfl
      simpa using this
    have HW0 : Hid (Below w2.heap.size w2 (w2.alloc (.cells #[] 25))) := (Below.refl _ _).alloc (Nat.le_refl _) _
    go_wp2_with fail
    go_loopw [7, 8] (fun t7 t8 wr => ∃ (i : Nat), i ≤ N ∧ t8 = .int .i64 i ∧ Hid (TWz Uf wr w2.heap.size t7 (ts.take i)) ∧ Hid (Below w2.heap.size w2 wr)) (fun _ t8 _ => N - (intOf t8).toNat)
    case atStart => exact ⟨0, Nat.zero_le _, rfl, HT0, HW0⟩
    case round =>
      obtain ⟨i, hi, rfl, HTW, HW⟩ := hrel
      have hsz := HW.out.size
      have HBW : Hid (Below W.heap.size W wr) := Below.then HB2.out HW.out
      by_cases c : i < N
      · have i1 : i < ts.length := by rw [← HN.out]; exact c
        obtain ⟨x, hx⟩ : ∃ x, a = some x := by
          cases a with
          | some x => exact ⟨x, rfl⟩
          | none => rw [H0.out rfl] at i1; exact absurd i1 (by simp)
        subst hx
        obtain ⟨hsp, hli⟩ := HX.out x i rfl i1
        obtain ⟨g, o, sp⟩ := x
        simp only at hsp
        subst hsp
        obtain ⟨l0, l1, l2, l3⟩ := hli.below HBW.out (Nat.le_refl _)
        have hcall := own_cell_u (ts[i].dep + 1) ts[i] _ wr (Nat.lt_succ_self _) (by have := cnts_get i i1; have := HOK.out; omega) ((HR.out i i1).kept HBW.out (Nat.le_refl _))
        unfold cellV at hcall
        clear hli
        go_wp2_with fail
        refine hcall.mono ?_
        rintro e w4 ⟨v4, rfl, hcs, hb4⟩
        obtain ⟨k4, n4, s4, a4, m4, cap4, rfl⟩ := hcs.form
        have hlen : (ts.take i).length = i := by rw [List.length_take]; omega
        obtain ⟨xs, ho1, ho2, hnext⟩ := HTW.out.snocK (fun _ _ _ => Uf.same) (B := w2.heap.size) (w1 := w4) (by omega) hb4.size (fun k _ hk => hb4.block k hk) hcs (.cells #[.int .i64 k4, .int .u64 n4, .string s4, .slice a4 m4 cap4] 25)
        rw [hlen] at ho2
        have HNX : Hid (∀ (w3 : World) (g cap : Nat), _) := hnext
        have HBX : Hid (Below wr.heap.size wr w4) := hb4
        have hsz4 := hb4.size
        unfold cellV
        clear hnext ho1 hcs hb4 hcall l0 l1 l2 l3
        go_wp2_with (at_builtin; refine wpList_append_lies _ rfl _ _ 23 rfl w2.heap.size 25 i0 _ 4 56 Try.underlying23 hi0 hz0 hz1 hz2 rfl (by decide) _ i xs rfl ho2 ⟨w4.heap.size, 0, none⟩ 1 1 (quad k4 n4 s4 (.slice a4 m4 cap4)) rfl rfl (cells_quad _ _ _ _ _ _) (by intro u hu; simp [quad] at hu; rcases hu with rfl | rfl | rfl | rfl <;> rfl) (by decide) (by unfold maxLen; omega) (by omega) (by simp; omega) _ rfl ?_)
        intro g3 cap3 w5 hown3 hgrow3 hat3 _
        have HT3 : Hid (TWz Uf w5 w2.heap.size (.slice (some ⟨g3, 0, none⟩) (i + 1) cap3) (ts.take (i + 1))) := by
          have := HNX.out w5 g3 cap3 (by rw [hlen]; exact hown3) hgrow3 (by simpa using hat3)
          rw [hlen] at this
          show TWz _ _ _ _ _
          rw [List.take_succ_eq_append_getElem i1]
          exact this
        have HW3 : Hid (Below w2.heap.size w2 w5) := by
          have k1 : Below w2.heap.size w2 w4 := Below.then HW.out HBX.out
          exact (k1.alloc (by omega) _).grown hgrow3 (by simp; omega) (fun k hk => (ho2.lt k hk).1)
        clear hown3 hgrow3 hat3 ho2
        go_wp2
        go_roundw
        case rel => exact ⟨i + 1, by omega, by go_num, HT3, HW3⟩
        case measure => simp [intOf]; omega
      · have e : i = N := by omega
        subst e
        generalize wr = wA at *
        have et : ts.take i = ts := by rw [HN.out, List.take_length]
        rw [et] at HTW
        obtain ⟨a7, cap7, e7⟩ : ∃ a7 cap7, u7 = .slice a7 i cap7 := by
          obtain ⟨xs, _, _, _, _, h1, _⟩ := HTW.out
          rw [← HN.out] at h1
          exact ownsRow_slice h1
        subst e7
        have hcr : CR wA (.mk 2 0 ⟨#[]⟩ ts) (cellV 2 0 ⟨#[]⟩ (.slice a7 ts.length cap7)) := by
          have q := HTW.out.cs (fun g hg => by obtain ⟨xs, _, _, _, _, h1, _⟩ := HTW.out; exact ownsRow_uf h1 hg) HN.out 2 0 ⟨#[]⟩ (by decide) (by decide) (by decide)
          rw [HN.out] at q
          exact q.cr
        have hlist := list_any ts a7 cap7 2 0 ⟨#[]⟩ wA (by have := HOK.out; omega) hcr
        rw [← HN.out] at hlist
        clear hcr
        go_wp2_with fail
        refine hlist.mono ?_
        rintro e w6 ⟨v6, rfl, q6, hb6⟩
        obtain ⟨k6, n6, s6, a6, m6, cap6, rfl⟩ := q6.form
        obtain ⟨w7, hw7⟩ : ∃ w7, w7 = w6.alloc (.cells #[.int .i64 k6, .int .u64 n6, .string s6, .slice a6 m6 cap6] 25) := ⟨_, rfl⟩
        have hb7 : Below w6.heap.size w6 w7 := by rw [hw7]; exact (Below.refl _ _).alloc (Nat.le_refl _) _
        have hbw7 : Below wA.heap.size wA w7 := Below.then hb6 hb7
        have x7 : Bxc w7 w6.heap.size k6 n6 s6 (.slice a6 m6 cap6) := by rw [hw7]; exact Bxc.new w6 k6 n6 s6 _ _
        have q7 : CS w7 (fun k => wA.heap.size ≤ k ∧ k < w6.heap.size) (.mk 2 0 ⟨#[]⟩ (ts.map cpT)) (cellV k6 n6 s6 (.slice a6 m6 cap6)) := (q6.real.kept (fun k hk => hb7.block k hk.2))
        have HX7 : Hid _ := x7
        have HQ7 : Hid (CS w7 (fun k => wA.heap.size ≤ k ∧ k < w6.heap.size) (.mk 2 0 ⟨#[]⟩ (ts.map cpT)) (cellV k6 n6 s6 (.slice a6 m6 cap6))) := q7
        have HBW7 : Hid (Below w2.heap.size w2 w7) := Below.then HW.out hbw7
        unfold cellV
        clear hlist q6 q7 x7
        obtain ⟨g, ks', ns', ss', us', hg, hcp, hli, hkd⟩ : ∃ (g : Nat) (ks' : Nat → Int) (ns' : Nat → Nat) (ss' : Nat → ByteArray) (us' : Nat → Value), (0 < i → a7 = some ⟨g, 0, none⟩ ∧ w2.heap.size ≤ g ∧ g < wA.heap.size ∧ Uf wA g) ∧ (i ≤ cap7 ∧ cap7 ≤ 9223372036854775807) ∧ (∀ j, j < i → Lies wA g 0 j (ks' j) (ns' j) (ss' j) (us' j)) ∧ Kids wA w2.heap.size wA.heap.size g i us' := by
          cases a7 with
          | none =>
            obtain ⟨xs, _, _, _, _, h1, _⟩ := HTW.out
            rcases h1.2 with ⟨e1, e2⟩ | ⟨g', cap', cur, e1, _⟩
            · simp only [Value.slice.injEq] at e1
              have : i = 0 := by omega
              subst this
              exact ⟨0, fun _ => 0, fun _ => 0, fun _ => ⟨#[]⟩, fun _ => .slice none 0 0, fun h => absurd h (by omega), ⟨by omega, by omega⟩, fun j hj => absurd hj (by omega), fun j hj => absurd hj (by omega)⟩
            · cases e1
          | some y =>
            obtain ⟨xs, _, _, _, _, h1, _⟩ := HTW.out
            rcases h1.2 with ⟨e1, e2⟩ | ⟨g', cap', cur, e1, _⟩
            · cases e1
            · simp only [Value.slice.injEq, Option.some.injEq] at e1
              obtain ⟨rfl, _, rfl⟩ := e1
              obtain ⟨ks', ns', ss', us', z1, z2, z3, z4, z5, z6, z7⟩ := HTW.out.kids HN.out
              exact ⟨g', ks', ns', ss', us', fun _ => ⟨rfl, z1, z2, z3⟩, ⟨z4, z5⟩, z6, z7⟩
        have HG : Hid _ := hg
        have HLI : Hid (∀ j, j < i → Lies w7 g 0 j (ks' j) (ns' j) (ss' j) (us' j)) := fun j hj => (hli j hj).below hbw7 (Nat.le_refl _)
        have HKD : Hid (Kids w7 w2.heap.size wA.heap.size g i us') := by
          intro j hj
          obtain ⟨a, m, c, e, h1, h2, h3⟩ := hkd j hj
          refine ⟨a, m, c, e, h1, h2, fun k hk => ?_⟩
          obtain ⟨b, o, z1, z2, z3, z4, z5, ⟨x0, y0⟩, ⟨x1, y1⟩, ⟨x2, y2⟩, ⟨x3, y3⟩⟩ := h3 k hk
          exact ⟨b, o, z1, z2, z3, z4, Uf.same (hbw7.block b z3) z5, ⟨x0, cell_kept hbw7 (Nat.le_refl _) y0⟩, ⟨x1, cell_kept hbw7 (Nat.le_refl _) y1⟩, ⟨x2, cell_kept hbw7 (Nat.le_refl _) y2⟩, ⟨x3, cell_kept hbw7 (Nat.le_refl _) y3⟩⟩
        have HUG : Hid (0 < i → Uf w7 g) := fun h => Uf.same (hbw7.block g (hg h).2.2.1) (hg h).2.2.2
        have HLT : Hid (wA.heap.size ≤ w6.heap.size) := hb6.size
        clear hg hli hkd hb6 hb7 hbw7
        go_wp2_with fail
        rw [← hw7]
        clear hw7
        go_loopw [10] (fun t10 wq => ∃ j : Nat, j ≤ i ∧ t10 = .int .i64 j ∧ Hid (Tch w2.heap.size wA.heap.size w7 wq ∧ ∀ q, j ≤ q → q < i → wq.cell? ⟨g, q * 4 + 3, none⟩ = some (us' q))) (fun t10 _ => i - (intOf t10).toNat)
        case atStart => exact ⟨0, Nat.zero_le _, rfl, ⟨Tch.refl _ _ _, fun q _ hq => by have := (HLI.out q hq).c3; rw [Nat.zero_add] at this; exact this⟩⟩
        case round =>
          generalize wr = wq at *
          obtain ⟨j, hj, rfl, HV⟩ := hrel
          by_cases cj : j < i
          · obtain ⟨e7, hg1, hg2, _⟩ := HG.out (by omega)
            subst e7
            obtain ⟨ai, mi, ci, hus, hmc, hcc, hkk⟩ := HKD.out j cj
            have l3 := HV.out.2 j (Nat.le_refl _) cj
            rw [hus] at l3
            have HKK : Hid _ := hkk
            have cji : (j : Int) < (i : Int) := by omega
            clear hkk
            go_wp2_with fail
            go_loopw [11] (fun t11 wz => ∃ k : Nat, k ≤ mi ∧ t11 = .int .i64 k ∧ Hid (Tch w2.heap.size wA.heap.size w7 wz ∧ ∀ q, j ≤ q → q < i → wz.cell? ⟨g, q * 4 + 3, none⟩ = some (us' q))) (fun t11 _ => mi - (intOf t11).toNat)
            case atStart => exact ⟨0, Nat.zero_le _, rfl, HV⟩
            case round =>
              generalize wr = wz at *
              obtain ⟨k, hk, rfl, HZ⟩ := hrel
              have l3 := HZ.out.2 j (Nat.le_refl _) cj
              rw [hus] at l3
              by_cases ck : k < mi
              · obtain ⟨b, o, eb, hb1, hb2, hbg, hbu, ⟨x0, y0⟩, ⟨x1, y1⟩, ⟨x2, y2⟩, ⟨x3, y3⟩⟩ := HKK.out k ck
                subst eb
                obtain ⟨z0, d0⟩ := HZ.out.1.isv _ _ y0
                obtain ⟨z1, d1⟩ := HZ.out.1.isv _ _ y1
                obtain ⟨z2, d2⟩ := HZ.out.1.isv _ _ y2
                obtain ⟨z3, d3⟩ := HZ.out.1.isv _ _ y3
                have f0 : wz.frozen? ⟨b, o + k * 4, none⟩ = false := (HZ.out.1.frozen _).trans (hbu _)
                have f1 : wz.frozen? ⟨b, o + k * 4 + 1, none⟩ = false := (HZ.out.1.frozen _).trans (hbu _)
                have f2 : wz.frozen? ⟨b, o + k * 4 + 2, none⟩ = false := (HZ.out.1.frozen _).trans (hbu _)
                have f3 : wz.frozen? ⟨b, o + k * 4 + 3, none⟩ = false := (HZ.out.1.frozen _).trans (hbu _)
                have HNX : Hid (∀ W' : World, W' = (((wz.setCell ⟨b, o + k * 4, none⟩ (.int .i64 0)).setCell ⟨b, o + k * 4 + 1, none⟩ (.int .u64 9)).setCell ⟨b, o + k * 4 + 2, none⟩ (.string ⟨#[]⟩)).setCell ⟨b, o + k * 4 + 3, none⟩ (.slice none 0 0) → Tch w2.heap.size wA.heap.size w7 W' ∧ ∀ q, j ≤ q → q < i → W'.cell? ⟨g, q * 4 + 3, none⟩ = some (us' q)) := by
                  intro W' hW'
                  refine ⟨HZ.out.1.set4 b (o + k * 4) hb1 hb2 _ _ _ _ _ _ _ _ d0 d1 d2 d3 hW', fun q hq1 hq2 => ?_⟩
                  have hne : ∀ r : Nat, (⟨b, r, none⟩ : Addr) ≠ ⟨g, q * 4 + 3, none⟩ := fun r e => hbg (by injection e)
                  rw [hW', World.cell?_setCell_other _ _ _ _ (hne _), World.cell?_setCell_other _ _ _ _ (hne _), World.cell?_setCell_other _ _ _ _ (hne _), World.cell?_setCell_other _ _ _ _ (hne _)]
                  exact HZ.out.2 q hq1 hq2
                have cki : (k : Int) < (mi : Int) := by omega
                clear y0 y1 y2 y3 hbu HZ
                go_wp2
                go_roundw
                case rel => exact ⟨k + 1, by omega, by go_num, HNX.out _ rfl⟩
                case measure => simp [intOf]; omega
              · have ekm : k = mi := by omega
                subst ekm
                obtain ⟨y0, y1, y2, y3⟩ := HLI.out j cj
                simp only [Nat.zero_add] at y0 y1 y2 y3
                obtain ⟨z0, d0⟩ := HZ.out.1.isv _ _ y0
                obtain ⟨z1, d1⟩ := HZ.out.1.isv _ _ y1
                obtain ⟨z2, d2⟩ := HZ.out.1.isv _ _ y2
                have hgu := HUG.out (by omega)
                have f0 : wz.frozen? ⟨g, j * 4, none⟩ = false := (HZ.out.1.frozen _).trans (hgu _)
                have f1 : wz.frozen? ⟨g, j * 4 + 1, none⟩ = false := (HZ.out.1.frozen _).trans (hgu _)
                have f2 : wz.frozen? ⟨g, j * 4 + 2, none⟩ = false := (HZ.out.1.frozen _).trans (hgu _)
                have f3 : wz.frozen? ⟨g, j * 4 + 3, none⟩ = false := (HZ.out.1.frozen _).trans (hgu _)
                have HNX : Hid (∀ W' : World, W' = (((wz.setCell ⟨g, j * 4, none⟩ (.int .i64 0)).setCell ⟨g, j * 4 + 1, none⟩ (.int .u64 9)).setCell ⟨g, j * 4 + 2, none⟩ (.string ⟨#[]⟩)).setCell ⟨g, j * 4 + 3, none⟩ (.slice none 0 0) → Tch w2.heap.size wA.heap.size w7 W' ∧ ∀ q, j + 1 ≤ q → q < i → W'.cell? ⟨g, q * 4 + 3, none⟩ = some (us' q)) := by
                  intro W' hW'
                  refine ⟨HZ.out.1.set4 g (j * 4) hg1 hg2 _ _ _ _ _ _ _ _ d0 d1 d2 l3 hW', fun q hq1 hq2 => ?_⟩
                  have hne : ∀ r : Nat, r < q * 4 → (⟨g, r, none⟩ : Addr) ≠ ⟨g, q * 4 + 3, none⟩ := fun r hr e => by injection e; omega
                  rw [hW', World.cell?_setCell_other _ _ _ _ (hne _ (by omega)), World.cell?_setCell_other _ _ _ _ (hne _ (by omega)), World.cell?_setCell_other _ _ _ _ (hne _ (by omega)), World.cell?_setCell_other _ _ _ _ (hne _ (by omega))]
                  exact HZ.out.2 q (by omega) hq2
                have cki : ¬ (k : Int) < (k : Int) := by omega
                clear y0 y1 y2 y3 hgu HZ
                go_wp2
                go_roundw
                case rel => exact ⟨j + 1, by omega, by go_num, HNX.out _ rfl⟩
                case measure => simp [intOf]; omega
          · have e : j = i := by omega
            subst e
            have HTC : Hid (Tch w2.heap.size wA.heap.size w7 wq) := HV.out.1
            clear HV
            have cji : ¬ (j : Int) < (j : Int) := by omega
            have hbq : Below W.heap.size W wq := (HTC.out.below HBW7.out).mono hs2 |> fun h => HB2.out.trans h
            have HBQ : Hid (Below W.heap.size W wq) := hbq
            have HXQ : Hid (Bxc wq w6.heap.size k6 n6 s6 (.slice a6 m6 cap6)) := by
              have e := HTC.out.block w6.heap.size (Or.inr HLT.out)
              have hx := HX7.out
              exact ⟨by rw [HTC.out.size]; exact hx.lt, (World.cell?_of_block (w := w7) (a := ⟨w6.heap.size, 0, none⟩) e).trans hx.c0, (World.cell?_of_block (w := w7) (a := ⟨w6.heap.size, 1, none⟩) e).trans hx.c1, (World.cell?_of_block (w := w7) (a := ⟨w6.heap.size, 2, none⟩) e).trans hx.c2, (World.cell?_of_block (w := w7) (a := ⟨w6.heap.size, 3, none⟩) e).trans hx.c3⟩
            have HCQ : Hid (CR wq (.mk 2 0 ⟨#[]⟩ (ts.map cpT)) (cellV k6 n6 s6 (.slice a6 m6 cap6))) := (HQ7.out.kept (fun k hk => HTC.out.block k (Or.inr hk.1))).cr
            have p0 : ∀ p : BelowOf wq, p.u.cell? ⟨w6.heap.size, 0, none⟩ = some (.int .i64 k6) := fun p => (HXQ.out.below p.h).c0
            have p1 : ∀ p : BelowOf wq, p.u.cell? ⟨w6.heap.size, 1, none⟩ = some (.int .u64 n6) := fun p => (HXQ.out.below p.h).c1
            have p2 : ∀ p : BelowOf wq, p.u.cell? ⟨w6.heap.size, 2, none⟩ = some (.string s6) := fun p => (HXQ.out.below p.h).c2
            have p3 : ∀ p : BelowOf wq, p.u.cell? ⟨w6.heap.size, 3, none⟩ = some (.slice a6 m6 cap6) := fun p => (HXQ.out.below p.h).c3
            have G1 : Hid (∀ p : BelowOf wq, Calls Try.prog 18 #[.slice a j cap] p.u fun e w' => e = .returned (.agg #[.int .i64 2, .int .u64 0, .string ⟨#[]⟩, .slice a j cap]) ∧ Below p.u.heap.size p.u w') := fun p => rflist_any a j cap p.u
            have G2 : Hid (∀ p : BelowOf wq, Calls Try.prog 14 #[.agg #[.int .i64 k6, .int .u64 n6, .string s6, .slice a6 m6 cap6], .agg #[.int .i64 2, .int .u64 0, .string ⟨#[]⟩, .slice a j cap]] p.u fun e w' => e = .returned (.bool true) ∧ Below p.u.heap.size p.u w') := fun p => by
              have e1 : sameT (.mk 2 0 ⟨#[]⟩ (ts.map cpT)) (.mk 2 0 ⟨#[]⟩ ts) = true := by
                have := same_cp (.mk 2 0 ⟨#[]⟩ ts)
                rw [cpT_mk] at this
                exact this
              have := same_any ((Tr.mk 2 0 ⟨#[]⟩ (ts.map cpT)).dep + 1) (.mk 2 0 ⟨#[]⟩ (ts.map cpT)) (.mk 2 0 ⟨#[]⟩ ts) _ _ p.u (Nat.lt_succ_self _) (HCQ.out.kept p.h (Nat.le_refl _)) (HT.out.kept (Below.then HBQ.out p.h) (Nat.le_refl _))
              rw [e1] at this
              exact this
            have G3 : Hid (∀ p : BelowOf wq, Calls Try.prog 19 #[.int .u64 n0] p.u fun e w' => e = .returned (.agg #[.int .i64 0, .int .u64 n0, .string ⟨#[]⟩, .slice none 0 0]) ∧ Below p.u.heap.size p.u w') := fun p => cnumber_any n0 p.u
            have G4 : Hid (∀ p : BelowOf wq, Calls Try.prog 20 #[.int .u64 n0] p.u fun e w' => e = .returned (.agg #[.int .i64 0, .int .u64 n0, .string ⟨#[]⟩, .slice none 0 0]) ∧ Below p.u.heap.size p.u w') := fun p => rfnumber_any n0 p.u
            have G5 : Hid (∀ p : BelowOf wq, Calls Try.prog 14 #[.agg #[.int .i64 0, .int .u64 n0, .string ⟨#[]⟩, .slice none 0 0], .agg #[.int .i64 0, .int .u64 n0, .string ⟨#[]⟩, .slice none 0 0]] p.u fun e w' => e = .returned (.bool true) ∧ Below p.u.heap.size p.u w') := fun p => by
              have hc : CR p.u (.mk 0 n0 ⟨#[]⟩ []) (cellV 0 n0 ⟨#[]⟩ (.slice none 0 0)) := (CS_flat p.u (fun _ => True) 0 n0 ⟨#[]⟩ (by decide) hn0 (by decide)).cr
              have := same_any _ _ _ _ _ p.u (Nat.lt_succ_self _) hc hc
              rw [(same_iff _ _).mpr rfl] at this
              exact this
            have G6 : Hid (∀ p : BelowOf wq, Calls Try.prog 21 #[.string s0] p.u fun e w' => e = .returned (.agg #[.int .i64 1, .int .u64 0, .string s0, .slice none 0 0]) ∧ Below p.u.heap.size p.u w') := fun p => ctext_any s0 p.u
            have G7 : Hid (∀ p : BelowOf wq, Calls Try.prog 22 #[.string s0] p.u fun e w' => e = .returned (.agg #[.int .i64 1, .int .u64 0, .string s0, .slice none 0 0]) ∧ Below p.u.heap.size p.u w') := fun p => rftext_any s0 p.u
            have G8 : Hid (∀ p : BelowOf wq, Calls Try.prog 14 #[.agg #[.int .i64 1, .int .u64 0, .string s0, .slice none 0 0], .agg #[.int .i64 1, .int .u64 0, .string s0, .slice none 0 0]] p.u fun e w' => e = .returned (.bool true) ∧ Below p.u.heap.size p.u w') := fun p => by
              have hc : CR p.u (.mk 1 0 s0 []) (cellV 1 0 s0 (.slice none 0 0)) := (CS_flat p.u (fun _ => True) 1 0 s0 (by decide) (by decide) hs0).cr
              have := same_any _ _ _ _ _ p.u (Nat.lt_succ_self _) hc hc
              rw [(same_iff _ _).mpr rfl] at this
              exact this
            have G9 : Hid (∀ p : BelowOf wq, Calls Try.prog 9 #[] p.u fun e w' => e = .returned (.bool true) ∧ Below p.u.heap.size p.u w') := fun p => lives_any p.u
            have hInh : Inhabited (BelowOf wq) := ⟨⟨wq, Below.refl _ _⟩⟩
            clear hbq
            go_wp2_with fail
            refine wp_region_below (by kernel_rfl) (by kernel_rfl) ?_
            repeat (quiet_step (fail))
            quiet_step ((go_at_call 18; exact below_of (G1.out _)))
            repeat (quiet_step (fail))
            quiet_step ((go_at_call 14; exact below_of (G2.out _)))
            repeat (quiet_step (fail))
            quiet_step ((go_at_call 19; exact below_of (G3.out _)))
            repeat (quiet_step (fail))
            quiet_step ((go_at_call 20; exact below_of (G4.out _)))
            repeat (quiet_step (fail))
            quiet_step ((go_at_call 14; exact below_of (G5.out _)))
            repeat (quiet_step (fail))
            quiet_step ((go_at_call 21; exact below_of (G6.out _)))
            repeat (quiet_step (fail))
            quiet_step ((go_at_call 22; exact below_of (G7.out _)))
            repeat (quiet_step (fail))
            quiet_step ((go_at_call 14; exact below_of (G8.out _)))
            repeat (quiet_step (fail))
            quiet_step ((go_at_call 9; exact below_of (G9.out _)))
            repeat (quiet_step (fail))
            refine wpQuiet_nil ?_
            intro wv hw'
            obtain ⟨⟨w9, hwq⟩, hw''⟩ := hw'
            subst hw''
            have HQ : Hid (Below W.heap.size W wv) := Below.then HBQ.out hwq
            clear hwq p0 p1 p2 p3
            go_wp2
            go_ret
            exact ⟨rfl, HQ.out⟩

end Go.Proofs.Ytbkjghhghefejaa
