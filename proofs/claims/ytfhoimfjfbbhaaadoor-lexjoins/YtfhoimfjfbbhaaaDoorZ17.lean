/-
  LxWord, LxCatch, LxRow, LxWords, LxLives, LxIn
-/
import Derived.Recover
import Derived.Deep.Light
import Derived.Test.YtfhoimfjfbbhaaaDoorZ16

/-
  Layer 10: the landed reader's word, walked.
-/
namespace Go.Proofs.YtfhoimfjfbbhaaaDoor
set_option maxRecDepth 100000
open Go.RowKit Txt Lx

/-- A token's value as its parts. -/
theorem tokV_eq (k a : Nat) (s : List UInt8) (n : Nat) : tokV k a s n = .agg #[.int .i64 k, .int .i64 a, .string (bs s), .int .u64 n] := rfl

set_option maxHeartbeats 2000000 in
theorem word_any (b a : Nat) (l : List UInt8) (w : World) (h : Rd w b l a) (hs : Sg w) (hl : l.length ≤ 65536) (ha : a < l.length) (hb0 : b ≠ 0) :
    Calls Tryd.prog 15 #[.pointer (some ⟨b, 0, none⟩)] w (Got b l a (wordW (l.drop a)) w) := by
  have hsz := bs_size l
  obtain ⟨r, hr⟩ : ∃ r, r = wordW (l.drop a) := ⟨_, rfl⟩
  rw [← hr]
  have HRR : Hid (r = wordW (l.drop a)) := hr
  clear hr
  obtain ⟨w0, hw0⟩ : ∃ w0, w0 = w.alloc (.cells #[.int .i64 0, .int .i64 0, .string ⟨#[]⟩, .int .u64 0] 31) := ⟨_, rfl⟩
  have HW0 : Hid (w0 = w.alloc (.cells #[.int .i64 0, .int .i64 0, .string ⟨#[]⟩, .int .u64 0] 31)) := hw0
  have hrd0 : Rd w0 b l a := by rw [hw0]; exact h.kept (Below.heap_alloc w _ b h.lt)
  have hs0 : Sg w0 := by rw [hw0]; exact hs.kept hb0 (Kb.alloc b _ _)
  have hlt := h.lt
  have HRd : Hid (Rd w0.drew b l a) := hrd0.drew
  have HSg : Hid (Sg w0.drew) := hs0.kept hb0 (Kb.drew b w0)
  have hc0 := hrd0.c0
  have hc1 := hrd0.c1
  have hg : (bs l)[a]'(by omega) = hb (l.drop a) := by
    rw [bs_get, List.drop_eq_getElem_cons ha]; rfl
  have hlt2 : a < (bs l).size := by omega
  have HG : Hid ((bs l)[a]'hlt2 = hb (l.drop a)) := hg
  have hs2 : (bs l).size ≤ 65536 := by omega
  have HTail : Hid (∀ (d : Wd) (w' : World), Went b l (a + d.len) w0.drew w' → (w'.cell? ⟨w.heap.size, 0, none⟩ = some (.int .i64 0) ∧ w'.cell? ⟨w.heap.size, 1, none⟩ = some (.int .i64 0) ∧ w'.cell? ⟨w.heap.size, 2, none⟩ = some (.string ⟨#[]⟩) ∧ w'.cell? ⟨w.heap.size, 3, none⟩ = some (.int .u64 0) ∧ ∀ i, w'.frozen? ⟨w.heap.size, i, none⟩ = false) ∧
      ∀ w'', Below w.heap.size w' w'' → Went b l (a + d.len) w w'') := by
    intro d w' hw'
    have k0 : Kb b w0 w' := (Kb.drew b w0).trans hw'.1
    rw [hw0] at k0
    exact ⟨made hlt k0, fun w'' hb' => ⟨((Kb.alloc b w _).trans k0).more hb', hw'.2.kept (hb'.block b hlt)⟩⟩
  have HBad : Hid (∀ w', Kb b w0.drew w' → Kb b w w') := by
    intro w' hk
    rw [hw0] at hk
    exact (Kb.alloc b w _).trans ((Kb.drew b _).trans hk)
  clear h hs hrd0 hs0 hg
  go_enter Tryd.func15, Tryd.ntmps15
  go_wp2_with fail
  rw [← hw0]
  clear hw0
  obtain ⟨cc, hcc⟩ : ∃ cc, cc = hb (l.drop a) := ⟨_, rfl⟩
  have HCC : Hid (cc = hb (l.drop a)) := hcc
  have hgc : (bs l)[a]'hlt2 = cc := by rw [hcc]; exact HG.out
  clear hcc HG
  generalize bs l = s at *
  go_upto_region 1 with fail
  go_cut [3] (fun t wc => t = .int .u8 cc.toNat ∧ wc = w0.drew)
  case first =>
    go_region
    go_wp2_with fail
    go_meet
    case rel => exact ⟨by first | rfl | (rw [← hgc]; rfl), rfl⟩
  case rest =>
    obtain ⟨rfl, hwc⟩ := hcut
    rw [← hwc] at HRd HSg HTail HBad
    have hcall := number_any b a l wc HRd.out hl (by omega)
    have hcall2 := name_any b a l wc HRd.out hl (by omega)
    have hcall3 := text_any b a l wc HRd.out hl ha
    have hcall4 := sign_any b a l wc HRd.out HSg.out hl ha hb0
    have hdig := isDigit_any cc wc
    have hnam := isOfName_any cc wc
    clear hc0 hc1 hgc HRd HSg hwc
    have HW : Hid (wordW (l.drop a) = if isD cc = true then numW (l.drop a) else if isN cc = true then nameW (l.drop a) else if cc = 34 then textW (l.drop a) else signW (l.drop a)) := by
      rw [HCC.out]; rfl
    cases c1 : isD cc with
    | true =>
      have hr : numW (l.drop a) = r := by rw [HRR.out, HW.out, if_pos c1]
      rw [hr] at hcall
      rw [c1] at hdig
      clear hr HW HRR hcall2 hcall3 hcall4 hnam HCC c1
      generalize cc.toNat = n at *
      go_wp2_with fail
      refine hdig.mono ?_
      rintro e w1 ⟨rfl, rfl⟩
      go_wp2_with fail
      cases r with
      | inl oe =>
        obtain ⟨o, x⟩ := oe
        refine hcall.mono ?_
        intro e w2 hgot
        obtain ⟨rfl, hk2⟩ : e = fell (a + o) x ∧ Kb b w1 w2 := hgot
        have HK : Hid (Kb b w w2) := HBad.out _ hk2
        clear hk2
        unfold fell
        go_wp2
        exact ⟨rfl, rfl, HK.out⟩
      | inr d =>
        refine hcall.mono ?_
        intro e w2 hgot
        obtain ⟨rfl, hk2⟩ : e = .returned (tokV d.k a d.s d.n) ∧ Went b l (a + d.len) w1 w2 := hgot
        obtain ⟨⟨q0, q1, q2, q3, qz⟩, hQ⟩ := HTail.out d w2 hk2
        have HQ : Hid _ := hQ
        have qz0 := qz 0
        have qz1 := qz 1
        have qz2 := qz 2
        have qz3 := qz 3
        clear hk2 hQ qz
        rw [tokV_eq]
        generalize hg0 : w.heap.size = g0 at *
        go_wp2
        refine bodyPost_ret (v := .agg #[.int .i64 d.k, .int .i64 a, .string (bs d.s), .int .u64 d.n]) (by simp [results, Tryd.results15, go_sem, q0, q1, q2, q3]) rfl ?_
        exact ⟨rfl, HQ.out _ (set4 (Below.refl _ _) (Nat.le_refl _) _ _ _ _)⟩
    | false =>
      cases c2 : isN cc with
      | true =>
        have hr : nameW (l.drop a) = r := by rw [HRR.out, HW.out, if_neg (by rw [c1]; decide), if_pos c2]
        rw [hr] at hcall2
        rw [c1] at hdig
        rw [c2] at hnam
        clear hr HW HRR hcall hcall3 hcall4 HCC c1 c2
        generalize cc.toNat = n at *
        go_wp2_with fail
        refine hdig.mono ?_
        rintro e w1 ⟨rfl, rfl⟩
        go_wp2_with fail
        refine hnam.mono ?_
        rintro e w1 ⟨rfl, rfl⟩
        go_wp2_with fail
        cases r with
        | inl oe =>
          obtain ⟨o, x⟩ := oe
          refine hcall2.mono ?_
          intro e w2 hgot
          obtain ⟨rfl, hk2⟩ : e = fell (a + o) x ∧ Kb b w1 w2 := hgot
          have HK : Hid (Kb b w w2) := HBad.out _ hk2
          clear hk2
          unfold fell
          go_wp2
          exact ⟨rfl, rfl, HK.out⟩
        | inr d =>
          refine hcall2.mono ?_
          intro e w2 hgot
          obtain ⟨rfl, hk2⟩ : e = .returned (tokV d.k a d.s d.n) ∧ Went b l (a + d.len) w1 w2 := hgot
          obtain ⟨⟨q0, q1, q2, q3, qz⟩, hQ⟩ := HTail.out d w2 hk2
          have HQ : Hid _ := hQ
          have qz0 := qz 0
          have qz1 := qz 1
          have qz2 := qz 2
          have qz3 := qz 3
          clear hk2 hQ qz
          rw [tokV_eq]
          generalize hg0 : w.heap.size = g0 at *
          go_wp2
          refine bodyPost_ret (v := .agg #[.int .i64 d.k, .int .i64 a, .string (bs d.s), .int .u64 d.n]) (by simp [results, Tryd.results15, go_sem, q0, q1, q2, q3]) rfl ?_
          exact ⟨rfl, HQ.out _ (set4 (Below.refl _ _) (Nat.le_refl _) _ _ _ _)⟩
      | false =>
        by_cases c3 : cc = 34
        · have hr : textW (l.drop a) = r := by rw [HRR.out, HW.out, if_neg (by rw [c1]; decide), if_neg (by rw [c2]; decide), if_pos c3]
          rw [hr] at hcall3
          rw [c1] at hdig
          rw [c2] at hnam
          have hn : (cc.toNat : Int) = 34 := by rw [c3]; rfl
          rw [hn] at hdig hnam ⊢
          clear hr HW HRR hcall hcall2 hcall4 HCC c1 c2 c3 hn
          go_wp2_with fail
          refine hdig.mono ?_
          rintro e w1 ⟨rfl, rfl⟩
          go_wp2_with fail
          refine hnam.mono ?_
          rintro e w1 ⟨rfl, rfl⟩
          go_wp2_with fail
          cases r with
          | inl oe =>
            obtain ⟨o, x⟩ := oe
            refine hcall3.mono ?_
            intro e w2 hgot
            obtain ⟨rfl, hk2⟩ : e = fell (a + o) x ∧ Kb b w1 w2 := hgot
            have HK : Hid (Kb b w w2) := HBad.out _ hk2
            clear hk2
            unfold fell
            go_wp2
            exact ⟨rfl, rfl, HK.out⟩
          | inr d =>
            refine hcall3.mono ?_
            intro e w2 hgot
            obtain ⟨rfl, hk2⟩ : e = .returned (tokV d.k a d.s d.n) ∧ Went b l (a + d.len) w1 w2 := hgot
            obtain ⟨⟨q0, q1, q2, q3, qz⟩, hQ⟩ := HTail.out d w2 hk2
            have HQ : Hid _ := hQ
            have qz0 := qz 0
            have qz1 := qz 1
            have qz2 := qz 2
            have qz3 := qz 3
            clear hk2 hQ qz
            rw [tokV_eq]
            generalize hg0 : w.heap.size = g0 at *
            go_wp2
            refine bodyPost_ret (v := .agg #[.int .i64 d.k, .int .i64 a, .string (bs d.s), .int .u64 d.n]) (by simp [results, Tryd.results15, go_sem, q0, q1, q2, q3]) rfl ?_
            exact ⟨rfl, HQ.out _ (set4 (Below.refl _ _) (Nat.le_refl _) _ _ _ _)⟩
        · have hr : signW (l.drop a) = r := by rw [HRR.out, HW.out, if_neg (by rw [c1]; decide), if_neg (by rw [c2]; decide), if_neg c3]
          rw [hr] at hcall4
          rw [c1] at hdig
          rw [c2] at hnam
          have hn : ((cc.toNat : Int) == 34) = false := by rw [beq_eq_false_iff_ne]; intro e; exact c3 (u8_int.2 e)
          clear hr HW HRR hcall hcall2 hcall3 HCC c1 c2 c3
          generalize cc.toNat = n at *
          go_wp2_with fail
          refine hdig.mono ?_
          rintro e w1 ⟨rfl, rfl⟩
          go_wp2_with fail
          refine hnam.mono ?_
          rintro e w1 ⟨rfl, rfl⟩
          go_wp2_with fail
          cases r with
          | inl oe =>
            obtain ⟨o, x⟩ := oe
            refine hcall4.mono ?_
            intro e w2 hgot
            obtain ⟨rfl, hk2⟩ : e = fell (a + o) x ∧ Kb b w1 w2 := hgot
            have HK : Hid (Kb b w w2) := HBad.out _ hk2
            clear hk2
            unfold fell
            go_wp2
            exact ⟨rfl, rfl, HK.out⟩
          | inr d =>
            refine hcall4.mono ?_
            intro e w2 hgot
            obtain ⟨rfl, hk2⟩ : e = .returned (tokV d.k a d.s d.n) ∧ Went b l (a + d.len) w1 w2 := hgot
            obtain ⟨⟨q0, q1, q2, q3, qz⟩, hQ⟩ := HTail.out d w2 hk2
            have HQ : Hid _ := hQ
            have qz0 := qz 0
            have qz1 := qz 1
            have qz2 := qz 2
            have qz3 := qz 3
            clear hk2 hQ qz
            rw [tokV_eq]
            generalize hg0 : w.heap.size = g0 at *
            go_wp2
            refine bodyPost_ret (v := .agg #[.int .i64 d.k, .int .i64 a, .string (bs d.s), .int .u64 d.n]) (by simp [results, Tryd.results15, go_sem, q0, q1, q2, q3]) rfl ?_
            exact ⟨rfl, HQ.out _ (set4 (Below.refl _ _) (Nat.le_refl _) _ _ _ _)⟩

end Go.Proofs.YtfhoimfjfbbhaaaDoor

/-
  Layer 10: what Words defers: a fault is told.
-/
namespace Go.Proofs.YtfhoimfjfbbhaaaDoor
set_option maxRecDepth 100000
open Go.RowKit Txt Lx

theorem wcatch_idle (p q s : Addr) (w : World) :
    CallsD Tryd.prog 13 #[.pointer (some p), .pointer (some q), .pointer (some s)] .returning w fun e u' w' => e = .returned (.tuple #[]) ∧ u' = .returning ∧ w' = w := by
  refine callsD_of_wpS Tryd.func13 rfl fun c₀ cs hu => ?_
  apply wpS_seq
  apply wpS_region
  simp [wpOpsS, go_sem, recoverD, hu, Tryd.ntmps13, Exit.thenS]
  refine wpS_of_wp ?_
  go_wp2
  cases c₀
  simp_all [bodyPostS, results, Tryd.results13]

set_option maxHeartbeats 1000000 in
theorem wcatch_up (p q s : Nat) (x y : Int) (u0 u1 u2 : Value) (w : World) (hp : w.cell? ⟨p, 0, none⟩ = some u0) (hpz : w.frozen? ⟨p, 0, none⟩ = false) (hq : w.cell? ⟨q, 0, none⟩ = some u1) (hqz : w.frozen? ⟨q, 0, none⟩ = false)
    (hs : w.cell? ⟨s, 0, none⟩ = some u2) (hsz : w.frozen? ⟨s, 0, none⟩ = false) (hpq : p ≠ q) (hps : p ≠ s) (hqs : q ≠ s) :
    CallsD Tryd.prog 13 #[.pointer (some ⟨p, 0, none⟩), .pointer (some ⟨q, 0, none⟩), .pointer (some ⟨s, 0, none⟩)] (.panicking [{ v := .iface 36 (.agg #[.int .i64 x, .int .i64 y]), recovered := false }]) w fun e u' w' => e = .returned (.tuple #[]) ∧ u' = .panicking [{ v := .iface 36 (.agg #[.int .i64 x, .int .i64 y]), recovered := true }] ∧
      w' = ((((w.setCell ⟨p, 0, none⟩ (.slice none 0 0)).setCell ⟨q, 0, none⟩ (.int .i64 x)).setCell ⟨s, 0, none⟩ (.int .i64 y)).alloc (.cells #[.int .i64 x, .int .i64 y] 36)).drew := by
  have lp : p < w.heap.size := World.block_lt_of_cell? w _ hp
  have lq : q < w.heap.size := World.block_lt_of_cell? w _ hq
  have ls : s < w.heap.size := World.block_lt_of_cell? w _ hs
  have np : p ≠ w.heap.size := by omega
  have nq : q ≠ w.heap.size := by omega
  have ns : s ≠ w.heap.size := by omega
  refine callsD_of_wpS Tryd.func13 rfl fun c₀ cs hu => ?_
  apply wpS_seq
  apply wpS_region
  simp [wpOpsS, go_sem, recoverD, hu, Tryd.ntmps13, Exit.thenS]
  have hta : ∀ w : World, (Instr.typeAssert (Value.iface 36 (.agg #[.int .i64 x, .int .i64 y])) 20 36 false).run Tryd.prog w = .ok (.agg #[.int .i64 x, .int .i64 y]) w := fun _ => by kernel_rfl
  refine wpS_of_wp ?_
  rw [show (#[Value.pointer (some ⟨p, 0, none⟩), Value.pointer (some ⟨q, 0, none⟩), Value.pointer (some ⟨s, 0, none⟩)] ++ ((Array.replicate 11 undef).setIfInBounds 2 (Value.iface 36 (.agg #[.int .i64 x, .int .i64 y]))).setIfInBounds 0 (Value.iface 36 (.agg #[.int .i64 x, .int .i64 y])) : Array Value) = #[.pointer (some ⟨p, 0, none⟩), .pointer (some ⟨q, 0, none⟩), .pointer (some ⟨s, 0, none⟩), .iface 36 (.agg #[.int .i64 x, .int .i64 y]), undef, .iface 36 (.agg #[.int .i64 x, .int .i64 y]), undef, undef, undef, undef, undef, undef, undef, undef] from rfl]
  go_wp2
  · go_region
    show bodyPostS _ _ _ _ _ _ _ _ _
    cases c₀
    simp [bodyPostS, results, Tryd.results13]

end Go.Proofs.YtfhoimfjfbbhaaaDoor

/-
  Layer 10: what Words keeps while it reads: the words so far, in a row of their own.
-/
namespace Go.Proofs.YtfhoimfjfbbhaaaDoor
set_option maxRecDepth 100000
open Go.RowKit Txt Lx

theorem info31 : (Tryd.prog.info? 31).map (fun i => (i.zero, i.size, i.bytes)) = some (some (.agg #[.int .i64 0, .int .i64 0, .string ⟨#[]⟩, .int .u64 0]), 4, 40) := by kernel_rfl
/-- A token's cells. -/
def tk4 (t : Tk) : List Value := [.int .i64 t.k, .int .i64 t.pos, .string (bs t.s), .int .u64 t.n]
def tkC (ts : List Tk) : List Value := ts.flatMap tk4
theorem tkC_snoc (ts : List Tk) (t : Tk) : tkC (ts ++ [t]) = tkC ts ++ tk4 t := by unfold tkC; simp
theorem tkC_length (ts : List Tk) : (tkC ts).length = ts.length * 4 := by
  induction ts with
  | nil => rfl
  | cons t r ih => unfold tkC at *; rw [List.flatMap_cons, List.length_append, ih]; simp [tk4]; omega
/-- The slice v, in a block not below B that is all its own, holds the tokens ts. -/
def TO (w : World) (B : Nat) (v : Value) (ts : List Tk) : Prop := w.ownsRow B 31 4 v ts.length (tkC ts)
theorem TO.keep {w w' : World} {B : Nat} {v : Value} {ts : List Tk} (h : TO w B v ts) (hk : ∀ k, B ≤ k → k < w.heap.size → w'.heap[k]? = w.heap[k]?) : TO w' B v ts := rowKeep h hk

structure Lz (n : Nat) (l : List UInt8) (w wr : World) (i : Nat) (acc : List Tk) (v : Value) : Prop where
  rd : Rd wr (n + 3) l i
  tw : TO wr (n + 4) v acc
  c0 : wr.cell? ⟨n, 0, none⟩ = some v
  f0 : wr.frozen? ⟨n, 0, none⟩ = false
  c1 : wr.cell? ⟨n + 1, 0, none⟩ = some (.int .i64 0)
  f1 : wr.frozen? ⟨n + 1, 0, none⟩ = false
  c2 : wr.cell? ⟨n + 2, 0, none⟩ = some (.int .i64 0)
  f2 : wr.frozen? ⟨n + 2, 0, none⟩ = false
  bl : Below n w wr
  sg : Sg wr
  sz : n + 4 ≤ wr.heap.size
theorem Lz.kb {n : Nat} {l : List UInt8} {w wr w' : World} {i j : Nat} {acc : List Tk} {v : Value} (h : Lz n l w wr i acc v) (hk : Kb (n + 3) wr w') (hr : Rd w' (n + 3) l j) : Lz n l w w' j acc v := by
  have hs := h.sz
  have g : ∀ k, k < n + 3 → w'.heap[k]? = wr.heap[k]? := fun k hk' => hk.block k (by omega) (by omega)
  refine ⟨hr, h.tw.keep (fun k h1 h2 => hk.block k h2 (by omega)), ?_, ?_, ?_, ?_, ?_, ?_, h.bl.trans (hk.below (by omega) (by omega)), h.sg.kept (by omega) hk, Nat.le_trans h.sz hk.size⟩
  · exact (World.cell?_of_block (w := wr) (a := ⟨n, 0, none⟩) (g n (by omega))).trans h.c0
  · exact (World.frozen?_of_block (w := wr) (a := ⟨n, 0, none⟩) (g n (by omega))).trans h.f0
  · exact (World.cell?_of_block (w := wr) (a := ⟨n + 1, 0, none⟩) (g (n + 1) (by omega))).trans h.c1
  · exact (World.frozen?_of_block (w := wr) (a := ⟨n + 1, 0, none⟩) (g (n + 1) (by omega))).trans h.f1
  · exact (World.cell?_of_block (w := wr) (a := ⟨n + 2, 0, none⟩) (g (n + 2) (by omega))).trans h.c2
  · exact (World.frozen?_of_block (w := wr) (a := ⟨n + 2, 0, none⟩) (g (n + 2) (by omega))).trans h.f2
theorem Lz.below {n : Nat} {l : List UInt8} {w wr w' : World} {i : Nat} {acc : List Tk} {v : Value} (h : Lz n l w wr i acc v) (hb : Below wr.heap.size wr w') : Lz n l w w' i acc v :=
  h.kb (Kb.of_below hb) (h.rd.below hb)
/-- What holds of the world behind an append. -/
theorem Lz.laid {n : Nat} {l : List UInt8} {w wr w2 : World} {i g cap : Nat} {acc : List Tk} {v : Value} {t : Tk} (h : Lz n l w wr i acc v) (o : Obj) (hn : n ≠ 0)
    (hown : w2.ownsRow (n + 4) 31 4 (.slice (some ⟨g, 0, none⟩) (acc.length + 1) cap) (acc.length + 1) (tkC acc ++ tk4 t)) (hgrow : (wr.alloc o).grownBy w2 v.ownBlock) :
    TO w2 (n + 4) (.slice (some ⟨g, 0, none⟩) (acc.length + 1) cap) (acc ++ [t]) ∧ Below (n + 4) wr w2 ∧
    Lz n l w (w2.setCell ⟨n, 0, none⟩ (.slice (some ⟨g, 0, none⟩) (acc.length + 1) cap)) i (acc ++ [t]) (.slice (some ⟨g, 0, none⟩) (acc.length + 1) cap) := by
  have hs := h.sz
  have hto : TO w2 (n + 4) (.slice (some ⟨g, 0, none⟩) (acc.length + 1) cap) (acc ++ [t]) := by
    unfold TO
    rw [tkC_snoc, List.length_append]
    exact hown
  have hb : Below (n + 4) wr w2 := ((Below.refl _ wr).alloc hs o).grown hgrow (by simp; omega) (fun k hk => (World.ownsRow.lt h.tw k hk).1)
  refine ⟨hto, hb, ?_⟩
  have e : ∀ k, k < n + 4 → k ≠ n → (w2.setCell ⟨n, 0, none⟩ (.slice (some ⟨g, 0, none⟩) (acc.length + 1) cap)).heap[k]? = wr.heap[k]? := fun k hk hne => by
    rw [heap_setCell_other _ _ _ _ hne]; exact hb.block k hk
  have hc0 : w2.cell? ⟨n, 0, none⟩ = some v := (hb.cell (p := ⟨n, 0, none⟩) (show n < n + 4 by omega)).trans h.c0
  refine ⟨h.rd.kept (e (n + 3) (by omega) (by omega)), hto.keep (fun k h1 _ => heap_setCell_other _ _ _ _ (show k ≠ n by omega)), World.cell?_setCell_same _ _ _ hc0, ?_, ?_, ?_, ?_, ?_, ?_, ⟨?_, ?_⟩, ?_⟩
  · rw [World.frozen?_setCell]; exact (hb.frozen (p := ⟨n, 0, none⟩) (show n < n + 4 by omega)).trans h.f0
  · exact (World.cell?_of_block (w := wr) (a := ⟨n + 1, 0, none⟩) (e (n + 1) (by omega) (by omega))).trans h.c1
  · exact (World.frozen?_of_block (w := wr) (a := ⟨n + 1, 0, none⟩) (e (n + 1) (by omega) (by omega))).trans h.f1
  · exact (World.cell?_of_block (w := wr) (a := ⟨n + 2, 0, none⟩) (e (n + 2) (by omega) (by omega))).trans h.c2
  · exact (World.frozen?_of_block (w := wr) (a := ⟨n + 2, 0, none⟩) (e (n + 2) (by omega) (by omega))).trans h.f2
  · exact h.bl.trans ((hb.mono (show n ≤ n + 4 by omega)).setCell (p := ⟨n, 0, none⟩) (Nat.le_refl _) _)
  · rw [World.size_setCell]; have := hb.size; have := h.sg.1; omega
  · intro r hr
    exact (World.cell?_of_block (w := wr) (a := ⟨0, r, none⟩) (e 0 (by omega) (by omega))).trans (h.sg.2 r hr)
  · rw [World.size_setCell]; have := hb.size; omega

/-- What is left to read, where a word begins or the script ends. -/
def lexM (l : List UInt8) (f i : Nat) (acc : List Tk) : (Nat × Nat) ⊕ List Tk :=
  if i < l.length then
    match wordW (l.drop i) with
    | .inl (o, e) => .inl (i + o, e)
    | .inr d =>
      if acc.length = 16384 then .inl (i, 2)
      else lexL f (i + d.len) (l.drop (i + d.len)) (acc ++ [⟨d.k, i, d.s, d.n⟩])
  else .inr (acc ++ [⟨4, l.length, [], 0⟩])
theorem lexL_M (l : List UInt8) (f off : Nat) (acc : List Tk) (h : off ≤ l.length) : lexL (f + 1) off (l.drop off) acc = lexM l f (off + sk false (l.drop off)) acc := by
  have hk := sk_le (l.drop off) false
  rw [List.length_drop] at hk
  unfold lexM
  rw [show lexL (f + 1) off (l.drop off) acc = (if sk false (l.drop off) < (l.drop off).length then
      match wordW ((l.drop off).drop (sk false (l.drop off))) with
      | .inl (o, e) => .inl (off + sk false (l.drop off) + o, e)
      | .inr d =>
        if acc.length = 16384 then .inl (off + sk false (l.drop off), 2)
        else lexL f (off + sk false (l.drop off) + d.len) ((l.drop off).drop (sk false (l.drop off) + d.len)) (acc ++ [⟨d.k, off + sk false (l.drop off), d.s, d.n⟩])
    else .inr (acc ++ [⟨4, off + (l.drop off).length, [], 0⟩])) from rfl]
  rw [List.drop_drop, List.length_drop]
  by_cases c : off + sk false (l.drop off) < l.length
  · rw [if_pos c, if_pos (by omega)]
    cases wordW (l.drop (off + sk false (l.drop off))) with
    | inl p => rfl
    | inr d => simp only [List.drop_drop, Nat.add_assoc]
  · rw [if_neg c, if_neg (by omega), show off + (l.length - off) = l.length by omega]

/-! How long a word is. -/
theorem cnt_ge_one {p : UInt8 → Bool} {m : List UInt8} (h10 : p 10 = false) (h : p (hb m) = true) : 1 ≤ cnt p m := by
  have := (cnt_pos h10 h).1; omega
theorem dotl_le (m : List UInt8) : dotl m ≤ m.length := by
  unfold dotl
  split
  · next hc =>
    have := cnt_le isD (m.drop 1)
    rw [List.length_drop] at this
    have : 0 < m.length := hb_pos (by rw [hc.1]; decide)
    omega
  · omega
theorem exql_le (m : List UInt8) : exql m ≤ m.length := by
  unfold exql
  split
  · next hc =>
    have := cnt_le isD (m.drop (xpo m))
    have h2 : 0 < (m.drop (xpo m)).length := hb_pos (by intro e; rw [e] at hc; exact absurd hc (by decide))
    rw [List.length_drop] at this h2
    omega
  · omega
theorem numLen_le (m : List UInt8) : numLen m ≤ m.length := by
  unfold numLen
  have h1 := cnt_le isD m
  have h2 := dotl_le (m.drop (cnt isD m))
  have h3 := exql_le (m.drop (cnt isD m + dotl (m.drop (cnt isD m))))
  rw [List.length_drop] at h2 h3
  omega
theorem txt_len : ∀ (m : List UInt8) (p : Nat) (o : Option Nat) (a : List UInt8) (p2 : Nat) (o2 : Option Nat) (a2 : List UInt8), txt m p o a = some (p2, o2, a2) → p + 1 ≤ p2 ∧ p2 ≤ p + m.length := by
  intro m
  induction h : m.length using Nat.strongRecOn generalizing m with
  | ind n ih =>
    intro p o a p2 o2 a2 ht
    by_cases c10 : hb m = 10
    · rw [txt_lf c10] at ht; cases ht
    · have hpos := hb_pos c10
      by_cases c34 : hb m = 34
      · rw [txt_quote hpos c34] at ht
        injection ht with ht; injection ht with ht _
        omega
      · by_cases c92 : hb m = 92
        · cases ce : esc (hb (m.drop 1)) with
          | some e =>
            obtain ⟨k, k2⟩ := txt_esc c92 ce p o a
            rw [k] at ht
            have := ih (m.drop 2).length (by rw [List.length_drop]; omega) (m.drop 2) rfl _ _ _ _ _ _ ht
            rw [List.length_drop] at this
            omega
          | none =>
            rw [txt_bad c92 ce] at ht
            have := ih (m.drop 1).length (by rw [List.length_drop]; omega) (m.drop 1) rfl _ _ _ _ _ _ ht
            rw [List.length_drop] at this
            omega
        · rw [txt_other c34 c10 c92] at ht
          have := ih (m.drop 1).length (by rw [List.length_drop]; omega) (m.drop 1) rfl _ _ _ _ _ _ ht
          rw [List.length_drop] at this
          omega
theorem wordW_len {m : List UInt8} {d : Wd} (h : wordW m = .inr d) (h0 : 0 < m.length) : 1 ≤ d.len ∧ d.len ≤ m.length := by
  unfold wordW at h
  split at h
  · next c =>
    unfold numW at h
    split at h
    · cases h
    · split at h
      · cases h
      · injection h with h
        subst h
        refine ⟨?_, numLen_le m⟩
        have := cnt_ge_one (p := isD) rfl c
        show 1 ≤ numLen m
        unfold numLen; omega
  · split at h
    · next c =>
      unfold nameW at h
      injection h with h
      subst h
      exact ⟨cnt_ge_one (p := isN) rfl c, cnt_le isN m⟩
    · split at h
      · next c =>
        unfold textW at h
        split at h
        · cases h
        · next p o a ht =>
          split at h
          · cases h
          · split at h
            · cases h
            · injection h with h
              subst h
              have := txt_len _ _ _ _ _ _ _ ht
              rw [List.length_drop] at this
              show 1 ≤ p ∧ p ≤ m.length
              omega
      · unfold signW at h
        split at h
        · next s hs =>
          injection h with h
          subst h
          have h1 := List.find?_some hs
          have h2 := List.mem_of_find?_eq_some hs
          refine ⟨?_, (List.isPrefixOf_iff_prefix.1 h1).length_le⟩
          have : ∀ s ∈ signsL, 1 ≤ s.length := by decide
          exact this s h2
        · cases h

end Go.Proofs.YtfhoimfjfbbhaaaDoor

/-
  Layer 10: the landed Words, walked.
-/
namespace Go.Proofs.YtfhoimfjfbbhaaaDoor
set_option maxRecDepth 100000
open Go.RowKit Txt Lx

/-- What Words comes to. -/
def Wrds (R : (Nat × Nat) ⊕ List Tk) (w : World) (e : Ending) (w' : World) : Prop :=
  match R with
  | .inl (p, x) => e = .returned (.tuple #[.slice none 0 0, .int .i64 p, .int .i64 x]) ∧ Below w.heap.size w w'
  | .inr ts => ∃ v, e = .returned (.tuple #[v, .int .i64 0, .int .i64 0]) ∧ TO w' w.heap.size v ts ∧ Below w.heap.size w w'

set_option maxHeartbeats 1000000 in
theorem words_long (l : List UInt8) (w : World) (hl : 65536 < l.length) : Calls Tryd.prog 9 #[.string (bs l)] w (Wrds (.inl (0, 2)) w) := by
  have hsz := bs_size l
  have h1 : (65536 : Int) < ((bs l).size : Int) := by omega
  clear hsz hl
  generalize bs l = s at *
  have HB : Hid (∀ a b c : Value, Below w.heap.size w (((w.alloc (.cells #[a] 24)).alloc (.cells #[b] 3)).alloc (.cells #[c] 25))) := fun a b c => (((Below.refl _ w).alloc (Nat.le_refl _) _).alloc (by simp) _).alloc (by simp; omega) _
  go_enter_defers Tryd.func9, Tryd.ntmps9
  go_wp2
  show ∃ v, _ ∧ _
  refine ⟨.tuple #[.slice none 0 0, .int .i64 0, .int .i64 2], by simp [results, Tryd.results9, go_sem], rfl, HB.out _ _ _⟩

theorem cells_tk (w : World) (a b c d : Value) (t : TypeId) : ∀ j y, [a, b, c, d][j]? = some y → (w.alloc (.cells #[a, b, c, d] t)).cell? (Addr.add ⟨w.heap.size, 0, none⟩ j) = some y := by
  intro j y hy
  rw [Addr.add_mid, World.cell?_alloc_at _ _ _ _ rfl]
  simpa using hy

theorem Lz.six {n : Nat} {l : List UInt8} {w wr w' : World} {i : Nat} {acc : List Tk} {v : Value} (h : Lz n l w wr i acc v) (hk : Kb (n + 3) wr w') :
    w'.cell? ⟨n, 0, none⟩ = some v ∧ w'.frozen? ⟨n, 0, none⟩ = false ∧ w'.cell? ⟨n + 1, 0, none⟩ = some (.int .i64 0) ∧ w'.frozen? ⟨n + 1, 0, none⟩ = false ∧ w'.cell? ⟨n + 2, 0, none⟩ = some (.int .i64 0) ∧ w'.frozen? ⟨n + 2, 0, none⟩ = false ∧ Below n w w' := by
  have hs := h.sz
  have g : ∀ k, k < n + 3 → w'.heap[k]? = wr.heap[k]? := fun k hk' => hk.block k (by omega) (by omega)
  refine ⟨?_, ?_, ?_, ?_, ?_, ?_, h.bl.trans (hk.below (by omega) (by omega))⟩
  · exact (World.cell?_of_block (w := wr) (a := ⟨n, 0, none⟩) (g n (by omega))).trans h.c0
  · exact (World.frozen?_of_block (w := wr) (a := ⟨n, 0, none⟩) (g n (by omega))).trans h.f0
  · exact (World.cell?_of_block (w := wr) (a := ⟨n + 1, 0, none⟩) (g (n + 1) (by omega))).trans h.c1
  · exact (World.frozen?_of_block (w := wr) (a := ⟨n + 1, 0, none⟩) (g (n + 1) (by omega))).trans h.f1
  · exact (World.cell?_of_block (w := wr) (a := ⟨n + 2, 0, none⟩) (g (n + 2) (by omega))).trans h.c2
  · exact (World.frozen?_of_block (w := wr) (a := ⟨n + 2, 0, none⟩) (g (n + 2) (by omega))).trans h.f2
/-- The world behind what is deferred, where a fault was met. -/
def caught (w : World) (n : Nat) (x y : Int) : World :=
  ((((w.setCell ⟨n, 0, none⟩ (.slice none 0 0)).setCell ⟨n + 1, 0, none⟩ (.int .i64 x)).setCell ⟨n + 2, 0, none⟩ (.int .i64 y)).alloc (.cells #[.int .i64 x, .int .i64 y] 36)).drew
theorem caught_below {w w' : World} {n : Nat} {x y : Int} (h : Below n w w') (hn : n ≤ w'.heap.size) : Below n w (caught w' n x y) := by
  unfold caught
  exact ((((h.setCell (p := ⟨n, 0, none⟩) (Nat.le_refl _) _).setCell (p := ⟨n + 1, 0, none⟩) (show n ≤ n + 1 by omega) _).setCell (p := ⟨n + 2, 0, none⟩) (show n ≤ n + 2 by omega) _).alloc (by simp only [World.size_setCell]; exact hn) _).drew

theorem caught_cells {w : World} {n : Nat} {x y : Int} {u0 u1 u2 : Value} (p0 : w.cell? ⟨n, 0, none⟩ = some u0) (p1 : w.cell? ⟨n + 1, 0, none⟩ = some u1) (p2 : w.cell? ⟨n + 2, 0, none⟩ = some u2) :
    (caught w n x y).cell? ⟨n, 0, none⟩ = some (.slice none 0 0) ∧ (caught w n x y).cell? ⟨n + 1, 0, none⟩ = some (.int .i64 x) ∧ (caught w n x y).cell? ⟨n + 2, 0, none⟩ = some (.int .i64 y) := by
  have m0 := World.block_lt_of_cell? w _ p0
  have m1 := World.block_lt_of_cell? w _ p1
  have m2 := World.block_lt_of_cell? w _ p2
  simp only at m0 m1 m2
  unfold caught
  refine ⟨?_, ?_, ?_⟩
  · rw [World.cell?_drew, World.cell?_alloc_lt _ _ _ (by simp only [World.size_setCell]; exact m0), World.cell?_setCell_other _ _ _ _ (by simp), World.cell?_setCell_other _ _ _ _ (by simp)]
    exact World.cell?_setCell_same _ _ _ p0
  · rw [World.cell?_drew, World.cell?_alloc_lt _ _ _ (by simp only [World.size_setCell]; exact m1), World.cell?_setCell_other _ _ _ _ (by simp)]
    exact World.cell?_setCell_same _ _ _ (by rw [World.cell?_setCell_other _ _ _ _ (by simp)]; exact p1)
  · rw [World.cell?_drew, World.cell?_alloc_lt _ _ _ (by simp only [World.size_setCell]; exact m2)]
    exact World.cell?_setCell_same _ _ _ (by rw [World.cell?_setCell_other _ _ _ _ (by simp), World.cell?_setCell_other _ _ _ _ (by simp)]; exact p2)

set_option maxHeartbeats 4000000 in
theorem words_ok (l : List UInt8) (w : World) (hl : l.length ≤ 65536) (hs : Sg w) (R : (Nat × Nat) ⊕ List Tk) (hR : R = lexL (l.length + 1) 0 l []) :
    Calls Tryd.prog 9 #[.string (bs l)] w (Wrds R w) := by
  obtain ⟨i0, hi0, hz0, hz1, hz2⟩ := info_parts info31
  have hmf : ∀ (fn : Fn) (first cap : Array Value) (w : World), (Instr.makeFunc fn first cap).run Tryd.prog w = .ok (.func fn first cap) w := fun _ _ _ _ => rfl
  have hsz := bs_size l
  have hn0 : w.heap.size ≠ 0 := by have := hs.1; omega
  obtain ⟨w4, hw4⟩ : ∃ w4, w4 = ((((w.alloc (.cells #[.slice none 0 0] 24)).alloc (.cells #[.int .i64 0] 3)).alloc (.cells #[.int .i64 0] 25)).alloc (.cells #[.string (bs l), .int .i64 0] 38)) := ⟨_, rfl⟩
  have hs4 : w4.heap.size = w.heap.size + 4 := by rw [hw4]; simp
  have hb4 : Below w.heap.size w w4 := by
    rw [hw4]
    exact ((((Below.refl _ w).alloc (Nat.le_refl _) _).alloc (by simp) _).alloc (by simp; omega) _).alloc (by simp; omega) _
  have hz4 : Lz w.heap.size l w w4 0 [] (.slice none 0 0) := by
    refine ⟨⟨?_, ?_, ?_⟩, World.ownsRow_nil _ _ _ _, ?_, ?_, ?_, ?_, ?_, ?_, hb4, ⟨by omega, fun r hr => (hb4.cell (p := ⟨0, r, none⟩) (show 0 < w.heap.size by omega)).trans (hs.2 r hr)⟩, by omega⟩
    · rw [hw4, World.cell?_alloc_at _ _ _ _ (by simp)]; rfl
    · rw [hw4, World.cell?_alloc_at _ _ _ _ (by simp)]; rfl
    · intro i; rw [hw4, World.frozen?_alloc_at _ _ _ _ (by simp)]
    · rw [hw4, World.cell?_alloc_lt _ _ _ (by simp; omega), World.cell?_alloc_lt _ _ _ (by simp; omega), World.cell?_alloc_lt _ _ _ (by simp), World.cell?_alloc_at _ _ _ _ (by simp)]; rfl
    · rw [hw4, World.frozen?_alloc_past _ _ _ (by simp; omega), World.frozen?_alloc_past _ _ _ (by simp; omega), World.frozen?_alloc_past _ _ _ (by simp), World.frozen?_alloc_at _ _ _ _ (by simp)]
    · rw [hw4, World.cell?_alloc_lt _ _ _ (by simp), World.cell?_alloc_lt _ _ _ (by simp), World.cell?_alloc_at _ _ _ _ (by simp)]; rfl
    · rw [hw4, World.frozen?_alloc_past _ _ _ (by simp), World.frozen?_alloc_past _ _ _ (by simp), World.frozen?_alloc_at _ _ _ _ (by simp)]
    · rw [hw4, World.cell?_alloc_lt _ _ _ (by simp), World.cell?_alloc_at _ _ _ _ (by simp)]; rfl
    · rw [hw4, World.frozen?_alloc_past _ _ _ (by simp), World.frozen?_alloc_at _ _ _ _ (by simp)]
  have hpass := passOver_any (w.heap.size + 3) 0 l w4 hz4.rd hl (Nat.zero_le _)
  have hsk := sk_le (l.drop 0) false
  have HR0 : Hid (lexM l l.length (0 + sk false (l.drop 0)) [] = R) := by
    show _ = R
    rw [hR, ← lexL_M l l.length 0 [] (Nat.zero_le _), List.drop_zero]
  have HZ4 : Hid (Lz w.heap.size l w w4 0 [] (.slice none 0 0)) := hz4
  have hlen : (bs l).size ≤ 65536 := by omega
  have hle2 : ¬ (65536 : Int) < ((bs l).size : Int) := by omega
  clear hR hs hz4 hs4 hb4 hsz
  go_enter_defers Tryd.func9, Tryd.ntmps9
  go_wp2_with fail
  rw [← hw4]
  clear hw4
  refine hpass.mono ?_
  rintro e w5 ⟨rfl, hwent⟩
  have HZ5 : Hid (Lz w.heap.size l w w5 (0 + sk false (l.drop 0)) [] (.slice none 0 0)) := HZ4.out.kb hwent.1 hwent.2
  clear hwent hpass HZ4
  go_wp2_with fail
  simp only [Nat.add_assoc, Nat.reduceAdd]
  go_loopg [6] l.length (fun k _ wr => ∃ (i : Nat) (acc : List Tk) (v : Value), i ≤ l.length ∧ wr.cell? ⟨w.heap.size, 0, none⟩ = some v ∧ wr.frozen? ⟨w.heap.size, 0, none⟩ = false ∧ wr.cell? ⟨w.heap.size + 3, 1, none⟩ = some (.int .i64 i) ∧ acc.length ≤ 16384 ∧
    Hid (Lz w.heap.size l w wr i acc v ∧ lexM l k i acc = R ∧ l.length - i ≤ k))
  case atStart =>
    refine ⟨_, [], .slice none 0 0, ?_, HZ5.out.c0, HZ5.out.f0, HZ5.out.rd.c1, by simp, ⟨HZ5.out, HR0.out, by omega⟩⟩
    rw [List.drop_zero] at hsk
    rw [Nat.zero_add]; exact hsk
  case round =>
    obtain ⟨i, acc, v, hil, hc0, hf0, hci, hac, HI⟩ := hrel
    by_cases c : i < l.length
    · have ci : (i : Int) < ((bs l).size : Int) := by rw [bs_size]; omega
      have hword := word_any (w.heap.size + 3) i l wr HI.out.1.rd HI.out.1.sg hl c (by omega)
      obtain ⟨g, hg⟩ : ∃ g, g = wordW (l.drop i) := ⟨_, rfl⟩
      have HG : Hid (g = wordW (l.drop i)) := hg
      rw [← hg] at hword
      clear hg
      go_wp2_with fail
      refine hword.mono ?_
      intro e w6 hgot
      clear hword
      cases g with
      | inl oe =>
        obtain ⟨o, x⟩ := oe
        obtain ⟨rfl, hk6⟩ : e = fell (i + o) x ∧ Kb (w.heap.size + 3) wr w6 := hgot
        obtain ⟨p0, z0, p1, z1, p2, z2, hb6⟩ := HI.out.1.six hk6
        have hR : R = .inl (i + o, x) := by
          rw [← HI.out.2.1]
          unfold lexM
          rw [if_pos c, ← HG.out]
        have hsz6 : w.heap.size ≤ w6.heap.size := by have := HI.out.1.sz; have := hk6.size; omega
        have HP : Hid (Wrds R w (.returned (.tuple #[.slice none 0 0, .int .i64 ((i + o : Nat) : Int), .int .i64 (x : Int)])) (caught w6 w.heap.size ((i + o : Nat) : Int) (x : Int))) := by
          rw [hR]; exact ⟨rfl, caught_below hb6 hsz6⟩
        have hcatch := wcatch_up w.heap.size (w.heap.size + 1) (w.heap.size + 2) ((i + o : Nat) : Int) (x : Int) _ _ _ w6 p0 z0 p1 z1 p2 z2 (by omega) (by omega) (by omega)
        clear HI HG hk6 hb6 hR hsz6 HR0 HZ5 hc0 hf0 hci
        unfold fell
        generalize ((i + o : Nat) : Int) = io at *
        generalize w.heap.size = n at *
        go_wp2
        refine leaves_cons (f := 13) (args := #[.pointer (some ⟨n, 0, none⟩), .pointer (some ⟨n + 1, 0, none⟩), .pointer (some ⟨n + 2, 0, none⟩)]) (by simp) (by simp [go_sem]) ?_
        refine hcatch.mono ?_
        rintro e u' w7 ⟨rfl, rfl, hw7⟩
        have hw7' : w7 = caught w6 n io (x : Int) := hw7
        obtain ⟨r0, r1, r2⟩ := caught_cells (x := io) (y := (x : Int)) p0 p1 p2
        rw [← hw7'] at HP r0 r1 r2
        clear hw7 hw7' hcatch
        simp [Leaves, settle, results, Tryd.results9, go_sem, r0, r1, r2]
        exact HP.out
      | inr d =>
        obtain ⟨rfl, hk6⟩ : e = .returned (tokV d.k i d.s d.n) ∧ Went (w.heap.size + 3) l (i + d.len) wr w6 := hgot
        rw [tokV_eq]
        have hwl := wordW_len HG.out.symm (by rw [List.length_drop]; omega)
        rw [List.length_drop] at hwl
        obtain ⟨w7, hw7⟩ : ∃ w7, w7 = w6.alloc (.cells #[.int .i64 (d.k : Int), .int .i64 (i : Int), .string (bs d.s), .int .u64 (d.n : Int)] 31) := ⟨_, rfl⟩
        have hz7 : Lz w.heap.size l w w7 (i + d.len) acc v := by
          rw [hw7]
          exact (HI.out.1.kb hk6.1 hk6.2).below ((Below.refl _ _).alloc (Nat.le_refl _) _)
        have HW7 : Hid (w7 = w6.alloc (.cells #[.int .i64 (d.k : Int), .int .i64 (i : Int), .string (bs d.s), .int .u64 (d.n : Int)] 31)) := hw7
        obtain ⟨av, cv, rfl⟩ := rowShape hz7.tw
        have hcell0 := hz7.c0
        have hfz0 := hz7.f0
        have t0 : w7.cell? ⟨w6.heap.size, 0, none⟩ = some (.int .i64 (d.k : Int)) := by rw [hw7, World.cell?_alloc_at _ _ _ _ rfl]; rfl
        have t1 : w7.cell? ⟨w6.heap.size, 1, none⟩ = some (.int .i64 (i : Int)) := by rw [hw7, World.cell?_alloc_at _ _ _ _ rfl]; rfl
        have t2 : w7.cell? ⟨w6.heap.size, 2, none⟩ = some (.string (bs d.s)) := by rw [hw7, World.cell?_alloc_at _ _ _ _ rfl]; rfl
        have t3 : w7.cell? ⟨w6.heap.size, 3, none⟩ = some (.int .u64 (d.n : Int)) := by rw [hw7, World.cell?_alloc_at _ _ _ _ rfl]; rfl
        have HZ7 : Hid (Lz w.heap.size l w w7 (i + d.len) acc (.slice av acc.length cv)) := hz7
        clear hz7 hk6 hc0 hf0 hci HR0 HZ5
        go_upto_region 9 with fail
        rw [← hw7]
        clear hw7
        by_cases c16 : acc.length = 16384
        · have hR : R = .inl (i, 2) := by
            rw [← HI.out.2.1]
            unfold lexM
            rw [if_pos c, ← HG.out]
            exact if_pos c16
          obtain ⟨p0, z0, p1, z1, p2, z2, hb7⟩ := HZ7.out.six (Kb.refl _ _)
          have hsz7 : w.heap.size ≤ w7.heap.size := by have := HZ7.out.sz; omega
          have HP : Hid (Wrds R w (.returned (.tuple #[.slice none 0 0, .int .i64 (i : Int), .int .i64 2])) (caught w7 w.heap.size (i : Int) 2)) := by
            rw [hR]; exact ⟨rfl, caught_below hb7 hsz7⟩
          have hcatch := wcatch_up w.heap.size (w.heap.size + 1) (w.heap.size + 2) (i : Int) 2 _ _ _ w7 p0 z0 p1 z1 p2 z2 (by omega) (by omega) (by omega)
          have c16i : (acc.length : Int) = 16384 := by omega
          clear HI HG hb7 hR hsz7 HZ7 HW7 c16 hwl
          generalize acc.length = al at *
          subst_vars
          generalize w.heap.size = n at *
          go_wp2
          refine leaves_cons (f := 13) (args := #[.pointer (some ⟨n, 0, none⟩), .pointer (some ⟨n + 1, 0, none⟩), .pointer (some ⟨n + 2, 0, none⟩)]) (by simp) (by simp [go_sem]) ?_
          refine hcatch.mono ?_
          rintro e u' w8 ⟨rfl, rfl, hw8⟩
          have hw8' : w8 = caught w7 n (i : Int) 2 := hw8
          obtain ⟨r0, r1, r2⟩ := caught_cells (x := (i : Int)) (y := 2) p0 p1 p2
          rw [← hw8'] at HP r0 r1 r2
          clear hw8 hw8' hcatch
          simp [Leaves, settle, results, Tryd.results9, go_sem, r0, r1, r2]
          exact HP.out
        · have c16i : ((acc.length : Int) == 16384) = false := by rw [beq_eq_false_iff_ne]; omega
          have hal : acc.length < 16384 := by omega
          have hown : (w7.alloc (.cells #[.int .i64 (d.k : Int), .int .i64 (i : Int), .string (bs d.s), .int .u64 (d.n : Int)] 31)).ownsRow (w.heap.size + 4) 31 4 (.slice av acc.length cv) acc.length (tkC acc) := World.ownsRow.alloc HZ7.out.tw _
          have hsz7 := HZ7.out.sz
          obtain ⟨f, hf⟩ : ∃ f, gk = f + 1 := ⟨gk - 1, by have := HI.out.2.2; omega⟩
          have HNX : Hid (f < gk ∧ lexM l f (i + d.len + sk false (l.drop (i + d.len))) (acc ++ [⟨d.k, i, d.s, d.n⟩]) = R ∧ l.length - (i + d.len + sk false (l.drop (i + d.len))) ≤ f) := by
            refine ⟨by omega, ?_, by have := HI.out.2.2; omega⟩
            have e := HI.out.2.1
            rw [hf] at e
            unfold lexM at e
            rw [if_pos c, ← HG.out] at e
            simp only at e
            rw [if_neg c16, lexL_M _ _ _ _ (by omega)] at e
            exact e
          have hsk2 := sk_le (l.drop (i + d.len)) false
          rw [List.length_drop] at hsk2
          generalize hbs : bs d.s = S at *
          have HBS : Hid (bs d.s = S) := hbs
          clear HI HG HW7 hf hbs
          go_wp2_with (at_builtin; refine wpList_append_lies _ rfl _ _ 24 rfl (w.heap.size + 4) 31 i0 _ 4 40 Tryd.underlying24 hi0 hz0 hz1 hz2 rfl (by decide) _ acc.length (tkC acc) rfl hown ⟨w7.heap.size, 0, none⟩ 1 1 [.int .i64 (d.k : Int), .int .i64 (i : Int), .string S, .int .u64 (d.n : Int)] rfl rfl (cells_tk _ _ _ _ _ _) (by intro u hu; simp at hu; rcases hu with rfl | rfl | rfl | rfl <;> rfl) (by decide) (by unfold maxLen; omega) (by omega) (by simp; omega) _ rfl ?_)
          intro g2 cap2 w8 hown8 hgrow8 _ _
          rw [← HBS.out] at hown8 hgrow8
          obtain ⟨_, hb8, hz9⟩ := HZ7.out.laid (t := ⟨d.k, i, d.s, d.n⟩) _ hn0 hown8 hgrow8
          have hc8 : w8.cell? ⟨w.heap.size, 0, none⟩ = some (.slice av acc.length cv) := (hb8.cell (p := ⟨w.heap.size, 0, none⟩) (show w.heap.size < w.heap.size + 4 by omega)).trans HZ7.out.c0
          have hf8 : w8.frozen? ⟨w.heap.size, 0, none⟩ = false := (hb8.frozen (p := ⟨w.heap.size, 0, none⟩) (show w.heap.size < w.heap.size + 4 by omega)).trans HZ7.out.f0
          have hpass := passOver_any (w.heap.size + 3) (i + d.len) l _ hz9.rd hl (by omega)
          have HQ : Hid (∀ w10, Went (w.heap.size + 3) l (i + d.len + sk false (l.drop (i + d.len))) (w8.setCell ⟨w.heap.size, 0, none⟩ (.slice (some ⟨g2, 0, none⟩) (acc.length + 1) cap2)) w10 → Lz w.heap.size l w w10 (i + d.len + sk false (l.drop (i + d.len))) (acc ++ [⟨d.k, i, d.s, d.n⟩]) (.slice (some ⟨g2, 0, none⟩) (acc.length + 1) cap2)) := fun w10 hw => hz9.kb hw.1 hw.2
          clear hown8 hgrow8 hb8 hz9 HZ7 hown t0 t1 t2 t3 hcell0 hfz0
          go_wp2_with fail
          refine hpass.mono ?_
          rintro e w10 ⟨rfl, hw10⟩
          have hz10 := HQ.out w10 hw10
          have d0 := hz10.c0
          have d1 := hz10.f0
          have d2 := hz10.rd.c1
          have HZ10 : Hid _ := hz10
          clear hz10 hw10 hpass HQ
          go_wp2_with fail
          go_roundg f
          case measure => exact HNX.out.1
          case rel => exact ⟨_, _, _, by omega, d0, d1, d2, by rw [List.length_append, List.length_singleton]; omega, ⟨HZ10.out, HNX.out.2⟩⟩
    · have ci : ¬ (i : Int) < ((bs l).size : Int) := by rw [bs_size]; omega
      have hR : R = .inr (acc ++ [⟨4, l.length, [], 0⟩]) := by
        rw [← HI.out.2.1]
        unfold lexM
        rw [if_neg c]
      obtain ⟨av, cv, rfl⟩ := rowShape HI.out.1.tw
      have HZ : Hid (Lz w.heap.size l w wr i acc (.slice av acc.length cv)) := HI.out.1
      have hszr := HZ.out.sz
      have hown : (wr.alloc (.cells #[.int .i64 4, .int .i64 ((bs l).size : Int), .string ⟨#[]⟩, .int .u64 0] 31)).ownsRow (w.heap.size + 4) 31 4 (.slice av acc.length cv) acc.length (tkC acc) := World.ownsRow.alloc HZ.out.tw _
      have HRR : Hid (R = .inr (acc ++ [⟨4, l.length, [], 0⟩])) := hR
      clear HI hR HR0 HZ5
      go_wp2_with (at_builtin; refine wpList_append_lies _ rfl _ _ 24 rfl (w.heap.size + 4) 31 i0 _ 4 40 Tryd.underlying24 hi0 hz0 hz1 hz2 rfl (by decide) _ acc.length (tkC acc) rfl hown ⟨wr.heap.size, 0, none⟩ 1 1 [.int .i64 4, .int .i64 ((bs l).size : Int), .string ⟨#[]⟩, .int .u64 0] rfl rfl (cells_tk _ _ _ _ _ _) (by intro u hu; simp at hu; rcases hu with rfl | rfl | rfl | rfl <;> rfl) (by decide) (by unfold maxLen; omega) (by omega) (by simp; omega) _ rfl ?_)
      intro g2 cap2 w8 hown8 hgrow8 _ _
      obtain ⟨htw, hb8, hz9⟩ := HZ.out.laid (t := ⟨4, l.length, [], 0⟩) _ hn0 (by rw [bs_size] at hown8; exact hown8) hgrow8
      have p0 : w8.cell? ⟨w.heap.size, 0, none⟩ = some (.slice av acc.length cv) := (hb8.cell (p := ⟨w.heap.size, 0, none⟩) (show w.heap.size < w.heap.size + 4 by omega)).trans HZ.out.c0
      have z0 : w8.frozen? ⟨w.heap.size, 0, none⟩ = false := (hb8.frozen (p := ⟨w.heap.size, 0, none⟩) (show w.heap.size < w.heap.size + 4 by omega)).trans HZ.out.f0
      have p1 : w8.cell? ⟨w.heap.size + 1, 0, none⟩ = some (.int .i64 0) := (hb8.cell (p := ⟨w.heap.size + 1, 0, none⟩) (show w.heap.size + 1 < w.heap.size + 4 by omega)).trans HZ.out.c1
      have z1 : w8.frozen? ⟨w.heap.size + 1, 0, none⟩ = false := (hb8.frozen (p := ⟨w.heap.size + 1, 0, none⟩) (show w.heap.size + 1 < w.heap.size + 4 by omega)).trans HZ.out.f1
      have p2 : w8.cell? ⟨w.heap.size + 2, 0, none⟩ = some (.int .i64 0) := (hb8.cell (p := ⟨w.heap.size + 2, 0, none⟩) (show w.heap.size + 2 < w.heap.size + 4 by omega)).trans HZ.out.c2
      have z2 : w8.frozen? ⟨w.heap.size + 2, 0, none⟩ = false := (hb8.frozen (p := ⟨w.heap.size + 2, 0, none⟩) (show w.heap.size + 2 < w.heap.size + 4 by omega)).trans HZ.out.f2
      have HP : Hid (Wrds R w (.returned (.tuple #[.slice (some ⟨g2, 0, none⟩) (acc.length + 1) cap2, .int .i64 0, .int .i64 0])) (((w8.setCell ⟨w.heap.size, 0, none⟩ (.slice (some ⟨g2, 0, none⟩) (acc.length + 1) cap2)).setCell ⟨w.heap.size + 1, 0, none⟩ (.int .i64 0)).setCell ⟨w.heap.size + 2, 0, none⟩ (.int .i64 0))) := by
        rw [HRR.out]
        refine ⟨_, rfl, ?_, ((hz9.bl.setCell (p := ⟨w.heap.size + 1, 0, none⟩) (show w.heap.size ≤ w.heap.size + 1 by omega) _).setCell (p := ⟨w.heap.size + 2, 0, none⟩) (show w.heap.size ≤ w.heap.size + 2 by omega) _)⟩
        have k := hz9.tw.keep (w' := (((w8.setCell ⟨w.heap.size, 0, none⟩ (.slice (some ⟨g2, 0, none⟩) (acc.length + 1) cap2)).setCell ⟨w.heap.size + 1, 0, none⟩ (.int .i64 0)).setCell ⟨w.heap.size + 2, 0, none⟩ (.int .i64 0))) (fun k h1 _ => by
          rw [heap_setCell_other _ _ _ _ (show k ≠ w.heap.size + 2 by omega), heap_setCell_other _ _ _ _ (show k ≠ w.heap.size + 1 by omega)])
        refine ⟨k.1, ?_⟩
        rcases k.2 with k2 | ⟨g, cap, cur, e1, e2, rest⟩
        · exact Or.inl k2
        · exact Or.inr ⟨g, cap, cur, e1, by omega, rest⟩
      clear hown8 hgrow8 htw hb8 hz9 HZ hown hc0 hf0 hci hszr HRR
      generalize acc.length + 1 = al at *
      generalize w.heap.size = n at *
      go_wp2
      refine leaves_cons (f := 13) (args := #[.pointer (some ⟨n, 0, none⟩), .pointer (some ⟨n + 1, 0, none⟩), .pointer (some ⟨n + 2, 0, none⟩)]) (by simp) (by simp [go_sem]) ?_
      refine (wcatch_idle ⟨n, 0, none⟩ ⟨n + 1, 0, none⟩ ⟨n + 2, 0, none⟩ _).mono ?_
      rintro e u' w9 ⟨rfl, rfl, rfl⟩
      simp [Leaves, settle, results, Tryd.results9, go_sem, p0, p1, p2]
      exact HP.out

theorem words_any (l : List UInt8) (w : World) (hs : Sg w) (R : (Nat × Nat) ⊕ List Tk) (hR : R = wordsF l) : Calls Tryd.prog 9 #[.string (bs l)] w (Wrds R w) := by
  unfold wordsF at hR
  by_cases c : 65536 < l.length
  · rw [if_pos c] at hR
    subst hR
    exact words_long l w c
  · rw [if_neg c] at hR
    exact words_ok l w (by omega) hs R hR

end Go.Proofs.YtfhoimfjfbbhaaaDoor

/-
  Layer 10: tokens in memory; the law's lives.
-/
namespace Go.Proofs.YtfhoimfjfbbhaaaDoor
set_option maxRecDepth 100000
open Go.RowKit Txt Lx

theorem tkC_at : ∀ (ts : List Tk) (i j : Nat) (t : Tk), ts[i]? = some t → j < 4 → (tkC ts)[i * 4 + j]? = (tk4 t)[j]? := by
  intro ts
  induction ts with
  | nil => intro i j t h; simp at h
  | cons a r ih =>
    intro i j t h hj
    have e : tkC (a :: r) = tk4 a ++ tkC r := by unfold tkC; rw [List.flatMap_cons]
    have l4 : (tk4 a).length = 4 := rfl
    rw [e]
    cases i with
    | zero =>
      simp at h
      subst h
      rw [Nat.zero_mul, Nat.zero_add, List.getElem?_append_left (by omega)]
    | succ i =>
      rw [List.getElem?_append_right (by omega), l4, show (i + 1) * 4 + j - 4 = i * 4 + j by omega]
      exact ih i j t (by simpa using h) hj
theorem TO.shape {w : World} {B : Nat} {v : Value} {ts : List Tk} (h : TO w B v ts) (h0 : 0 < ts.length) : ∃ g cap, v = .slice (some ⟨g, 0, none⟩) ts.length cap ∧ B ≤ g ∧ g < w.heap.size := by
  rcases id h.2 with ⟨_, e⟩ | ⟨g, cap, cur, rfl, hb, hg, _⟩
  · omega
  · refine ⟨g, cap, rfl, hb, ?_⟩
    rcases Nat.lt_or_ge g w.heap.size with c | c
    · exact c
    · rw [Array.getElem?_eq_none c] at hg; cases hg
/-- The i-th token's cells. -/
structure Tc (w : World) (g i : Nat) (t : Tk) : Prop where
  k : w.cell? ⟨g, i * 4, none⟩ = some (.int .i64 t.k)
  p : w.cell? ⟨g, i * 4 + 1, none⟩ = some (.int .i64 t.pos)
  s : w.cell? ⟨g, i * 4 + 2, none⟩ = some (.string (bs t.s))
  n : w.cell? ⟨g, i * 4 + 3, none⟩ = some (.int .u64 t.n)
theorem TO.tc {w : World} {B g n cap : Nat} {ts : List Tk} (h : TO w B (.slice (some ⟨g, 0, none⟩) n cap) ts) {i : Nat} {t : Tk} (hi : ts[i]? = some t) : Tc w g i t := by
  have f : ∀ j y, (tk4 t)[j]? = some y → w.cell? ⟨g, i * 4 + j, none⟩ = some y := by
    intro j y hy
    have hj : j < 4 := by
      obtain ⟨hl, _⟩ := List.getElem?_eq_some_iff.1 hy
      exact hl
    have := World.ownsRow.cells h (g := g) rfl (i * 4 + j) y (by rw [tkC_at ts i j t hi hj]; exact hy)
    rw [Addr.add_mid, Nat.zero_add] at this
    exact this
  exact ⟨f 0 _ rfl, f 1 _ rfl, f 2 _ rfl, f 3 _ rfl⟩
theorem TO.below {w w' : World} {B : Nat} {v : Value} {ts : List Tk} (h : TO w B v ts) (hb : Below w.heap.size w w') : TO w' B v ts := h.keep (fun k _ hk => hb.block k hk)

theorem near_15x : nearR 15 10 = 4609434218613702656 := by
  rw [← near_bits (A := 15) (B := 10) (k := 53) (by decide) (by decide) (by decide +kernel)]
  decide +kernel
theorem parse_15x : parseW [49, 46, 53] = (4609434218613702656, 0) := by
  rw [parseW_some (by decide) (show Txt.numL [49, 46, 53] = some ([49, 53], -1) by decide +kernel)]
  have e0 : Txt.dv [49, 53] 0 = 15 := by decide
  have e : decN 15 (-1) = nearR 15 10 := by unfold decN; rw [if_neg (by decide), show (-(-1 : Int)).toNat = 1 from rfl, Nat.pow_one]
  rw [e0, e, near_15x]
theorem lexL_word {f off : Nat} {m : List UInt8} {acc : List Tk} {d : Wd} (h0 : sk false m = 0) (hm : 0 < m.length) (hw : wordW m = .inr d) (ha : acc.length ≠ 16384) :
    lexL (f + 1) off m acc = lexL f (off + d.len) (m.drop d.len) (acc ++ [⟨d.k, off, d.s, d.n⟩]) := by
  have e : lexL (f + 1) off m acc = (if sk false m < m.length then
      match wordW (m.drop (sk false m)) with
      | .inl (o, e) => .inl (off + sk false m + o, e)
      | .inr d =>
        if acc.length = 16384 then .inl (off + sk false m, 2)
        else lexL f (off + sk false m + d.len) (m.drop (sk false m + d.len)) (acc ++ [⟨d.k, off + sk false m, d.s, d.n⟩])
    else .inr (acc ++ [⟨4, off + m.length, [], 0⟩])) := rfl
  rw [e, h0, if_pos hm, List.drop_zero, hw]
  simp only [Nat.add_zero, Nat.zero_add]
  rw [if_neg ha]
def liveT : List Tk := [⟨0, 0, [97], 0⟩, ⟨1, 1, [46], 0⟩, ⟨0, 2, [98], 0⟩, ⟨1, 3, [46, 46], 0⟩, ⟨2, 5, [], 4609434218613702656⟩, ⟨4, 8, [], 0⟩]
theorem lives_words : wordsF [97, 46, 98, 46, 46, 49, 46, 53] = .inr liveT := by
  unfold wordsF
  rw [if_neg (by decide)]
  have w5 : wordW [49, 46, 53] = .inr ⟨2, 3, [], 4609434218613702656⟩ := by
    have e : numLen [49, 46, 53] = 3 := by decide
    unfold wordW
    rw [if_pos (by decide)]
    unfold numW
    rw [e, show List.take 3 [49, 46, 53] = ([49, 46, 53] : List UInt8) from rfl, parse_15x]
    rfl
  show lexL 9 0 [97, 46, 98, 46, 46, 49, 46, 53] [] = _
  rw [lexL_word (d := ⟨0, 1, [97], 0⟩) (by decide) (by decide) (by rfl) (by decide)]
  show lexL 8 1 [46, 98, 46, 46, 49, 46, 53] _ = _
  rw [lexL_word (d := ⟨1, 1, [46], 0⟩) (by decide) (by decide) (by rfl) (by decide)]
  show lexL 7 2 [98, 46, 46, 49, 46, 53] _ = _
  rw [lexL_word (d := ⟨0, 1, [98], 0⟩) (by decide) (by decide) (by rfl) (by decide)]
  show lexL 6 3 [46, 46, 49, 46, 53] _ = _
  rw [lexL_word (d := ⟨1, 2, [46, 46], 0⟩) (by decide) (by decide) (by rfl) (by decide)]
  show lexL 5 5 [49, 46, 53] _ = _
  rw [lexL_word (d := ⟨2, 3, [], 4609434218613702656⟩) (by decide) (by decide) w5 (by decide)]
  rfl

set_option maxHeartbeats 1000000 in
theorem lxlives_any (w : World) (hs : Sg w) : Calls Tryd.prog 8 #[] w fun e w' => e = .returned (.bool true) ∧ Below w.heap.size w w' := by
  have hwords := words_any [97, 46, 98, 46, 46, 49, 46, 53] w hs _ lives_words.symm
  rw [show bs [97, 46, 98, 46, 46, 49, 46, 53] = ⟨#[97, 46, 98, 46, 46, 49, 46, 53]⟩ from rfl] at hwords
  have HK : Hid (∀ w, Calls Tryd.prog 6 #[.string ⟨#[119, 104, 105, 108, 101]⟩] w fun e w' => e = .returned (.bool true) ∧ w' = w) := fun w => keyw_any [119, 104, 105, 108, 101] w
  go_enter Tryd.func8, Tryd.ntmps8
  go_wp2_with fail
  refine hwords.mono ?_
  rintro e w1 ⟨v, rfl, hto, hb⟩
  obtain ⟨g, cap, rfl, _, _⟩ := hto.shape (by decide)
  have t3 := hto.tc (i := 3) (t := ⟨1, 3, [46, 46], 0⟩) rfl
  have t4 := hto.tc (i := 4) (t := ⟨2, 5, [], 4609434218613702656⟩) rfl
  have c1 : w1.cell? ⟨g, 14, none⟩ = some (.string ⟨#[46, 46]⟩) := t3.s
  have c2 : w1.cell? ⟨g, 19, none⟩ = some (.int .u64 4609434218613702656) := t4.n
  have HB : Hid (Below w.heap.size w w1) := hb
  rw [show liveT.length = 6 from rfl]
  clear hto t3 t4 hb hwords
  go_wp2_with fail
  refine (HK.out _).mono ?_
  rintro e w2 ⟨rfl, rfl⟩
  go_wp2
  go_ret
  exact ⟨rfl, HB.out⟩

end Go.Proofs.YtfhoimfjfbbhaaaDoor

/-
  Layer 10: the reference's Key, walked.
-/
namespace Go.Proofs.YtfhoimfjfbbhaaaDoor
set_option maxRecDepth 100000
open Go.RowKit Txt Lx

/-- A list of words, a blank between: the one under way, what is left. -/
def pt : List UInt8 → List UInt8 → List (List UInt8)
  | cur, [] => [cur]
  | cur, c :: r => if c = 32 then cur :: pt [] r else pt (cur ++ [c]) r

theorem pt_drop {l : List UInt8} {i : Nat} (h : i < l.length) (cur : List UInt8) : pt cur (l.drop i) = if l[i] = 32 then cur :: pt [] (l.drop (i + 1)) else pt (cur ++ [l[i]]) (l.drop (i + 1)) := by
  rw [List.drop_eq_getElem_cons h]; rfl
theorem cur_next {l : List UInt8} {i fr : Nat} (h : i < l.length) (hf : fr ≤ i) : (l.drop fr).take (i + 1 - fr) = (l.drop fr).take (i - fr) ++ [l[i]] := by
  rw [show i + 1 - fr = (i - fr) + 1 by omega, List.take_add_one, List.getElem?_drop, show fr + (i - fr) = i by omega, List.getElem?_eq_getElem h]
  rfl

set_option maxHeartbeats 1000000 in
theorem in_any (s l : List UInt8) (w : World) (hl : l.length ≤ 1000) (R : Bool) (hR : R = (pt [] l).contains s) :
    Calls Tryd.prog 12 #[.string (bs s), .string (bs l)] w fun e w' => e = .returned (.bool R) ∧ w' = w := by
  have hsz := bs_size l
  have HR : Hid (R = (pt [] l).contains s) := hR
  have HG : Hid (∀ k (h : k < (bs l).size) (h2 : k < l.length), (bs l)[k]'h = l[k]'h2) := fun k h _ => bs_get l k h
  have HX : Hid (∀ a b, (((bs l).extract a b).toList == (bs s).toList) = ((l.drop a).take (b - a) == s)) := fun a b => by rw [bs_extract, bs_toList, bs_toList]
  clear hR
  generalize bs l = L at *
  generalize bs s = S at *
  go_enter Tryd.func12, Tryd.ntmps12
  go_wp2_with fail
  go_loopg [5, 6] (l.length + 1) (fun k t5 t6 wr => ∃ fr i : Nat, t5 = .int .i64 fr ∧ t6 = .int .i64 i ∧ fr ≤ i ∧ i ≤ l.length + 1 ∧ (i ≤ l.length ∨ R = false) ∧ wr = w ∧ Hid (k = l.length + 1 - i ∧ (i ≤ l.length → R = (pt ((l.drop fr).take (i - fr)) (l.drop i)).contains s)))
  case atStart => exact ⟨0, 0, rfl, rfl, Nat.le_refl _, by omega, Or.inl (by omega), rfl, ⟨by omega, fun _ => by simpa using HR.out⟩⟩
  case round =>
    obtain ⟨fr, i, rfl, rfl, hfi, hil, hor, rfl, HI⟩ := hrel
    by_cases c : i ≤ l.length
    · have hI := HI.out.2 c
      have hk := HI.out.1
      have ci : (i : Int) ≤ (L.size : Int) := by omega
      have hcmp := HX.out fr i
      by_cases ce : i = l.length
      · have ei : ((i : Int) == (L.size : Int)) = true := by rw [beq_iff_eq]; omega
        have hd : l.drop i = [] := List.drop_eq_nil_of_le (by omega)
        rw [hd] at hI
        have hpt : (pt ((l.drop fr).take (i - fr)) []).contains s = ((l.drop fr).take (i - fr) == s) := by
          show ((s == _) || false) = _
          rw [Bool.or_false, Bool.eq_iff_iff, beq_iff_eq, beq_iff_eq]; exact eq_comm
        rw [hpt] at hI
        clear hd hpt
        subst ce
        cases cc : ((l.drop fr).take (l.length - fr) == s) with
        | true =>
          have hr : R = true := hI.trans cc
          rw [cc] at hcmp
          subst hr
          clear HI hI hor
          go_wp2
          go_ret
          exact ⟨rfl, rfl⟩
        | false =>
          have hr : R = false := hI.trans cc
          rw [cc] at hcmp
          clear HI hI hor
          go_wp2_with fail
          go_roundg (l.length + 1 - (l.length + 1))
          case measure => omega
          case rel => exact ⟨l.length + 1, l.length + 1, by go_num, by go_num, Nat.le_refl _, by omega, Or.inr hr, rfl, ⟨rfl, fun h => by omega⟩⟩
      · have cl : i < l.length := by omega
        have ei : ((i : Int) == (L.size : Int)) = false := by rw [beq_eq_false_iff_ne]; omega
        have cL : i < L.size := by omega
        have hg := HG.out i cL cl
        rw [pt_drop cl] at hI
        by_cases c32 : l[i] = 32
        · rw [if_pos c32] at hI
          have h32 : ((L[i].toNat : Int) == 32) = true := by rw [hg, c32]; rfl
          cases cc : ((l.drop fr).take (i - fr) == s) with
          | true =>
            have hr : R = true := by rw [hI, List.contains_cons]; rw [beq_iff_eq] at cc; rw [cc]; simp
            rw [cc] at hcmp
            subst hr
            clear HI hI hor hg
            go_wp2
            go_ret
            exact ⟨rfl, rfl⟩
          | false =>
            have hr : R = (pt [] (l.drop (i + 1))).contains s := by
              rw [hI, List.contains_cons]
              have : (s == (l.drop fr).take (i - fr)) = false := by rw [beq_eq_false_iff_ne] at cc ⊢; exact fun e => cc e.symm
              rw [this, Bool.false_or]
            have HQ : Hid (R = (pt ((l.drop (i + 1)).take (i + 1 - (i + 1))) (l.drop (i + 1))).contains s) := by rw [Nat.sub_self, List.take_zero]; exact hr
            rw [cc] at hcmp
            clear HI hI hor hg hr
            go_wp2_with fail
            go_roundg (l.length + 1 - (i + 1))
            case measure => omega
            case rel => exact ⟨i + 1, i + 1, by go_num, by go_num, Nat.le_refl _, by omega, Or.inl (by omega), rfl, ⟨rfl, fun _ => HQ.out⟩⟩
        · rw [if_neg c32] at hI
          have h32 : ((L[i].toNat : Int) == 32) = false := by
            rw [beq_eq_false_iff_ne, hg]; intro e; exact c32 (u8_int.2 e)
          have HQ : Hid (R = (pt ((l.drop fr).take (i + 1 - fr)) (l.drop (i + 1))).contains s) := by rw [cur_next cl hfi]; exact hI
          clear HI hI hor hg hcmp
          go_wp2_with fail
          go_roundg (l.length + 1 - (i + 1))
          case measure => omega
          case rel => exact ⟨fr, i + 1, rfl, by go_num, by omega, by omega, Or.inl (by omega), rfl, ⟨rfl, fun _ => HQ.out⟩⟩
    · have hr : R = false := by rcases hor with h | h; omega; exact h
      subst hr
      have ci : ¬ (i : Int) ≤ (L.size : Int) := by omega
      clear HI hor
      go_wp2
      go_ret
      exact ⟨rfl, rfl⟩

def keyTxt : List UInt8 := [97, 110, 100, 32, 98, 114, 101, 97, 107, 32, 100, 111, 32, 101, 108, 115, 101, 32, 101, 108, 115, 101, 105, 102, 32, 101, 110, 100, 32, 102, 97, 108, 115, 101, 32, 102, 111, 114, 32, 102, 117, 110, 99, 116, 105, 111, 110, 32, 105, 102, 32, 108, 111, 99, 97, 108, 32, 110, 105, 108, 32, 110, 111, 116, 32, 111, 114, 32, 114, 101, 116, 117, 114, 110, 32, 116, 104, 101, 110, 32, 116, 114, 117, 101, 32, 119, 104, 105, 108, 101]
theorem keyTxt_parts : pt [] keyTxt = keysL := by decide +kernel

theorem refKey_any (s : List UInt8) (w : World) : Calls Tryd.prog 7 #[.string (bs s)] w fun e w' => e = .returned (.bool (isKey s)) ∧ w' = w := by
  have hin := in_any s keyTxt w (by decide) (isKey s) (by rw [keyTxt_parts]; rfl)
  by_cases c : s = []
  · subst c
    have hk : isKey [] = false := rfl
    rw [hk, show bs [] = ⟨#[]⟩ from rfl]
    go_enter Tryd.func7, Tryd.ntmps7
    go_wp2
    go_ret
    exact ⟨rfl, rfl⟩
  · have e1 : ((bs s).toList == []) = false := by rw [bs_toList, beq_eq_false_iff_ne]; exact c
    generalize isKey s = r at *
    generalize bs s = S at *
    go_enter Tryd.func7, Tryd.ntmps7
    go_wp2_with fail
    refine hin.mono ?_
    rintro e w' ⟨rfl, rfl⟩
    go_wp2
    go_ret
    exact ⟨rfl, rfl⟩

end Go.Proofs.YtfhoimfjfbbhaaaDoor
