/-
  ProgStays: in a function that can be, from each order the machine goes on at one that there is, walked.
-/
import Derived.Test.YtlfbjnbjnfmnlaaDoorPgFlat
import Derived.Test.YtlfbjnbjnfmnlaaDoorPgLives
namespace Go.Proofs.YtlfbjnbjnfmnlaaDoor
set_option maxRecDepth 100000
open Go.RowKit Txt Pg

theorem flatL_mem : ∀ (ps : List Pr) (l : List Pr) (r : Pr), r ∈ flatL l ps → r ∈ l ∨ ∃ q ∈ ps, r ∈ flatT q
  | [], l, r, h => Or.inl h
  | q :: ps, l, r, h => by
    rcases flatL_mem ps (l ++ flatT q) r h with h | ⟨q', h1, h2⟩
    · rcases List.mem_append.1 h with h | h
      · exact Or.inl h
      · exact Or.inr ⟨q, List.mem_cons_self, h⟩
    · exact Or.inr ⟨q', List.mem_cons_of_mem _ h1, h2⟩
theorem chkL_good : ∀ (ps : List Pr) (rg : Int) (nu d n m : Nat), chkL rg nu d n ps = (m, 0) → ∀ q ∈ ps, ∃ n' m', chkT q rg nu d n' = (m', 0)
  | [], _, _, _, _, _, _, q, hq => by cases hq
  | p :: ps, rg, nu, d, n, m, h, q, hq => by
    have h1 : chkL rg nu d n (p :: ps) = ps.foldl (fun r q => if r.2 = 0 then chkT q rg nu d r.1 else r) (chkT p rg nu d n) := rfl
    rw [h1] at h
    by_cases c : (chkT p rg nu d n).2 = 0
    · obtain ⟨n1, hn1⟩ : ∃ n1, chkT p rg nu d n = (n1, 0) := ⟨(chkT p rg nu d n).1, Prod.ext rfl c⟩
      rw [hn1] at h
      rcases List.mem_cons.1 hq with rfl | hq
      · exact ⟨n, n1, hn1⟩
      · exact chkL_good ps rg nu d n1 m h q hq
    · rw [fold_bad (fun r q h => if_neg h) _ _ c] at h
      rw [h] at c
      exact absurd rfl c
theorem chkT_sound : ∀ (t : Pr) (rg : Int) (nu d n m : Nat), chkT t rg nu d n = (m, 0) → ∀ r ∈ flatT t, soundB r = true := by
  refine Pr.ind' fun pa rg us cs ks ps ih => ?_
  intro arg anu d n m h r hr
  rw [chkT_mk] at h
  split at h
  · cases h
  · split at h
    · cases h
    · next c1 c2 =>
      simp only [Bool.or_eq_true, Bool.not_eq_true', not_or, Bool.not_eq_false] at c2
      rw [flatT_mk] at hr
      rcases flatL_mem ps _ r hr with hr | ⟨q, hq, hr⟩
      · rw [List.mem_singleton.1 hr]; exact c2.1
      · obtain ⟨n', m', hq2⟩ := chkL_good ps _ _ _ _ _ h q hq
        exact ih q hq _ _ _ _ _ hq2 r hr
theorem chkB_sound (t : Pr) (h : chkB t = 0) : ∀ r ∈ flatT t, soundB r = true := by
  obtain ⟨pa, rg, us, cs, ks, ps⟩ := t
  unfold chkB at h
  split at h
  · cases h
  · split at h
    · cases h
    · next c1 c2 =>
      simp only [Bool.or_eq_true, Bool.not_eq_true', not_or, Bool.not_eq_false] at c2
      intro r hr
      rw [flatT_mk] at hr
      rcases flatL_mem ps _ r hr with hr | ⟨q, hq, hr⟩
      · rw [List.mem_singleton.1 hr]; exact c2.2
      · have h2 : chkL rg us.length 1 1 ps = ((chkL rg us.length 1 1 ps).1, 0) := Prod.ext rfl h
        obtain ⟨n', m', hq2⟩ := chkL_good ps _ _ _ _ _ h2 q hq
        exact chkT_sound q _ _ _ _ _ hq2 r hr

/-- Where an order of a function that can be goes on. -/
theorem stays_ok (q : Pr) (h : soundB q = true) (k : Nat) (hk : k < q.cs.length) : isOp q.cs[k].op = true ∧ (q.cs[k].op ≠ 29 → q.cs[k].op ≠ 33 → q.cs[k].op ≠ 34 → k + 1 < q.cs.length) ∧
    (q.cs[k].op = 29 → 0 ≤ q.cs[k].a ∧ q.cs[k].a < q.cs.length) ∧ (q.cs[k].op = 30 ∨ q.cs[k].op = 31 ∨ q.cs[k].op = 36 ∨ q.cs[k].op = 37 → 0 ≤ q.cs[k].b ∧ q.cs[k].b < q.cs.length) := by
  obtain ⟨pa, rg, us, cs, ks, ps⟩ := q
  unfold soundB at h
  simp only [Bool.and_eq_true, Pr.lens] at h
  obtain ⟨⟨⟨⟨_, _⟩, _⟩, hend⟩, hall⟩ := h
  have ho := List.all_eq_true.1 hall _ (List.getElem_mem hk)
  simp only at hk ho ⊢
  refine ⟨?_, fun h1 h2 h3 => ?_, fun h1 => ?_, fun h1 => ?_⟩
  · unfold ordB at ho
    simp only [Bool.and_eq_true] at ho
    exact ho.2
  · rcases Nat.lt_or_ge (k + 1) cs.length with c | c
    · exact c
    · exfalso
      have hk2 : k = cs.length - 1 := by omega
      unfold endB at hend
      rw [List.getLast?_eq_getElem?, ← hk2, List.getElem?_eq_getElem hk] at hend
      simp [h1, h2, h3] at hend
  · unfold ordB at ho
    rw [h1] at ho
    simp only [Bool.and_eq_true] at ho
    have := ho.1.1.1
    have e : (rowOf 29).2.2.1 = 5 := by decide
    rw [e] at this
    unfold okO inB rngZ at this
    simp at this
    omega
  · unfold ordB at ho
    simp only [Bool.and_eq_true] at ho
    have := ho.1.1.2
    have e : (rowOf cs[k].op).2.2.2.1 = 5 := by
      rcases h1 with h1 | h1 | h1 | h1 <;> rw [h1] <;> decide
    rw [e] at this
    unfold okO inB rngZ at this
    simp at this
    omega

theorem usesT_no : ∀ op : Int, isOp op = true → op ≠ 29 → op ≠ 30 → op ≠ 31 → op ≠ 36 → op ≠ 37 → usesT op ≠ [79] ∧ usesT op ≠ [82, 79] := by
  intro op h h1 h2 h3 h4 h5
  unfold isOp at h
  simp at h
  obtain ⟨r, rfl⟩ := Int.eq_ofNat_of_zero_le h.1
  have key : ∀ r, r < 38 → (r == 29 || r == 30 || r == 31 || r == 36 || r == 37 || (usesL.getD r [] != [79] && usesL.getD r [] != [82, 79])) = true := by decide
  have := key r (by omega)
  simp only [Bool.or_eq_true, beq_iff_eq, Bool.and_eq_true, bne_iff_ne] at this
  rcases this with ((((e | e) | e) | e) | e) | e
  · omega
  · omega
  · omega
  · omega
  · omega
  · exact e

set_option maxHeartbeats 1600000 in
theorem progStays_walk (t : Pr) (x : Six) (w : World) (h : PR w t x) (hT : Ot w) (hTB : TB w) :
    Calls Tryd.prog 8 #[x.v] w fun e w' => e = .returned (.bool true) ∧ Below w.heap.size w w' := by
  have HP := hide_p h
  have HT := hide_p hT
  have HTB := hide_p hTB
  have h00 := hT.1
  have hforms := six_form (PR.prs _ _ h)
  have hsm := small_law t x
  have HLV : Hid (∀ w', Below w.heap.size w w' → Calls Tryd.prog 13 #[] w' fun e w'' => e = .returned (.bool true) ∧ Below w'.heap.size w' w'') := fun w' hb => glives_any w' (HT.out.below hb h00) (HTB.out.below hb)
  have HOW : Hid (∀ w', Below w.heap.size w w' → t.cnt ≤ 100000 → Calls Tryd.prog 16 #[x.v] w' fun e w'' => ∃ x' : Six, e = .returned x'.v ∧ PRS (fun b => w'.heap.size ≤ b) w'' t x' ∧ Below w'.heap.size w' w'') := fun w' hb hc => ownP_any t x w' (PR.kept hb (Nat.le_refl _) _ _ HP.out) hc
  have HFT : Hid (∀ w', Below w.heap.size w w' → t.cnt ≤ 100000 → Calls Tryd.prog 21 #[x.v] w' fun e w'' => ∃ (v : Value) (y : Nat → Six), e = .returned v ∧ FW 31 w w'' w'.heap.size v (flatT t) y ∧ Below w'.heap.size w' w'') := fun w' hb hc => rflat_any t x w w' HP.out hb hc
  have HFL : Hid ((flatT t).length ≤ t.cnt) := flatT_len t
  obtain ⟨pa, rg, vu, vc, vk, vp⟩ := x
  simp only at hforms
  obtain ⟨a1, n1, c1, a2, n2, c2, a3, n3, c3, a4, n4, c4, rfl, rfl, rfl, rfl⟩ := hforms
  unfold Six.v at HOW HFT hsm ⊢
  simp only at HOW HFT hsm ⊢
  obtain ⟨w0, hw0⟩ : ∃ w0, w0 = w.alloc (.cells #[.int .i64 pa, .int .i64 rg, .slice a1 n1 c1, .slice a2 n2 c2, .slice a3 n3 c3, .slice a4 n4 c4] 31) := ⟨_, rfl⟩
  have HB0 : Hid (Below w.heap.size w w0) := by rw [hw0]; exact (Below.refl _ _).alloc (Nat.le_refl _) _
  have hs0 : w0.heap.size = w.heap.size + 1 := by rw [hw0]; simp
  have HA0 : Hid (∀ j, w0.cell? ⟨w.heap.size, j, none⟩ = (#[.int .i64 pa, .int .i64 rg, .slice a1 n1 c1, .slice a2 n2 c2, .slice a3 n3 c3, .slice a4 n4 c4] : Array Value)[j]?) := by
    intro j
    rw [hw0, World.cell?_alloc_new]
  have x0 : w0.cell? ⟨w.heap.size, 0, none⟩ = some (.int .i64 pa) := HA0.out 0
  have x1 : w0.cell? ⟨w.heap.size, 1, none⟩ = some (.int .i64 rg) := HA0.out 1
  have x2 : w0.cell? ⟨w.heap.size, 2, none⟩ = some (.slice a1 n1 c1) := HA0.out 2
  have x3 : w0.cell? ⟨w.heap.size, 3, none⟩ = some (.slice a2 n2 c2) := HA0.out 3
  have x4 : w0.cell? ⟨w.heap.size, 4, none⟩ = some (.slice a3 n3 c3) := HA0.out 4
  have x5 : w0.cell? ⟨w.heap.size, 5, none⟩ = some (.slice a4 n4 c4) := HA0.out 5
  have hsm0 := hsm w0 (PR.kept HB0.out (Nat.le_refl _) _ _ HP.out)
  clear h hT hTB hsm
  go_enter Tryd.func8, Tryd.ntmps8
  go_upto_region 1 with fail
  rw [← hw0]
  clear hw0
  go_wp2_with fail
  refine hsm0.mono ?_
  rintro e w1 ⟨ok, rfl, hok, hb1⟩
  have HB1 : Hid (Below w0.heap.size w0 w1) := hb1
  have HB1w : Hid (Below w.heap.size w w1) := HB0.out.trans (hb1.mono HB0.out.size)
  clear hsm0 hb1 x0 x1 x2 x3 x4 x5
  cases ok with
  | false =>
    have hl := HLV.out w1 HB1w.out
    clear hok
    go_wp2_with fail
    refine hl.mono ?_
    rintro e w2 ⟨rfl, hb2⟩
    have HB2w : Hid (Below w.heap.size w w2) := HB1w.out.trans (hb2.mono HB1w.out.size)
    clear hl hb2
    go_wp2
    go_ret
    exact ⟨rfl, HB2w.out⟩
  | true =>
    obtain ⟨hcn, hdp⟩ := hok rfl
    have ho := HOW.out w1 HB1w.out (by omega)
    have y0 : w1.cell? ⟨w.heap.size, 0, none⟩ = some (.int .i64 pa) := box6 HA0.out HB1.out (Nat.le_refl _) rfl
    have y1 : w1.cell? ⟨w.heap.size, 1, none⟩ = some (.int .i64 rg) := box6 HA0.out HB1.out (Nat.le_refl _) rfl
    have y2 : w1.cell? ⟨w.heap.size, 2, none⟩ = some (.slice a1 n1 c1) := box6 HA0.out HB1.out (Nat.le_refl _) rfl
    have y3 : w1.cell? ⟨w.heap.size, 3, none⟩ = some (.slice a2 n2 c2) := box6 HA0.out HB1.out (Nat.le_refl _) rfl
    have y4 : w1.cell? ⟨w.heap.size, 4, none⟩ = some (.slice a3 n3 c3) := box6 HA0.out HB1.out (Nat.le_refl _) rfl
    have y5 : w1.cell? ⟨w.heap.size, 5, none⟩ = some (.slice a4 n4 c4) := box6 HA0.out HB1.out (Nat.le_refl _) rfl
    go_wp2_with fail
    refine ho.mono ?_
    rintro e w2 ⟨x', rfl, hp2, hb2⟩
    have HB2 : Hid (Below w0.heap.size w0 w2) := HB1.out.trans (hb2.mono HB1.out.size)
    have HB2w : Hid (Below w.heap.size w w2) := HB1w.out.trans (hb2.mono HB1w.out.size)
    have hck := check_any t x' w2 (PRS.pr _ _ hp2) (HT.out.below HB2w.out h00)
    obtain ⟨z, HZ⟩ : ∃ z, Hid (chkB t = z) := ⟨_, rfl⟩
    rw [HZ.out] at hck
    clear ho hp2 hb2 y0 y1 y2 y3 y4 y5
    unfold Six.v at hck
    generalize Value.agg #[Value.int IntKind.i64 x'.pa, Value.int IntKind.i64 x'.rg, x'.u, x'.c, x'.k, x'.p] = v' at *
    go_wp2_with fail
    refine hck.mono ?_
    rintro e w3 ⟨rfl, hb3⟩
    have HB3 : Hid (Below w0.heap.size w0 w3) := HB2.out.trans (hb3.mono HB2.out.size)
    have HB3w : Hid (Below w.heap.size w w3) := HB2w.out.trans (hb3.mono HB2w.out.size)
    clear hck hb3
    by_cases cz : z = 0
    · subst cz
      have hfl := HFT.out w3 HB3w.out (by omega)
      have y0 : w3.cell? ⟨w.heap.size, 0, none⟩ = some (.int .i64 pa) := box6 HA0.out HB3.out (Nat.le_refl _) rfl
      have y1 : w3.cell? ⟨w.heap.size, 1, none⟩ = some (.int .i64 rg) := box6 HA0.out HB3.out (Nat.le_refl _) rfl
      have y2 : w3.cell? ⟨w.heap.size, 2, none⟩ = some (.slice a1 n1 c1) := box6 HA0.out HB3.out (Nat.le_refl _) rfl
      have y3 : w3.cell? ⟨w.heap.size, 3, none⟩ = some (.slice a2 n2 c2) := box6 HA0.out HB3.out (Nat.le_refl _) rfl
      have y4 : w3.cell? ⟨w.heap.size, 4, none⟩ = some (.slice a3 n3 c3) := box6 HA0.out HB3.out (Nat.le_refl _) rfl
      have y5 : w3.cell? ⟨w.heap.size, 5, none⟩ = some (.slice a4 n4 c4) := box6 HA0.out HB3.out (Nat.le_refl _) rfl
      have HSD := hide_p (chkB_sound t HZ.out)
      go_wp2_with fail
      refine hfl.mono ?_
      rintro e w4 ⟨v4, y, rfl, hfw, hb4⟩
      have HB4w : Hid (Below w.heap.size w w4) := HB3w.out.trans (hb4.mono HB3w.out.size)
      have hsl : SL w4 v4 (flatT t).length 6 (fun i j u => u = (y i).at j) := SL.of_owns hfw.own (by unfold far; have := HFL.out; omega) (fun _ _ _ _ => rfl)
      obtain ⟨av, capv, hv4, hvl, hvc, -⟩ := hsl.val
      subst hv4
      have HSL := hide_p hsl
      have HKD := hide_p hfw.kid
      have hl4 : (flatT t).length ≤ 3000 := by have := HFL.out; omega
      obtain ⟨N, hN⟩ : ∃ N, N = (flatT t).length := ⟨_, rfl⟩
      have HN := hide_p hN
      rw [← hN] at hvl hl4 ⊢
      clear hfl hb4 y0 y1 y2 y3 y4 y5 hsl hfw hN
      go_wp2_with fail
      go_loopw [4, 5, 6, 7, 8] (fun t4 t5 t6 t7 t8 wr => ∃ (i : Nat), i ≤ N ∧ t4 = .int .i64 i ∧ Hid (Below w4.heap.size w4 wr)) (fun t4 _ _ _ _ _ => N - (intOf t4).toNat)
      case atStart => exact ⟨0, Nat.zero_le _, rfl, Below.refl _ _⟩
      case round =>
        obtain ⟨i, hi, rfl, HB5⟩ := hrel
        have HB5w : Hid (Below w.heap.size w wr) := HB4w.out.trans (HB5.out.mono HB4w.out.size)
        by_cases c : i < N
        · have i1 : i < (flatT t).length := by rw [← HN.out]; exact c
          have hsl2 := HSL.out
          rw [← HN.out] at hsl2
          have hsl3 : SL w4 (.slice av N capv) (flatT t).length 6 (fun i j u => u = (y i).at j) := by rw [← HN.out]; exact hsl2
          obtain ⟨-, g, o, rfl, e0, e1, e2, e3, e4, e5⟩ := SP.get hsl3 i1
          have hq := HKD.out i i1
          have hsd := HSD.out _ (List.getElem_mem i1)
          generalize (flatT t)[i] = q at *
          have HST := hide_p (stays_ok q hsd)
          have hqc : SI w (y i).c q.cs := by
            obtain ⟨qpa, qrg, qus, qcs, qks, qps⟩ := q
            rw [PR_mk] at hq
            exact hq.2.2.2.2.2.1
          obtain ⟨ac, cc, hac, hcl, hcc, lc⟩ := hqc.1.val
          rw [hac] at e3
          have HQC : Hid (SI w (.slice ac q.cs.length cc) q.cs) := by rw [← hac]; exact hqc
          have HE3 := hide_p e3
          unfold far at lc
          obtain ⟨M, hM⟩ : ∃ M, M = q.cs.length := ⟨_, rfl⟩
          have HM := hide_p hM
          rw [← hM] at hcl lc
          clear hsl2 hsl3 hq hsd hqc hac hM e0 e1 e2 e3 e4 e5
          go_wp2_with fail
          go_loopw [5, 6, 7, 8] (fun t5 t6 t7 t8 wr => ∃ (k : Nat), k ≤ M ∧ t5 = .int .i64 k ∧ Hid (Below w4.heap.size w4 wr)) (fun t5 _ _ _ _ => M - (intOf t5).toNat)
          case atStart => exact ⟨0, Nat.zero_le _, rfl, HB5⟩
          case round =>
            obtain ⟨k, hk, rfl, HB6⟩ := hrel
            have HB6w : Hid (Below w.heap.size w wr) := HB4w.out.trans (HB6.out.mono HB4w.out.size)
            have e3 : wr.cell? ⟨g, o + i * 6 + 3, none⟩ = some (.slice ac M cc) := by rw [HM.out]; exact cell_kept HB6.out (Nat.le_refl _) HE3.out
            by_cases ck : k < M
            · have k1 : k < q.cs.length := by rw [← HM.out]; exact ck
              obtain ⟨s1, s2, s3, s4⟩ := HST.out k k1
              obtain ⟨-, gc, oc, rfl, op, xa, xb, xc, hl, -, f0, f1, f2, f3⟩ := (HQC.out.kept HB6w.out (Nat.le_refl _)).get k1
              rw [hl] at s1 s2 s3 s4
              simp only at s1 s2 s3 s4
              rw [← HM.out] at s2 s3 s4
              have hus := fun w => uses_any op w s1
              clear hl
              go_wp2_with fail
              go_region_held3 (fun w' => w'.cell? ⟨g, o + i * 6 + 3, none⟩ = some (.slice (some ⟨gc, oc, none⟩) M cc) ∧ w'.cell? ⟨gc, oc + k * 4, none⟩ = some (.int .i64 op) ∧ w'.cell? ⟨gc, oc + k * 4 + 1, none⟩ = some (.int .i64 xa) ∧ w'.cell? ⟨gc, oc + k * 4 + 2, none⟩ = some (.int .i64 xb) ∧ w'.cell? ⟨gc, oc + k * 4 + 3, none⟩ = some (.int .i64 xc)) (go_keep) (fail)
              have HB7 : Hid (Below w4.heap.size w4 ((wr.alloc (.cells #[.int .i64 op, .int .i64 xa, .int .i64 xb, .int .i64 xc] 53)).drew)) := (HB6.out.alloc HB6.out.size _).drew
              have HUN := hide_p (usesT_no op s1)
              clear f0 f1 f2 f3 e3 HQC HST HSD HKD HSL HE3 HLV HOW HFT
              obtain ⟨w7, hw7⟩ : ∃ w7, w7 = (wr.alloc (.cells #[.int .i64 op, .int .i64 xa, .int .i64 xb, .int .i64 xc] 53)).drew := ⟨_, rfl⟩
              rw [← hw7] at HB7 ⊢
              have z0 : w7.cell? ⟨wr.heap.size, 0, none⟩ = some (.int .i64 op) := by rw [hw7]; simp
              have z1 : w7.cell? ⟨wr.heap.size, 1, none⟩ = some (.int .i64 xa) := by rw [hw7]; simp
              have z2 : w7.cell? ⟨wr.heap.size, 2, none⟩ = some (.int .i64 xb) := by rw [hw7]; simp
              clear hw7
              rename_i hHeld
              clear hHeld
              have hcs : op = 29 ∨ (op = 30 ∨ op = 31 ∨ op = 36 ∨ op = 37) ∨ op = 33 ∨ op = 34 ∨ (op ≠ 29 ∧ op ≠ 30 ∧ op ≠ 31 ∧ op ≠ 36 ∧ op ≠ 37 ∧ op ≠ 33 ∧ op ≠ 34) := by omega
              rcases hcs with rfl | (rfl | rfl | rfl | rfl) | rfl | rfl | hno
              · have e : bs (usesT 29) = ⟨#[79]⟩ := rfl
                rw [e] at hus
                have b1 := (s3 rfl).1
                have b2 := (s3 rfl).2
                have b3 : ¬ xa < 0 := by omega
                have b4 : ¬ xa ≥ (M : Int) := by omega
                clear s1 s2 s3 s4 HUN e
                go_wp2_with fail
                refine (hus _).mono ?_
                rintro e w8 ⟨rfl, rfl⟩
                go_wp2
                go_roundw
                case rel => exact ⟨k + 1, by omega, by go_num, HB7⟩
                case measure => simp [intOf]; omega
              · have e : bs (usesT 30) = ⟨#[82, 79]⟩ := rfl
                rw [e] at hus
                have b1 := (s4 (by decide)).1
                have b2 := (s4 (by decide)).2
                have b3 : ¬ xb < 0 := by omega
                have b4 : ¬ xb ≥ (M : Int) := by omega
                have b5 := s2 (by decide) (by decide) (by decide)
                have b6 : ¬ ((k : Int) + 1 ≥ (M : Int)) := by omega
                clear s1 s2 s3 s4 HUN e
                go_wp2_with fail
                refine (hus _).mono ?_
                rintro e w8 ⟨rfl, rfl⟩
                go_wp2
                go_roundw
                case rel => exact ⟨k + 1, by omega, by go_num, HB7⟩
                case measure => simp [intOf]; omega
              · have e : bs (usesT 31) = ⟨#[82, 79]⟩ := rfl
                rw [e] at hus
                have b1 := (s4 (by decide)).1
                have b2 := (s4 (by decide)).2
                have b3 : ¬ xb < 0 := by omega
                have b4 : ¬ xb ≥ (M : Int) := by omega
                have b5 := s2 (by decide) (by decide) (by decide)
                have b6 : ¬ ((k : Int) + 1 ≥ (M : Int)) := by omega
                clear s1 s2 s3 s4 HUN e
                go_wp2_with fail
                refine (hus _).mono ?_
                rintro e w8 ⟨rfl, rfl⟩
                go_wp2
                go_roundw
                case rel => exact ⟨k + 1, by omega, by go_num, HB7⟩
                case measure => simp [intOf]; omega
              · have e : bs (usesT 36) = ⟨#[82, 79]⟩ := rfl
                rw [e] at hus
                have b1 := (s4 (by decide)).1
                have b2 := (s4 (by decide)).2
                have b3 : ¬ xb < 0 := by omega
                have b4 : ¬ xb ≥ (M : Int) := by omega
                have b5 := s2 (by decide) (by decide) (by decide)
                have b6 : ¬ ((k : Int) + 1 ≥ (M : Int)) := by omega
                clear s1 s2 s3 s4 HUN e
                go_wp2_with fail
                refine (hus _).mono ?_
                rintro e w8 ⟨rfl, rfl⟩
                go_wp2
                go_roundw
                case rel => exact ⟨k + 1, by omega, by go_num, HB7⟩
                case measure => simp [intOf]; omega
              · have e : bs (usesT 37) = ⟨#[82, 79]⟩ := rfl
                rw [e] at hus
                have b1 := (s4 (by decide)).1
                have b2 := (s4 (by decide)).2
                have b3 : ¬ xb < 0 := by omega
                have b4 : ¬ xb ≥ (M : Int) := by omega
                have b5 := s2 (by decide) (by decide) (by decide)
                have b6 : ¬ ((k : Int) + 1 ≥ (M : Int)) := by omega
                clear s1 s2 s3 s4 HUN e
                go_wp2_with fail
                refine (hus _).mono ?_
                rintro e w8 ⟨rfl, rfl⟩
                go_wp2
                go_roundw
                case rel => exact ⟨k + 1, by omega, by go_num, HB7⟩
                case measure => simp [intOf]; omega
              · have e : bs (usesT 33) = ⟨#[82]⟩ := rfl
                rw [e] at hus
                clear s1 s2 s3 s4 HUN e
                go_wp2_with fail
                refine (hus _).mono ?_
                rintro e w8 ⟨rfl, rfl⟩
                go_wp2
                go_roundw
                case rel => exact ⟨k + 1, by omega, by go_num, HB7⟩
                case measure => simp [intOf]; omega
              · have e : bs (usesT 34) = ⟨#[]⟩ := rfl
                rw [e] at hus
                clear s1 s2 s3 s4 HUN e
                go_wp2_with fail
                refine (hus _).mono ?_
                rintro e w8 ⟨rfl, rfl⟩
                go_wp2
                go_roundw
                case rel => exact ⟨k + 1, by omega, by go_num, HB7⟩
                case measure => simp [intOf]; omega
              · obtain ⟨n29, n30, n31, n36, n37, n33, n34⟩ := hno
                obtain ⟨u1, u2⟩ := HUN.out n29 n30 n31 n36 n37
                have b5 := s2 n29 n33 n34
                have b6 : ¬ ((k : Int) + 1 ≥ (M : Int)) := by omega
                have m1 : (op != 29) = true := by simp [n29]
                have m2 : (op != 33) = true := by simp [n33]
                have m3 : (op != 34) = true := by simp [n34]
                obtain ⟨S, hS⟩ : ∃ S, S = bs (usesT op) := ⟨_, rfl⟩
                have q1 : ¬ S.toList = [79] := by
                  rw [hS]
                  intro e
                  exact u1 (by simpa [bs, ByteArray.toList_eq] using e)
                have q2 : ¬ S.toList = [82, 79] := by
                  rw [hS]
                  intro e
                  exact u2 (by simpa [bs, ByteArray.toList_eq] using e)
                have q3 : (S.toList == [79]) = false := by rw [beq_eq_false_iff_ne]; exact q1
                have q4 : (S.toList == [82, 79]) = false := by rw [beq_eq_false_iff_ne]; exact q2
                rw [← hS] at hus
                clear s1 s2 s3 s4 HUN hS u1 u2
                go_wp2_with fail
                refine (hus _).mono ?_
                rintro e w8 ⟨rfl, rfl⟩
                go_wp2
                go_roundw
                case rel => exact ⟨k + 1, by omega, by go_num, HB7⟩
                case measure => simp [intOf]; omega
            · have e : k = M := by omega
              subst e
              go_wp2
              go_roundw
              case rel => exact ⟨i + 1, by omega, by go_num, HB6⟩
              case measure => simp [intOf]; omega
        · have e : i = N := by omega
          subst e
          have hl := HLV.out wr HB5w.out
          go_wp2_with fail
          refine hl.mono ?_
          rintro e w2 ⟨rfl, hb2⟩
          have HB2w : Hid (Below w.heap.size w w2) := HB5w.out.trans (hb2.mono HB5w.out.size)
          clear hl hb2
          go_wp2
          go_ret
          exact ⟨rfl, HB2w.out⟩
    · have cz2 : (z != 0) = true := by simp [cz]
      have hl := HLV.out w3 HB3w.out
      go_wp2_with fail
      refine hl.mono ?_
      rintro e w4 ⟨rfl, hb4⟩
      have HB4w : Hid (Below w.heap.size w w4) := HB3w.out.trans (hb4.mono HB3w.out.size)
      clear hl hb4
      go_wp2
      go_ret
      exact ⟨rfl, HB4w.out⟩

end Go.Proofs.YtlfbjnbjnfmnlaaDoor
