/-
  LxNum
-/
import Derived.Deep.DeepCutAuto
import Derived.Test.YtfhoimfjfbbhaaaDoorZ13

/-
  Layer 10: the landed reader's number, walked.
-/
namespace Go.Proofs.YtfhoimfjfbbhaaaDoor
set_option maxRecDepth 100000
open Go.RowKit Txt Lx

set_option maxHeartbeats 2000000 in
theorem number_any (b a : Nat) (l : List UInt8) (w : World) (h : Rd w b l a) (hl : l.length ≤ 65536) (ha : a ≤ l.length) :
    Calls Tryd.prog 21 #[.pointer (some ⟨b, 0, none⟩)] w (Got b l a (numW (l.drop a)) w) := by
  have hsz := bs_size l
  obtain ⟨r, hr⟩ : ∃ r, r = numW (l.drop a) := ⟨_, rfl⟩
  rw [← hr]
  have HRR : Hid (r = numW (l.drop a)) := hr
  clear hr
  obtain ⟨w0, hw0⟩ : ∃ w0, w0 = w.alloc (.cells #[.int .i64 0, .int .i64 0, .string ⟨#[]⟩, .int .u64 0] 31) := ⟨_, rfl⟩
  have hrd0 : Rd w0 b l a := by rw [hw0]; exact h.kept (Below.heap_alloc w _ b h.lt)
  have hlt := h.lt
  have hc1 := hrd0.c1
  have hd1 := digits_any b a l w0 hrd0 hl ha
  rw [hw0] at hc1
  obtain ⟨n1, hn1⟩ : ∃ n1, n1 = a + cnt isD (l.drop a) := ⟨_, rfl⟩
  obtain ⟨n2, hn2⟩ : ∃ n2, n2 = n1 + dotl (l.drop n1) := ⟨_, rfl⟩
  obtain ⟨n3, hn3⟩ : ∃ n3, n3 = n2 + exql (l.drop n2) := ⟨_, rfl⟩
  have hln : numLen (l.drop a) = n3 - a ∧ a ≤ n3 := by
    unfold numLen
    rw [List.drop_drop, List.drop_drop, ← hn1, show a + (cnt isD (l.drop a) + dotl (l.drop n1)) = n2 by omega]
    omega
  have k1 : n1 ≤ l.length := by have := cnt_le isD (l.drop a); rw [List.length_drop] at this; omega
  have k2 : n2 ≤ l.length := by
    rw [hn2]; unfold dotl
    split
    · have := cnt_le isD ((l.drop n1).drop 1); rw [List.length_drop, List.length_drop] at this
      rename_i hc
      have : 0 < (l.drop n1).length := by
        rcases e : l.drop n1 with _ | ⟨x, y⟩
        · rw [e] at hc; exact absurd hc.1 (by decide)
        · simp
      rw [List.length_drop] at this
      omega
    · exact k1
  have k3 : n3 ≤ l.length := by
    rw [hn3]; unfold exql
    split
    · rename_i hc
      have := cnt_le isD ((l.drop n2).drop (xpo (l.drop n2))); rw [List.length_drop, List.length_drop] at this
      have : 0 < ((l.drop n2).drop (xpo (l.drop n2))).length := by
        rcases e : (l.drop n2).drop (xpo (l.drop n2)) with _ | ⟨x, y⟩
        · rw [e] at hc; exact absurd hc (by decide)
        · simp
      rw [List.length_drop, List.length_drop] at this
      omega
    · exact k2
  have HN1 : Hid (n1 = a + cnt isD (l.drop a)) := hn1
  have HN2 : Hid (n2 = n1 + dotl (l.drop n1)) := hn2
  have HN3 : Hid (n3 = n2 + exql (l.drop n2)) := hn3
  rw [← hn1] at hd1
  have HLN : Hid (numLen (l.drop a) = n3 - a ∧ a ≤ n3) := hln
  clear h hrd0 hn1 hn2 hn3 hln
  go_enter Tryd.func21, Tryd.ntmps21
  go_wp2_with fail
  rw [← hw0] at hc1 ⊢
  refine hd1.mono ?_
  rintro e w1 ⟨rfl, hwent⟩
  clear hd1 hc1
  have hcell := hwent.2.c1
  have hby1 := byteAt_any b n1 n1 l w1 hwent.2 hl (by omega)
  have hby2 := byteAt_any b n1 (n1 + 1) l w1 hwent.2 hl (by omega)
  rw [show ((n1 + 1 : Nat) : Int) = (n1 : Int) + 1 by omega] at hby2
  have hdg2 := isDigit_any (hb (l.drop (n1 + 1))) w1
  obtain ⟨dt, hdt⟩ : ∃ dt, dt = (decide (hb (l.drop n1) = 46) && isD (hb (l.drop (n1 + 1)))) := ⟨_, rfl⟩
  have HDt : Hid (dt = (decide (hb (l.drop n1) = 46) && isD (hb (l.drop (n1 + 1))))) := hdt
  have HW1 : Hid (Went b l n1 w0 w1) := hwent
  clear hdt hwent
  go_upto_region 3 with fail
  go_cut [29] (fun t wc => t = .bool dt ∧ wc = w1)
  case first =>
    by_cases c : hb (l.drop n1) = 46
    · have c' : ((hb (l.drop n1)).toNat : Int) = 46 := by rw [c]; rfl
      rw [c'] at hby1
      have e : dt = isD (hb (l.drop (n1 + 1))) := by rw [HDt.out, decide_eq_true c]; rfl
      rw [← e] at hdg2
      generalize (hb (l.drop (n1 + 1))).toNat = m2 at *
      clear c c' e
      go_wp2_with fail
      refine hby1.mono ?_
      rintro e w2 ⟨rfl, rfl⟩
      go_wp2_with fail
      refine hby2.mono ?_
      rintro e w3 ⟨rfl, rfl⟩
      go_wp2_with fail
      refine hdg2.mono ?_
      rintro e w3 ⟨rfl, rfl⟩
      go_wp2_with fail
      go_meet
      case rel => exact ⟨by first | rfl | (cases dt <;> rfl), rfl⟩
    · have c' : (((hb (l.drop n1)).toNat : Int) == 46) = false := by
        rw [beq_eq_false_iff_ne]
        intro e; exact c (u8_int.2 e)
      have e : dt = false := by rw [HDt.out, decide_eq_false c]; rfl
      subst e
      generalize (hb (l.drop n1)).toNat = m1 at *
      clear c
      go_wp2_with fail
      refine hby1.mono ?_
      rintro e w2 ⟨rfl, rfl⟩
      go_wp2_with fail
      go_meet
      case rel => exact ⟨rfl, rfl⟩
  case rest =>
    obtain ⟨rfl, rfl⟩ := hcut
    clear hby1 hby2 hdg2
    have hfz := HW1.out.2.fz 1
    go_upto_if 29 with fail
    go_cut [] (fun wc => Hid (Went b l n2 w0 wc))
    case first =>
      cases dt with
      | true =>
        obtain ⟨d1, d2⟩ : hb (l.drop n1) = 46 ∧ isD (hb (l.drop (n1 + 1))) = true := by
          have := HDt.out.symm
          rw [Bool.and_eq_true, decide_eq_true_eq] at this
          exact this
        have hn2 : n2 = n1 + 1 + cnt isD (l.drop (n1 + 1)) := by
          have := HN2.out
          unfold dotl at this
          rw [List.drop_drop, if_pos ⟨d1, d2⟩] at this
          omega
        have hlt1 : n1 + 1 ≤ l.length := by omega
        have hdd := digits_any b (n1 + 1) l (wc.setCell ⟨b, 1, none⟩ (.int .i64 ((n1 + 1 : Nat) : Int))) (HW1.out.2.set _) hl hlt1
        rw [← hn2, show ((n1 + 1 : Nat) : Int) = (n1 : Int) + 1 by omega] at hdd
        have HQ : Hid (∀ w', Went b l n2 (wc.setCell ⟨b, 1, none⟩ (.int .i64 ((n1 : Int) + 1))) w' → Went b l n2 w0 w') := by
          intro w' hw'
          exact ⟨(HW1.out.1.trans (Kb.set _ _ _ _)).trans hw'.1, hw'.2⟩
        clear d1 d2 hn2 HDt
        go_wp2_with fail
        refine hdd.mono ?_
        rintro e w3 ⟨rfl, hw3⟩
        have HR : Hid _ := HQ.out _ hw3
        clear hw3 hdd
        go_wp2_with fail
        go_meet
        case rel => exact HR
      | false =>
        have hn2 : n2 = n1 := by
          have := HN2.out
          unfold dotl at this
          rw [List.drop_drop, if_neg ?_] at this
          · omega
          · rintro ⟨d1, d2⟩
            have e := HDt.out
            rw [d1, d2] at e
            exact absurd e (by decide)
        have HR : Hid (Went b l n2 w0 wc) := by rw [hn2]; exact HW1.out
        clear hn2 HDt
        go_wp2_with fail
        go_meet
        case rel => exact HR
    case rest =>
      clear HW1 hcell hfz HDt
      obtain ⟨wd, hwd⟩ : ∃ wd, wd = wc := ⟨_, rfl⟩
      have hrd := hcut.out.2
      have hcell := hrd.c1
      have hfz := hrd.fz 1
      have hexp := exponent_any b n2 l wc hrd hl k2
      have hx2 : xpo (l.drop n2) ≤ 2 := by unfold xpo; repeat' split
                                           all_goals omega
      obtain ⟨x, hx⟩ : ∃ x, x = n2 + xpo (l.drop n2) := ⟨_, rfl⟩
      rw [← hx] at hexp
      have hby := byteAt_any b n2 x l wc hrd hl (by omega)
      have hdg := isDigit_any (hb (l.drop x)) wc
      obtain ⟨dt, hdt⟩ : ∃ dt, dt = isD (hb (l.drop x)) := ⟨_, rfl⟩
      have HDt : Hid (dt = isD (hb (l.drop x))) := hdt
      have HX : Hid (x = n2 + xpo (l.drop n2)) := hx
      have hxb : x ≤ 100000 := by omega
      rw [← hdt] at hdg
      generalize (hb (l.drop x)).toNat = m1 at *
      clear hdt hx hx2 hrd hwd wd
      go_wp2_with fail
      refine hexp.mono ?_
      rintro e w2 ⟨rfl, rfl⟩
      go_wp2_with fail
      refine hby.mono ?_
      rintro e w2 ⟨rfl, rfl⟩
      go_wp2_with fail
      refine hdg.mono ?_
      rintro e w2 ⟨rfl, rfl⟩
      clear hexp hby hdg
      have HC2 : Hid (Went b l n2 w0 w2) := hcut
      clear hcut
      go_upto_if 44 with fail
      go_cut [] (fun wc => Hid (Went b l n3 w0 wc))
      case first =>
        cases dt with
        | true =>
          have hn3 : n3 = x + cnt isD (l.drop x) := by
            have := HN3.out
            unfold exql at this
            rw [List.drop_drop, ← HX.out, if_pos HDt.out.symm, ] at this
            have := HX.out
            omega
          have hxl : x ≤ l.length := by omega
          have hdd := digits_any b x l (w2.setCell ⟨b, 1, none⟩ (.int .i64 (x : Int))) (HC2.out.2.set _) hl hxl
          rw [← hn3] at hdd
          have HQ : Hid (∀ w', Went b l n3 (w2.setCell ⟨b, 1, none⟩ (.int .i64 (x : Int))) w' → Went b l n3 w0 w') := by
            intro w' hw'
            exact ⟨(HC2.out.1.trans (Kb.set _ _ _ _)).trans hw'.1, hw'.2⟩
          clear hn3 HDt
          go_wp2_with fail
          refine hdd.mono ?_
          rintro e w3 ⟨rfl, hw3⟩
          have HR : Hid _ := HQ.out _ hw3
          clear hw3 hdd
          go_wp2_with fail
          go_meet
          case rel => exact HR
        | false =>
          have hn3 : n3 = n2 := by
            have := HN3.out
            unfold exql at this
            rw [List.drop_drop, ← HX.out, if_neg (by rw [← HDt.out]; decide)] at this
            omega
          have HR : Hid (Went b l n3 w0 w2) := by rw [hn3]; exact HC2.out
          clear hn3 HDt
          go_wp2_with fail
          go_meet
          case rel => exact HR
      case rest =>
        clear HC2 hcell hfz HDt HX
        obtain ⟨hkb, hrd⟩ := hcut.out
        obtain ⟨pn, pe, hpp⟩ : ∃ pn pe, parseW ((l.drop a).take (n3 - a)) = (pn, pe) := ⟨_, _, rfl⟩
        have HP : Hid (∀ w, Calls Tryd.prog 30 #[.string ((bs l).extract a n3)] w fun e w' => e = .returned (.tuple #[.int .u64 (pn : Int), .int .i64 (pe : Int)]) ∧ Below w.heap.size w w') := by
          intro w
          have := parse_any ((l.drop a).take (n3 - a)) w (by unfold maxLen; rw [List.length_take, List.length_drop]; omega)
          rw [hpp] at this
          rw [bs_extract]
          exact this
        have hN : numW (l.drop a) = (if pe ≠ 0 then .inl (0, pe) else if isN (hb (l.drop n3)) = true then .inl (n3 - a, 4) else .inr ⟨2, n3 - a, [], pn⟩) := by
          unfold numW
          rw [HLN.out.1, List.drop_drop, show a + (n3 - a) = n3 by have := HLN.out.2; omega, hpp]
        have HNW : Hid (r = (if pe ≠ 0 then .inl (0, pe) else if isN (hb (l.drop n3)) = true then .inl (n3 - a, 4) else .inr ⟨2, n3 - a, [], pn⟩)) := HRR.out.trans hN
        have hc0 : ∀ p : BelowOf wc, p.u.cell? ⟨b, 0, none⟩ = some (.string (bs l)) := fun p => (p.h.cell (p := ⟨b, 0, none⟩) hrd.lt).trans hrd.c0
        have hc1 : ∀ p : BelowOf wc, p.u.cell? ⟨b, 1, none⟩ = some (.int .i64 n3) := fun p => (p.h.cell (p := ⟨b, 1, none⟩) hrd.lt).trans hrd.c1
        have ha3 : a ≤ n3 := HLN.out.2
        clear hpp hN HRR
        go_upto_region 10 with fail
        refine wp_region_below (by kernel_rfl) (by kernel_rfl) ?_
        repeat (quiet_step (rfl))
        quiet_step ((go_at_call 30; exact below_of (HP.out _)))
        repeat (quiet_step (rfl))
        refine wpQuiet_nil ?_
        intro wq hw'
        have hwq : Below wc.heap.size wc wq := by
          obtain ⟨⟨wq2, hwq2⟩, hw''⟩ := hw'
          rw [hw'']; exact hwq2
        clear hw'
        have HRd : Hid (Rd wq b l n3) := hrd.below hwq
        have HKq : Hid (Kb b w0 wq) := hkb.trans (Kb.of_below hwq)
        have hcell := HRd.out.c1
        clear hc0 hc1 hrd hkb hwq hcut HP
        have HK0 : Hid (Kb b w wq) := by
          have := HKq.out
          rw [hw0] at this
          exact (Kb.alloc b w _).trans this
        rw [hw0] at HKq
        by_cases c : pe = 0
        · subst c
          have hby := byteAt_any b n3 n3 l wq HRd.out hl (by omega)
          have hnm := isOfName_any (hb (l.drop n3)) wq
          cases cn : isN (hb (l.drop n3)) with
          | true =>
            have HR : Hid (r = .inl (n3 - a, 4)) := by
              have e := HNW.out
              rw [if_neg (by simp), if_pos cn] at e
              exact e
            rw [cn] at hnm
            generalize (hb (l.drop n3)).toNat = m1 at *
            clear cn HNW
            go_wp2_with fail
            refine hby.mono ?_
            rintro e w2 ⟨rfl, rfl⟩
            go_wp2_with fail
            refine hnm.mono ?_
            rintro e w2 ⟨rfl, rfl⟩
            go_wp2
            refine ⟨rfl, ?_⟩
            rw [HR.out]
            refine ⟨?_, HK0.out⟩
            unfold fell
            rw [show a + (n3 - a) = n3 by omega]
            rfl
          | false =>
            have HR : Hid (r = .inr ⟨2, n3 - a, [], pn⟩) := by
              have e := HNW.out
              rw [if_neg (by simp), if_neg (by rw [cn]; decide)] at e
              exact e
            rw [cn] at hnm
            obtain ⟨q0, q1, q2, q3, qz⟩ := made hlt HKq.out
            have qz0 := qz 0
            have qz1 := qz 1
            have qz2 := qz 2
            have qz3 := qz 3
            have HQ : Hid (∀ w', Below w.heap.size wq w' → Went b l n3 w w') := fun w' hb' => ⟨HK0.out.more hb', HRd.out.kept (hb'.block b hlt)⟩
            generalize (hb (l.drop n3)).toNat = m1 at *
            clear cn HNW qz
            go_wp2_with fail
            refine hby.mono ?_
            rintro e w2 ⟨rfl, rfl⟩
            go_wp2_with fail
            refine hnm.mono ?_
            rintro e w2 ⟨rfl, rfl⟩
            generalize hg0 : w.heap.size = g0 at *
            go_wp2
            refine bodyPost_ret (v := .agg #[.int .i64 2, .int .i64 a, .string ⟨#[]⟩, .int .u64 pn]) (by simp [results, Tryd.results21, go_sem, q0, q1, q2, q3]) rfl ?_
            rw [HR.out]
            refine ⟨rfl, ?_⟩
            show Went b l (a + (n3 - a)) w _
            rw [show a + (n3 - a) = n3 by omega]
            exact HQ.out _ (set4 (Below.refl _ _) (Nat.le_refl _) _ _ _ _)
        · have c1 : ((pe : Int) != 0) = true := bne_iff_ne.2 (by omega)
          have HR : Hid (r = .inl (0, pe)) := by
            have e := HNW.out
            rw [if_pos c] at e
            exact e
          clear HNW
          go_wp2
          refine ⟨rfl, ?_⟩
          rw [HR.out]
          exact ⟨rfl, HK0.out⟩

end Go.Proofs.YtfhoimfjfbbhaaaDoor
