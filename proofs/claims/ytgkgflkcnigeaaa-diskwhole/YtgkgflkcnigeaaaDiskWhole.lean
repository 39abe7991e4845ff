/-
  Layer 20: DiskWhole, walked.
-/
import Derived.Test.YtgkgflkcnigeaaaDkWhole
namespace Go.Proofs.Ytgkgflkcnigeaaa
set_option maxRecDepth 100000
open Go.RowKit Txt Go.Maps Dk

set_option maxHeartbeats 1000000 in
theorem diskWhole_walk (va vb vt : Value) (a b t : List Nat) (n : Nat) (keep : Int) (w : World) (ha : BR w va a) (hb : BR w vb b) (ht : BR w vt t) (hn : n < 256) (hk1 : keep ≤ 9223372036854775807) :
    Calls Try.prog 5 #[va, vb, .agg #[.int .u8 n, .int .i64 keep, vt]] w fun e w' => e = .returned (.bool true) ∧ Below w.heap.size w w' := by
  have mixed : Try.prog.follows Departure.mixedOrders = true := by kernel_rfl
  obtain ⟨aa, ac, rfl, -⟩ := br_src ha
  obtain ⟨ba, bc, rfl, -⟩ := br_src hb
  obtain ⟨ta, tc, rfl, -⟩ := br_src ht
  have hal : (a.length : Int) ≤ 9223372036854775807 := by obtain ⟨_, c, e, h1, h2, _⟩ := ha.2; unfold maxLen at h2; omega
  have hbl : (b.length : Int) ≤ 9223372036854775807 := by obtain ⟨_, c, e, h1, h2, _⟩ := hb.2; unfold maxLen at h2; omega
  have htl : (t.length : Int) ≤ 9223372036854775807 := by obtain ⟨_, c, e, h1, h2, _⟩ := ht.2; unfold maxLen at h2; omega
  obtain ⟨bx, hbx⟩ : ∃ bx, bx = w.heap.size := ⟨_, rfl⟩
  obtain ⟨w1, hw1⟩ : ∃ w1, w1 = w.alloc (.cells #[.int .u8 n, .int .i64 keep, .slice ta t.length tc] 49) := ⟨_, rfl⟩
  have HB1 : Hid (Below w.heap.size w w1) := by show Below _ _ _; rw [hw1]; exact (Below.refl _ _).alloc (Nat.le_refl _) _
  have HO : Hid (∀ w', Below w1.heap.size w1 w' → w'.cell? ⟨bx, 0, none⟩ = some (.int .u8 n) ∧ w'.cell? ⟨bx, 1, none⟩ = some (.int .i64 keep) ∧ w'.cell? ⟨bx, 2, none⟩ = some (.slice ta t.length tc)) := fun w' h => by
    have hbk : w1.heap[bx]? = some (.cells #[.int .u8 n, .int .i64 keep, .slice ta t.length tc] 49 (0, 0)) := by rw [hw1, hbx]; exact heap_alloc_new _ _
    have hb2 := (h.block bx (lt_some hbk)).trans hbk
    refine ⟨?_, ?_, ?_⟩ <;> (rw [Lib.cell_of_heap hb2]; rfl)
  have HV : Hid (∀ w', Below w.heap.size w w' → BR w' (.slice aa a.length ac) a ∧ BR w' (.slice ba b.length bc) b ∧ BR w' (.slice ta t.length tc) t) := fun w' h => ⟨ha.below h (Nat.le_refl _), hb.below h (Nat.le_refl _), ht.below h (Nat.le_refl _)⟩
  have HLv : Hid (∀ w', Below w.heap.size w w' → Calls Try.prog 8 #[] w' fun e w'' => e = .returned (.bool true) ∧ Below w.heap.size w w'') := fun w' h => (lives_any w').mono fun e w'' ⟨h1, h2⟩ => ⟨h1, h.trans (h2.mono h.size)⟩
  have hnew := lv_new 1048576 w1 (by decide) (by decide)
  rw [show (1048576 : Int).toNat = 1048576 from rfl] at hnew
  obtain ⟨c, hc⟩ : ∃ c : Nat, (n : Int) % 6 = (c : Int) := ⟨n % 6, by omega⟩
  have hc6 : c < 6 := by omega
  clear ha hb ht
  go_enter Try.func5, Try.ntmps5
  go_wp2_with fail
  rw [← hw1, ← hbx]
  clear hw1 hbx
  generalize hdb : w1.heap.size + 1 = db at *
  clear hdb
  refine hnew.mono ?_
  rintro e w2 ⟨rfl, h2⟩
  have HL := hide_p h2
  have HB2 : Hid (Below w.heap.size w w2) := HB1.out.trans (h2.low.mono HB1.out.size)
  obtain ⟨o0, o1, o2⟩ := HO.out w2 h2.low
  clear h2 hnew
  by_cases c1 : (a.length : Int) > 1000
  · have hlv := HLv.out w2 HB2.out
    clear HV HLv HL HO
    go_wp2_with fail
    refine hlv.mono ?_
    rintro e w3 ⟨rfl, hb3⟩
    have HB3 := hide_p hb3
    clear hb3 hlv
    go_wp2
    go_ret
    exact ⟨rfl, HB3.out⟩
  · by_cases c2 : (b.length : Int) > 1000
    · have hlv := HLv.out w2 HB2.out
      clear HV HLv HL HO
      go_wp2_with fail
      refine hlv.mono ?_
      rintro e w3 ⟨rfl, hb3⟩
      have HB3 := hide_p hb3
      clear hb3 hlv
      go_wp2
      go_ret
      exact ⟨rfl, HB3.out⟩
    · by_cases c3 : (t.length : Int) > 1000
      · have hlv := HLv.out w2 HB2.out
        clear HV HLv HL HO
        go_wp2_with fail
        refine hlv.mono ?_
        rintro e w3 ⟨rfl, hb3⟩
        have HB3 := hide_p hb3
        clear hb3 hlv
        go_wp2
        go_ret
        exact ⟨rfl, HB3.out⟩
      · have HLn : Hid (a.length ≤ 1000 ∧ b.length ≤ 1000 ∧ t.length ≤ 1000) := ⟨by omega, by omega, by omega⟩
        have HUa : Hid (a.length ≤ 140737488355328 ∧ b.length ≤ 140737488355328 ∧ t.length ≤ 140737488355328) := ⟨by omega, by omega, by omega⟩
        have E1 : Hid (appP ⟨1048576, 0, 0, []⟩ sF a = (0, ⟨1048576, 0, 0, [⟨sF, a, 0⟩]⟩)) := app_new _ _ _ rfl (by omega)
        have E2 : Hid (syncP ⟨1048576, 0, 0, [⟨sF, a, 0⟩]⟩ sF = (0, ⟨1048576, 0, 0, [⟨sF, a, a.length⟩]⟩)) := sync_one _ _ _ _
        have E3 : Hid (cutP ⟨1048576, 0, 0, [⟨sF, a, a.length⟩]⟩ (c : Int) = ⟨1048576, 1, (c : Int), [⟨sF, a, a.length⟩]⟩) := by
          show _ = _
          unfold cutP
          rw [if_neg (by show ¬ ((0 : Int) = 2); decide), if_neg (by omega)]; rfl
        go_wp2_with (at_builtin; refine wpList_copy_fb rfl _ _ rfl rfl _ _ rfl (HV.out w2 HB2.out).1 HUa.out.1 ?_; intro a3 x3 w3 q1 q2 q3; have ha3 := lv_append_c w1 w2 w3 db _ sF _ a HL.out q3 q1 q2 (by decide) (by decide); clear q1 q2 q3)
        refine ha3.mono ?_
        rintro e w4 ⟨rfl, h4⟩
        rw [E1.out] at h4
        have HL4 := hide_p h4
        clear h4 ha3 HL
        go_wp2_with fail
        refine (lv_sync w1 w4 db _ sF HL4.out (by decide)).mono ?_
        rintro e w5 ⟨rfl, h5⟩
        rw [E2.out] at h5
        have HL5 := hide_p h5
        obtain ⟨p0, p1, p2⟩ := HO.out w5 h5.low
        clear h5 HL4
        go_wp2_with fail
        refine (lv_cut w1 w5 db _ (c : Nat) HL5.out (by omega)).mono ?_
        rintro e w6 ⟨rfl, h6⟩
        rw [E3.out] at h6
        have HL6 := hide_p h6
        have HB6 : Hid (Below w.heap.size w w6) := HB1.out.trans (h6.low.mono HB1.out.size)
        clear h6 HL5 p0 p1 p2 hc
        obtain ⟨x4, S4, y5, S5, E4, E5, hp4, hp5, hcs⟩ := whole_cases a b c (by omega)
        have HE4 := hide_p E4
        have HE5 := hide_p E5
        have HP45 : Hid (S4.P.length ≤ 1000000000 ∧ S5.P.length ≤ 1000000000) := ⟨by omega, by omega⟩
        have HCS := hide_p hcs
        clear E4 E5 hp4 hp5 hcs E1 E2 E3
        go_wp2_with (at_builtin; refine wpList_copy_fb rfl _ _ rfl rfl _ _ rfl (HV.out w6 HB6.out).2.1 HUa.out.2.1 ?_; intro a7 x7 w7 q1 q2 q3; have ha7 := lv_append_c w1 w6 w7 db _ sN _ b HL6.out q3 q1 q2 (by decide) (by simp); clear q1 q2 q3)
        refine ha7.mono ?_
        rintro e w8 ⟨rfl, h8⟩
        rw [HE4.out] at h8 ⊢
        have HL8 := hide_p h8
        clear h8 ha7 HL6 HE4
        go_wp2_with fail
        have hsy := lv_sync w1 w8 db _ sN HL8.out (by decide)
        rw [HE5.out] at hsy
        clear HE5 HL8
        rcases HCS.out with ⟨rfl, ho, hlk⟩ | ⟨rfl, z6, S6, E6, hp6, ho, hz⟩
        · clear HCS
          refine hsy.mono ?_
          rintro e w9 ⟨rfl, h9⟩
          clear hsy
          have HL9 := hide_p h9
          have HB9 : Hid (Below w.heap.size w w9) := HB1.out.trans (h9.low.mono HB1.out.size)
          have HPL : Hid (S5.P.length ≤ 1000000000) := HP45.out.2
          have hck := crash_keeps ho hlk keep t
          have HCK : Hid (readP (crashP S5 keep t).P sF = a ∧ (lookP (crashP S5 keep t).P sF).isSome = true) := ⟨by unfold readP; rw [hck], by rw [hck]; rfl⟩
          obtain ⟨wa, hwa⟩ : ∃ wa, wa = (w9.alloc (.cells #[] 5)).drew := ⟨_, rfl⟩
          have hba : Below w9.heap.size w9 wa := by rw [hwa]; exact ((Below.refl _ _).alloc (Nat.le_refl _) _).drew
          have hfa : FB wa (.slice (some ⟨w9.heap.size, 0, none⟩) 0 0) [] := by rw [hwa]; exact ⟨(fun d h => by cases h), Or.inr ⟨w9.heap.size, 0, #[], rfl, heap_alloc_new _ _, Nat.le_refl _, Nat.le_refl _, by unfold maxLen; simp, rfl⟩⟩
          obtain ⟨a8, c8', wb, hr8, q1, q2, q3⟩ := run_append_fb hfa (HV.out wa (HB9.out.trans (hba.mono HB9.out.size))).2.2 (by have := HUa.out.2.2; simpa using this) 33
          simp only [List.length_nil, Nat.zero_add, List.nil_append] at hr8 q1 q3
          replace q2 : wa.grownBy wb (some w9.heap.size) := q2
          have hsa : w9.heap.size ≤ wa.heap.size := hba.size
          have hbb : Below w9.heap.size w9 wb := hba.trans ((Below.refl _ _).grown q2 hsa fun k hk => Nat.le_of_eq (by simpa using hk))
          have hown : ∀ g, (Value.slice a8 t.length c8').ownBlock = some g → w9.heap.size ≤ g := fun g e => by
            rcases q3 with c | c
            · rw [c] at e
              exact Nat.le_of_eq (by simpa [Value.ownBlock] using e)
            · rw [c] at e
              have : wa.heap.size = g := by simpa using e
              omega
          have hcr : Calls Try.prog 16 #[.pointer (some ⟨db, 0, none⟩), .int .i64 keep, .slice a8 t.length c8'] wb fun e w'' => e = .returned (.tuple #[]) ∧ Lv w1 w'' db (crashP S5 keep t) := lv_crash_c w1 w9 wb db _ keep _ t HL9.out hbb q1 hown hk1 HPL.out
          have HOA : Hid (∀ w', Below w9.heap.size w9 w' → w'.cell? ⟨bx, 1, none⟩ = some (.int .i64 keep) ∧ w'.cell? ⟨bx, 2, none⟩ = some (.slice ta t.length tc)) := fun w' h => by
            have := HO.out w' (h9.low.trans (h.mono h9.low.size))
            exact ⟨this.2.1, this.2.2⟩
          have HOC : Hid (∀ w', Below w1.heap.size w1 w' → w'.cell? ⟨bx, 1, none⟩ = some (.int .i64 keep) ∧ w'.cell? ⟨bx, 2, none⟩ = some (.slice ta t.length tc)) := fun w' h => (HO.out w' h).2
          have HBA := hide_p hba
          have HBB := hide_p hbb
          have HBD : Hid (Below w9.heap.size w9 w9.drew) := (Below.refl _ _).drew
          have HBE : Hid (Below w9.heap.size w9 (w9.alloc (.cells #[] 5))) := (Below.refl _ _).alloc (Nat.le_refl _) _
          rw [hwa] at hr8 HBA
          replace hr8 := fun ty => (congrArg (fun s => Sem.run Try.prog s _) (append_ty 33 _ ty 33)).trans hr8
          clear h9 hck ho hlk q1 q2 q3 hsa hown hfa hba hbb hwa HO HPL
          have o1 := HOA.out w9 (Below.refl _ _)
          go_upto_region 11 with fail
          go_cut [9] (fun d wc => d = .bool false ∧ Hid (Lv w1 wc db (crashP S5 keep t)))
          case first =>
            go_region_held3 (fun wq => wq.cell? ⟨bx, 1, none⟩ = some (.int .i64 keep) ∧ wq.cell? ⟨bx, 2, none⟩ = some (.slice ta t.length tc))
              (first | exact HOC.out _ h10.low | exact HOA.out _ HBB.out | exact HOA.out _ HBA.out | exact HOA.out _ HBE.out | exact HOA.out _ HBD.out)
              (first
                | (refine wanted_if (by rfl) ?_; refine wp_append_fb (.tmp 66) (.tmp 68) rfl _ _ rfl rfl hr8 ?_)
                | (go_at_call 16; refine hcr.mono ?_; rintro e w10 ⟨rfl, h10⟩))
            go_wp2_with fail
            go_meet
            exact ⟨rfl, h10⟩
          obtain ⟨rfl, hct⟩ := hcut
          obtain ⟨w10, hw10⟩ : ∃ w10, w10 = wc := ⟨_, rfl⟩
          rw [← hw10] at hct ⊢
          clear hw10
          have h10 := hct.out
          have HL10 := hide_p h10
          have HB10 : Hid (Below w.heap.size w w10) := HB1.out.trans (h10.low.mono HB1.out.size)
          clear h10 hcr hr8 HOA HBA HBB HBD HBE o1
          go_wp2_with fail
          refine (lv_read w1 w10 db _ sF HL10.out (by decide)).mono ?_
          rintro e w11 ⟨v', rfl, q1, q2, q3⟩
          rw [HCK.out.1] at q1
          rw [HCK.out.2]
          have HB11 : Hid (Below w.heap.size w w11) := HB10.out.trans (q3.mono HB10.out.size)
          have hcx := conv_any q1.br
          have hcy := conv_any (HV.out w11 HB11.out).1
          have hlv := HLv.out w11 HB11.out
          generalize bsN a = SX at *
          clear q1 q2 q3 HL10 HV HLv
          go_wp2_with fail
          refine hlv.mono ?_
          rintro e w12 ⟨rfl, hb12⟩
          have HB12 := hide_p hb12
          clear hb12 hlv
          go_wp2
          go_ret
          exact ⟨rfl, HB12.out⟩
        · refine hsy.mono ?_
          rintro e w9 ⟨rfl, h9⟩
          have hrn := lv_rename w1 w9 db _ sN sF h9 (by decide) (by decide) HP45.out.2
          rw [E6] at hrn
          clear h9 hsy E6 HCS
          rcases hz with ⟨rfl, hlk⟩ | ⟨rfl, hlk⟩
          · go_wp2_with fail
            refine hrn.mono ?_
            rintro e w9' ⟨rfl, h9⟩
            clear hrn
            obtain ⟨w9, rfl⟩ : ∃ x, x = w9' := ⟨_, rfl⟩
            have HL9 := hide_p h9
            have HB9 : Hid (Below w.heap.size w w9) := HB1.out.trans (h9.low.mono HB1.out.size)
            have HPL : Hid (S6.P.length ≤ 1000000000) := by show _ ≤ _; omega
            have hck := crash_keeps ho hlk keep t
            have HCK : Hid (readP (crashP S6 keep t).P sF = a ∧ (lookP (crashP S6 keep t).P sF).isSome = true) := ⟨by unfold readP; rw [hck], by rw [hck]; rfl⟩
            obtain ⟨wa, hwa⟩ : ∃ wa, wa = (w9.alloc (.cells #[] 5)).drew := ⟨_, rfl⟩
            have hba : Below w9.heap.size w9 wa := by rw [hwa]; exact ((Below.refl _ _).alloc (Nat.le_refl _) _).drew
            have hfa : FB wa (.slice (some ⟨w9.heap.size, 0, none⟩) 0 0) [] := by rw [hwa]; exact ⟨(fun d h => by cases h), Or.inr ⟨w9.heap.size, 0, #[], rfl, heap_alloc_new _ _, Nat.le_refl _, Nat.le_refl _, by unfold maxLen; simp, rfl⟩⟩
            obtain ⟨a8, c8', wb, hr8, q1, q2, q3⟩ := run_append_fb hfa (HV.out wa (HB9.out.trans (hba.mono HB9.out.size))).2.2 (by have := HUa.out.2.2; simpa using this) 33
            simp only [List.length_nil, Nat.zero_add, List.nil_append] at hr8 q1 q3
            replace q2 : wa.grownBy wb (some w9.heap.size) := q2
            have hsa : w9.heap.size ≤ wa.heap.size := hba.size
            have hbb : Below w9.heap.size w9 wb := hba.trans ((Below.refl _ _).grown q2 hsa fun k hk => Nat.le_of_eq (by simpa using hk))
            have hown : ∀ g, (Value.slice a8 t.length c8').ownBlock = some g → w9.heap.size ≤ g := fun g e => by
              rcases q3 with c | c
              · rw [c] at e
                exact Nat.le_of_eq (by simpa [Value.ownBlock] using e)
              · rw [c] at e
                have : wa.heap.size = g := by simpa using e
                omega
            have hcr : Calls Try.prog 16 #[.pointer (some ⟨db, 0, none⟩), .int .i64 keep, .slice a8 t.length c8'] wb fun e w'' => e = .returned (.tuple #[]) ∧ Lv w1 w'' db (crashP S6 keep t) := lv_crash_c w1 w9 wb db _ keep _ t HL9.out hbb q1 hown hk1 HPL.out
            have HOA : Hid (∀ w', Below w9.heap.size w9 w' → w'.cell? ⟨bx, 1, none⟩ = some (.int .i64 keep) ∧ w'.cell? ⟨bx, 2, none⟩ = some (.slice ta t.length tc)) := fun w' h => by
              have := HO.out w' (h9.low.trans (h.mono h9.low.size))
              exact ⟨this.2.1, this.2.2⟩
            have HOC : Hid (∀ w', Below w1.heap.size w1 w' → w'.cell? ⟨bx, 1, none⟩ = some (.int .i64 keep) ∧ w'.cell? ⟨bx, 2, none⟩ = some (.slice ta t.length tc)) := fun w' h => (HO.out w' h).2
            have HBA := hide_p hba
            have HBB := hide_p hbb
            have HBD : Hid (Below w9.heap.size w9 w9.drew) := (Below.refl _ _).drew
            have HBE : Hid (Below w9.heap.size w9 (w9.alloc (.cells #[] 5))) := (Below.refl _ _).alloc (Nat.le_refl _) _
            rw [hwa] at hr8 HBA
            replace hr8 := fun ty => (congrArg (fun s => Sem.run Try.prog s _) (append_ty 33 _ ty 33)).trans hr8
            clear h9 hck ho hlk q1 q2 q3 hsa hown hfa hba hbb hwa HO HPL
            have o1 := HOA.out w9 (Below.refl _ _)
            go_upto_region 11 with fail
            go_cut [9] (fun d wc => d = .bool false ∧ Hid (Lv w1 wc db (crashP S6 keep t)))
            case first =>
              go_region_held3 (fun wq => wq.cell? ⟨bx, 1, none⟩ = some (.int .i64 keep) ∧ wq.cell? ⟨bx, 2, none⟩ = some (.slice ta t.length tc))
                (first | exact HOC.out _ h10.low | exact HOA.out _ HBB.out | exact HOA.out _ HBA.out | exact HOA.out _ HBE.out | exact HOA.out _ HBD.out)
                (first
                  | (refine wanted_if (by rfl) ?_; refine wp_append_fb (.tmp 66) (.tmp 68) rfl _ _ rfl rfl hr8 ?_)
                  | (go_at_call 16; refine hcr.mono ?_; rintro e w10 ⟨rfl, h10⟩))
              go_wp2_with fail
              go_meet
              exact ⟨rfl, h10⟩
            obtain ⟨rfl, hct⟩ := hcut
            obtain ⟨w10, hw10⟩ : ∃ w10, w10 = wc := ⟨_, rfl⟩
            rw [← hw10] at hct ⊢
            clear hw10
            have h10 := hct.out
            have HL10 := hide_p h10
            have HB10 : Hid (Below w.heap.size w w10) := HB1.out.trans (h10.low.mono HB1.out.size)
            clear h10 hcr hr8 HOA HBA HBB HBD HBE o1
            go_wp2_with fail
            refine (lv_read w1 w10 db _ sF HL10.out (by decide)).mono ?_
            rintro e w11 ⟨v', rfl, q1, q2, q3⟩
            rw [HCK.out.1] at q1
            rw [HCK.out.2]
            have HB11 : Hid (Below w.heap.size w w11) := HB10.out.trans (q3.mono HB10.out.size)
            have hcx := conv_any q1.br
            have hcy := conv_any (HV.out w11 HB11.out).1
            have hlv := HLv.out w11 HB11.out
            generalize bsN a = SX at *
            clear q1 q2 q3 HL10 HV HLv
            go_wp2_with fail
            refine hlv.mono ?_
            rintro e w12 ⟨rfl, hb12⟩
            have HB12 := hide_p hb12
            clear hb12 hlv
            go_wp2
            go_ret
            exact ⟨rfl, HB12.out⟩
          · go_wp2_with fail
            refine hrn.mono ?_
            rintro e w9' ⟨rfl, h9⟩
            clear hrn
            obtain ⟨w9, rfl⟩ : ∃ x, x = w9' := ⟨_, rfl⟩
            have HL9 := hide_p h9
            have HB9 : Hid (Below w.heap.size w w9) := HB1.out.trans (h9.low.mono HB1.out.size)
            have HPL : Hid (S6.P.length ≤ 1000000000) := by show _ ≤ _; omega
            have hck := crash_keeps ho hlk keep t
            have HCK : Hid (readP (crashP S6 keep t).P sF = b ∧ (lookP (crashP S6 keep t).P sF).isSome = true) := ⟨by unfold readP; rw [hck], by rw [hck]; rfl⟩
            obtain ⟨wa, hwa⟩ : ∃ wa, wa = (w9.alloc (.cells #[] 5)).drew := ⟨_, rfl⟩
            have hba : Below w9.heap.size w9 wa := by rw [hwa]; exact ((Below.refl _ _).alloc (Nat.le_refl _) _).drew
            have hfa : FB wa (.slice (some ⟨w9.heap.size, 0, none⟩) 0 0) [] := by rw [hwa]; exact ⟨(fun d h => by cases h), Or.inr ⟨w9.heap.size, 0, #[], rfl, heap_alloc_new _ _, Nat.le_refl _, Nat.le_refl _, by unfold maxLen; simp, rfl⟩⟩
            obtain ⟨a8, c8', wb, hr8, q1, q2, q3⟩ := run_append_fb hfa (HV.out wa (HB9.out.trans (hba.mono HB9.out.size))).2.2 (by have := HUa.out.2.2; simpa using this) 33
            simp only [List.length_nil, Nat.zero_add, List.nil_append] at hr8 q1 q3
            replace q2 : wa.grownBy wb (some w9.heap.size) := q2
            have hsa : w9.heap.size ≤ wa.heap.size := hba.size
            have hbb : Below w9.heap.size w9 wb := hba.trans ((Below.refl _ _).grown q2 hsa fun k hk => Nat.le_of_eq (by simpa using hk))
            have hown : ∀ g, (Value.slice a8 t.length c8').ownBlock = some g → w9.heap.size ≤ g := fun g e => by
              rcases q3 with c | c
              · rw [c] at e
                exact Nat.le_of_eq (by simpa [Value.ownBlock] using e)
              · rw [c] at e
                have : wa.heap.size = g := by simpa using e
                omega
            have hcr : Calls Try.prog 16 #[.pointer (some ⟨db, 0, none⟩), .int .i64 keep, .slice a8 t.length c8'] wb fun e w'' => e = .returned (.tuple #[]) ∧ Lv w1 w'' db (crashP S6 keep t) := lv_crash_c w1 w9 wb db _ keep _ t HL9.out hbb q1 hown hk1 HPL.out
            have HOA : Hid (∀ w', Below w9.heap.size w9 w' → w'.cell? ⟨bx, 1, none⟩ = some (.int .i64 keep) ∧ w'.cell? ⟨bx, 2, none⟩ = some (.slice ta t.length tc)) := fun w' h => by
              have := HO.out w' (h9.low.trans (h.mono h9.low.size))
              exact ⟨this.2.1, this.2.2⟩
            have HOC : Hid (∀ w', Below w1.heap.size w1 w' → w'.cell? ⟨bx, 1, none⟩ = some (.int .i64 keep) ∧ w'.cell? ⟨bx, 2, none⟩ = some (.slice ta t.length tc)) := fun w' h => (HO.out w' h).2
            have HBA := hide_p hba
            have HBB := hide_p hbb
            have HBD : Hid (Below w9.heap.size w9 w9.drew) := (Below.refl _ _).drew
            have HBE : Hid (Below w9.heap.size w9 (w9.alloc (.cells #[] 5))) := (Below.refl _ _).alloc (Nat.le_refl _) _
            rw [hwa] at hr8 HBA
            replace hr8 := fun ty => (congrArg (fun s => Sem.run Try.prog s _) (append_ty 33 _ ty 33)).trans hr8
            clear h9 hck ho hlk q1 q2 q3 hsa hown hfa hba hbb hwa HO HPL
            have o1 := HOA.out w9 (Below.refl _ _)
            go_upto_region 11 with fail
            go_cut [9] (fun d wc => d = .bool true ∧ Hid (Lv w1 wc db (crashP S6 keep t)))
            case first =>
              go_region_held3 (fun wq => wq.cell? ⟨bx, 1, none⟩ = some (.int .i64 keep) ∧ wq.cell? ⟨bx, 2, none⟩ = some (.slice ta t.length tc))
                (first | exact HOC.out _ h10.low | exact HOA.out _ HBB.out | exact HOA.out _ HBA.out | exact HOA.out _ HBE.out | exact HOA.out _ HBD.out)
                (first
                  | (refine wanted_if (by rfl) ?_; refine wp_append_fb (.tmp 66) (.tmp 68) rfl _ _ rfl rfl hr8 ?_)
                  | (go_at_call 16; refine hcr.mono ?_; rintro e w10 ⟨rfl, h10⟩))
              go_wp2_with fail
              go_meet
              exact ⟨rfl, h10⟩
            obtain ⟨rfl, hct⟩ := hcut
            obtain ⟨w10, hw10⟩ : ∃ w10, w10 = wc := ⟨_, rfl⟩
            rw [← hw10] at hct ⊢
            clear hw10
            have h10 := hct.out
            have HL10 := hide_p h10
            have HB10 : Hid (Below w.heap.size w w10) := HB1.out.trans (h10.low.mono HB1.out.size)
            clear h10 hcr hr8 HOA HBA HBB HBD HBE o1
            go_wp2_with fail
            refine (lv_read w1 w10 db _ sF HL10.out (by decide)).mono ?_
            rintro e w11 ⟨v', rfl, q1, q2, q3⟩
            rw [HCK.out.1] at q1
            rw [HCK.out.2]
            have HB11 : Hid (Below w.heap.size w w11) := HB10.out.trans (q3.mono HB10.out.size)
            have hcx := conv_any q1.br
            have hcy := conv_any (HV.out w11 HB11.out).2.1
            have hlv := HLv.out w11 HB11.out
            generalize bsN b = SX at *
            clear q1 q2 q3 HL10 HV HLv
            go_wp2_with fail
            refine hlv.mono ?_
            rintro e w12 ⟨rfl, hb12⟩
            have HB12 := hide_p hb12
            clear hb12 hlv
            go_wp2
            go_ret
            exact ⟨rfl, HB12.out⟩

end Go.Proofs.Ytgkgflkcnigeaaa
