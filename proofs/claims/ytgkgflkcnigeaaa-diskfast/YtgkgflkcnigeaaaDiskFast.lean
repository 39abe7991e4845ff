/-
  Layer 20: DiskFast, walked.
-/
import Derived.Test.YtgkgflkcnigeaaaDkSteps
namespace Go.Proofs.Ytgkgflkcnigeaaa
set_option maxRecDepth 100000
open Go.RowKit Txt Go.Maps Dk

set_option maxHeartbeats 4000000 in
theorem diskFast_walk (va vb vt : Value) (a b t : List Nat) (keep : Int) (w : World) (ha : BR w va a) (hb : BR w vb b) (ht : BR w vt t) (hk0 : -9223372036854775808 ≤ keep) (hk1 : keep ≤ 9223372036854775807) :
    Calls Try.prog 4 #[va, vb, .agg #[.int .i64 keep, vt]] w fun e w' => e = .returned (.bool true) ∧ Below w.heap.size w w' := by
  have mixed : Try.prog.follows Departure.mixedOrders = true := by kernel_rfl
  obtain ⟨aa, ac, rfl, -⟩ := br_src ha
  obtain ⟨ba, bc, rfl, -⟩ := br_src hb
  obtain ⟨ta, tc, rfl, -⟩ := br_src ht
  have hal := ha.2
  have hbl := hb.2
  have htl := ht.2
  have hal : (a.length : Int) ≤ 9223372036854775807 := by obtain ⟨_, c, e, h1, h2, _⟩ := ha.2; unfold maxLen at h2; omega
  have hbl : (b.length : Int) ≤ 9223372036854775807 := by obtain ⟨_, c, e, h1, h2, _⟩ := hb.2; unfold maxLen at h2; omega
  have htl : (t.length : Int) ≤ 9223372036854775807 := by obtain ⟨_, c, e, h1, h2, _⟩ := ht.2; unfold maxLen at h2; omega
  obtain ⟨w1, hw1⟩ : ∃ w1, w1 = (w.alloc (.cells #[.int .i64 keep, .slice ta t.length tc] 43)).drew := ⟨_, rfl⟩
  have HB1 : Hid (Below w.heap.size w w1) := by show Below _ _ _; rw [hw1]; exact ((Below.refl _ _).alloc (Nat.le_refl _) _).drew
  have HV : Hid (∀ w', Below w.heap.size w w' → BR w' (.slice aa a.length ac) a ∧ BR w' (.slice ba b.length bc) b ∧ BR w' (.slice ta t.length tc) t) := fun w' h => ⟨ha.below h (Nat.le_refl _), hb.below h (Nat.le_refl _), ht.below h (Nat.le_refl _)⟩
  have HLv : Hid (∀ w', Below w.heap.size w w' → Calls Try.prog 8 #[] w' fun e w'' => e = .returned (.bool true) ∧ Below w.heap.size w w'') := fun w' h => (lives_any w').mono fun e w'' ⟨h1, h2⟩ => ⟨h1, h.trans (h2.mono h.size)⟩
  have hnew := lv_new 1048576 w1 (by decide) (by decide)
  rw [show (1048576 : Int).toNat = 1048576 from rfl] at hnew
  clear ha hb ht
  go_enter Try.func4, Try.ntmps4
  go_wp2_with fail
  go_region
  rw [← hw1]
  clear hw1
  generalize hdb : w1.heap.size + 1 = db at *
  clear hdb
  go_wp2_with fail
  refine hnew.mono ?_
  rintro e w2 ⟨rfl, h2⟩
  have HL := hide_p h2
  have HB2 : Hid (Below w.heap.size w w2) := HB1.out.trans (h2.low.mono HB1.out.size)
  clear h2 hnew
  by_cases c1 : (a.length : Int) > 1000
  · have hlv := HLv.out w2 HB2.out
    clear HV HLv HL
    go_wp2_with fail
    refine hlv.mono ?_
    rintro e w3 ⟨rfl, hb3⟩
    have HB3 := hide_p hb3
    clear hb3 hlv
    go_wp2
    go_ret
    exact ⟨rfl, HB3.out⟩
  · by_cases c2 : (b.length : Int) > 1000
    · have hlv := HLv.out w2 HB2.out
      clear HV HLv HL
      go_wp2_with fail
      refine hlv.mono ?_
      rintro e w3 ⟨rfl, hb3⟩
      have HB3 := hide_p hb3
      clear hb3 hlv
      go_wp2
      go_ret
      exact ⟨rfl, HB3.out⟩
    · by_cases c3 : (t.length : Int) > 1000
      · have hlv := HLv.out w2 HB2.out
        clear HV HLv HL
        go_wp2_with fail
        refine hlv.mono ?_
        rintro e w3 ⟨rfl, hb3⟩
        have HB3 := hide_p hb3
        clear hb3 hlv
        go_wp2
        go_ret
        exact ⟨rfl, HB3.out⟩
      · have HLn : Hid (a.length ≤ 1000 ∧ b.length ≤ 1000 ∧ t.length ≤ 1000) := ⟨by omega, by omega, by omega⟩
        have HUa : Hid (a.length ≤ 140737488355328 ∧ b.length ≤ 140737488355328 ∧ t.length ≤ 140737488355328) := ⟨by omega, by omega, by omega⟩
        have E1 : Hid (appP ⟨1048576, 0, 0, []⟩ [102] a = (0, ⟨1048576, 0, 0, [⟨[102], a, 0⟩]⟩)) := app_new _ _ _ rfl (by omega)
        have E2 : Hid (syncP ⟨1048576, 0, 0, [⟨[102], a, 0⟩]⟩ [102] = (0, ⟨1048576, 0, 0, [⟨[102], a, a.length⟩]⟩)) := sync_one _ _ _ _
        have E3 : Hid (appP ⟨1048576, 0, 0, [⟨[102], a, a.length⟩]⟩ [102] b = (0, ⟨1048576, 0, 0, [⟨[102], a ++ b, a.length⟩]⟩)) := app_one _ _ _ _ _ rfl (by omega)
        obtain ⟨R, hR⟩ : ∃ R, R = a ++ b.take keep.toNat ++ (if b = [] then [] else t) := ⟨_, rfl⟩
        have E4 : Hid (crashP ⟨1048576, 0, 0, [⟨[102], a ++ b, a.length⟩]⟩ keep t = ⟨1048576, 0, 0, [⟨[102], R, R.length⟩]⟩) := by
          show _ = _
          rw [hR]
          exact crash_one _ _ _ _ _ _ _ _ (by omega)
        have E5 : Hid (readP [⟨[102], R, R.length⟩] [102] = R ∧ fastOf [⟨[102], R, R.length⟩] [102] = R.length ∧ (lookP [⟨[102], R, R.length⟩] [102]).isSome = true) := ⟨by simp [readP, lookP], by simp [fastOf, lookP], by simp [lookP]⟩
        have HR := hide_p hR
        have hRl : R.length ≤ 3000 := by
          rw [hR, List.length_append, List.length_append, List.length_take]
          split
          · simp; omega
          · omega
        clear hR
        go_wp2_with (at_builtin; refine wpList_copy_fb rfl _ _ rfl rfl _ _ rfl (HV.out w2 HB2.out).1 HUa.out.1 ?_; intro a3 x3 w3 q1 q2 q3; have ha3 := lv_append_c w1 w2 w3 db _ [102] _ a HL.out q3 q1 q2 (by decide) (by decide); clear q1 q2 q3)
        refine ha3.mono ?_
        rintro e w4 ⟨rfl, h4⟩
        rw [E1.out] at h4
        have HL4 := hide_p h4
        clear h4 ha3 HL
        go_wp2_with fail
        refine (lv_sync w1 w4 db _ [102] HL4.out (by decide)).mono ?_
        rintro e w5 ⟨rfl, h5⟩
        rw [E2.out] at h5
        have HL5 := hide_p h5
        have HB5 : Hid (Below w.heap.size w w5) := HB1.out.trans (h5.low.mono HB1.out.size)
        clear h5 HL4
        go_wp2_with (at_builtin; refine wpList_copy_fb rfl _ _ rfl rfl _ _ rfl (HV.out w5 HB5.out).2.1 HUa.out.2.1 ?_; intro a6 x6 w6 q1 q2 q3; have ha6 := lv_append_c w1 w5 w6 db _ [102] _ b HL5.out q3 q1 q2 (by decide) (by simp); clear q1 q2 q3)
        refine ha6.mono ?_
        rintro e w7 ⟨rfl, h7⟩
        rw [E3.out] at h7
        have HL7 := hide_p h7
        have HB7 : Hid (Below w.heap.size w w7) := HB1.out.trans (h7.low.mono HB1.out.size)
        clear h7 ha6 HL5 HB5
        go_wp2_with (at_builtin; refine wpList_copy_fb rfl _ _ rfl rfl _ _ rfl (HV.out w7 HB7.out).2.2 HUa.out.2.2 ?_; intro a8 x8 w8 q1 q2 q3; have ha8 := lv_crash_c w1 w7 w8 db _ keep _ t HL7.out q3 q1 q2 hk1 (by simp); clear q1 q2 q3)
        refine ha8.mono ?_
        rintro e w9 ⟨rfl, h9⟩
        rw [E4.out] at h9
        have HL9 := hide_p h9
        clear h9 ha8 HL7 HB7
        go_wp2_with fail
        refine (lv_read w1 w9 db _ [102] HL9.out (by decide)).mono ?_
        rintro e w10 ⟨v', rfl, q1, q2, q3⟩
        rw [E5.out.1] at q1
        rw [E5.out.2.2]
        obtain ⟨va', vc', rfl, -, -, -⟩ := q1.form
        have HL10 := hide_p (HL9.out.below q3)
        have HB10 : Hid (Below w.heap.size w w10) := HB1.out.trans (HL10.out.low.mono HB1.out.size)
        have HX := hide_p q1.br
        have hfs := lv_fast w1 w10 db _ [102] HL10.out (by decide)
        rw [E5.out.2.1] at hfs
        have HF5 := hide_p E5.out.2.1
        clear q1 q2 q3 HL9 E1 E2 E3 E4 E5
        have HVV := hide_p (HV.out w10 HB10.out)
        have HLv10 := hide_p (HLv.out w10.drew HB10.out.drew)
        have c1i : (a.length : Int) ≤ 1000 := by omega
        have c2i : (b.length : Int) ≤ 1000 := by omega
        have c3i : (t.length : Int) ≤ 1000 := by omega
        have hbc : b.length ≤ bc := by
          obtain ⟨_, a', cap', e, h3, _⟩ := HVV.out.2.1
          simp only [Value.slice.injEq] at e
          omega
        have hbci : (b.length : Int) ≤ (bc : Int) := by omega
        clear HV HLv
        by_cases d1 : keep < 0
        · have hkk : b.take keep.toNat = b.take 0 := by rw [show keep.toNat = 0 by omega]
          have d2 : ¬ (0 : Int) > (b.length : Int) := by omega
          by_cases hb0 : b = []
          · have hbl0 : (b.length : Int) = 0 := by rw [hb0]; rfl
            have hbl1 : ¬ (b.length : Int) > 0 := by omega
            have hcb1 : (convert 33 9 (.slice ba 0 bc)).run Try.prog w10.drew = .ok (.string (bsN (b.take (0)))) w10.drew := conv_any (w := w10.drew) (BR.first (w := w10.drew) HVV.out.2.1 (m := 0) (by omega))
            have hca1 : (convert 33 9 (.slice aa a.length ac)).run Try.prog w10.drew = .ok (.string (bsN a)) w10.drew := conv_any (w := w10.drew) HVV.out.1
            have hct : (convert 33 9 (.slice ta t.length tc)).run Try.prog w10.drew = .ok (.string (bsN t)) w10.drew := conv_any (w := w10.drew) HVV.out.2.2
            have hcx : (convert 33 9 (.slice va' R.length vc')).run Try.prog w10.drew = .ok (.string (bsN R)) w10.drew := conv_any (w := w10.drew) HX.out
            have hfs1 : Calls Try.prog 13 #[.pointer (some ⟨db, 0, none⟩), .string ⟨#[102]⟩] w10.drew fun e w' => e = .returned (.int .i64 (R.length : Nat)) ∧ w' = w10.drew := by
              have := lv_fast w1 w10.drew db _ [102] (HL10.out.below (Below.refl _ _).drew) (by decide)
              rw [HF5.out] at this
              exact this
            have hlv1 := HLv10.out
            have hz1 : ((bsN a).size : Int) ≤ 1000 := by rw [bsN_size]; omega
            have hz2 : ((bsN (b.take (0))).size : Int) ≤ 1000 := by rw [bsN_size, List.length_take]; omega
            have hz3 : ((bsN t).size : Int) ≤ 1000 := by rw [bsN_size]; omega
            have hEq : (bsN R).toList == (bsN a ++ bsN (b.take (0))).toList := by
              rw [HR.out, if_pos hb0, bsN_app, hkk, List.append_nil]
              simp
            have hcbl : ((0 : Nat) : Int) ≤ (b.length : Int) := by omega
            clear HR HX HVV HLv10 HF5 hfs HL10 hkk
            generalize bsN a = SA at *
            generalize bsN (b.take (0)) = SB at *
            generalize bsN t = ST at *
            generalize bsN R = SR at *
            have hRi : (R.length : Int) ≤ 3000 := by omega
            generalize R.length = rl at *
            go_wp2_with fail
            go_region
            go_wp2_with fail
            refine hfs1.mono ?_
            rintro e w11 ⟨rfl, rfl⟩
            go_wp2_with fail
            refine hlv1.mono ?_
            rintro e w12 ⟨rfl, hb12⟩
            have HB12 := hide_p hb12
            clear hb12 hfs1 hlv1
            go_wp2
            go_ret
            exact ⟨rfl, HB12.out⟩
          · have hbl1 : (b.length : Int) > 0 := by have := List.length_pos_iff.2 hb0; omega
            have hcb1 : (convert 33 9 (.slice ba 0 bc)).run Try.prog w10.drew = .ok (.string (bsN (b.take (0)))) w10.drew := conv_any (w := w10.drew) (BR.first (w := w10.drew) HVV.out.2.1 (m := 0) (by omega))
            have hca1 : (convert 33 9 (.slice aa a.length ac)).run Try.prog w10.drew = .ok (.string (bsN a)) w10.drew := conv_any (w := w10.drew) HVV.out.1
            have hct : (convert 33 9 (.slice ta t.length tc)).run Try.prog w10.drew = .ok (.string (bsN t)) w10.drew := conv_any (w := w10.drew) HVV.out.2.2
            have hcx : (convert 33 9 (.slice va' R.length vc')).run Try.prog w10.drew = .ok (.string (bsN R)) w10.drew := conv_any (w := w10.drew) HX.out
            have hfs1 : Calls Try.prog 13 #[.pointer (some ⟨db, 0, none⟩), .string ⟨#[102]⟩] w10.drew fun e w' => e = .returned (.int .i64 (R.length : Nat)) ∧ w' = w10.drew := by
              have := lv_fast w1 w10.drew db _ [102] (HL10.out.below (Below.refl _ _).drew) (by decide)
              rw [HF5.out] at this
              exact this
            have hlv1 := HLv10.out
            have hz1 : ((bsN a).size : Int) ≤ 1000 := by rw [bsN_size]; omega
            have hz2 : ((bsN (b.take (0))).size : Int) ≤ 1000 := by rw [bsN_size, List.length_take]; omega
            have hz3 : ((bsN t).size : Int) ≤ 1000 := by rw [bsN_size]; omega
            have hEq : (bsN R).toList == ((bsN a ++ bsN (b.take (0))) ++ bsN t).toList := by
              rw [HR.out, if_neg hb0, bsN_app, bsN_app, hkk]
              simp
            have hcbl : ((0 : Nat) : Int) ≤ (b.length : Int) := by omega
            clear HR HX HVV HLv10 HF5 hfs HL10 hkk
            generalize bsN a = SA at *
            generalize bsN (b.take (0)) = SB at *
            generalize bsN t = ST at *
            generalize bsN R = SR at *
            have hRi : (R.length : Int) ≤ 3000 := by omega
            generalize R.length = rl at *
            go_wp2_with fail
            go_region
            go_wp2_with fail
            refine hfs1.mono ?_
            rintro e w11 ⟨rfl, rfl⟩
            go_wp2_with fail
            refine hlv1.mono ?_
            rintro e w12 ⟨rfl, hb12⟩
            have HB12 := hide_p hb12
            clear hb12 hfs1 hlv1
            go_wp2
            go_ret
            exact ⟨rfl, HB12.out⟩
        · by_cases d2 : keep > (b.length : Int)
          · have hkk : b.take keep.toNat = b.take b.length := by rw [List.take_of_length_le (by omega), List.take_length]
            by_cases hb0 : b = []
            · have hbl0 : (b.length : Int) = 0 := by rw [hb0]; rfl
              have hbl1 : ¬ (b.length : Int) > 0 := by omega
              have hkk : b.take keep.toNat = b.take 0 := by rw [hb0]; simp
              have hcb1 : (convert 33 9 (.slice ba 0 bc)).run Try.prog w10.drew = .ok (.string (bsN (b.take (0)))) w10.drew := conv_any (w := w10.drew) (BR.first (w := w10.drew) HVV.out.2.1 (m := 0) (by omega))
              have hca1 : (convert 33 9 (.slice aa a.length ac)).run Try.prog w10.drew = .ok (.string (bsN a)) w10.drew := conv_any (w := w10.drew) HVV.out.1
              have hct : (convert 33 9 (.slice ta t.length tc)).run Try.prog w10.drew = .ok (.string (bsN t)) w10.drew := conv_any (w := w10.drew) HVV.out.2.2
              have hcx : (convert 33 9 (.slice va' R.length vc')).run Try.prog w10.drew = .ok (.string (bsN R)) w10.drew := conv_any (w := w10.drew) HX.out
              have hfs1 : Calls Try.prog 13 #[.pointer (some ⟨db, 0, none⟩), .string ⟨#[102]⟩] w10.drew fun e w' => e = .returned (.int .i64 (R.length : Nat)) ∧ w' = w10.drew := by
                have := lv_fast w1 w10.drew db _ [102] (HL10.out.below (Below.refl _ _).drew) (by decide)
                rw [HF5.out] at this
                exact this
              have hlv1 := HLv10.out
              have hz1 : ((bsN a).size : Int) ≤ 1000 := by rw [bsN_size]; omega
              have hz2 : ((bsN (b.take (0))).size : Int) ≤ 1000 := by rw [bsN_size, List.length_take]; omega
              have hz3 : ((bsN t).size : Int) ≤ 1000 := by rw [bsN_size]; omega
              have hEq : (bsN R).toList == (bsN a ++ bsN (b.take (0))).toList := by
                rw [HR.out, if_pos hb0, bsN_app, hkk, List.append_nil]
                simp
              have hcbl : ((0 : Nat) : Int) ≤ (b.length : Int) := by omega
              clear HR HX HVV HLv10 HF5 hfs HL10 hkk
              generalize bsN a = SA at *
              generalize bsN (b.take (0)) = SB at *
              generalize bsN t = ST at *
              generalize bsN R = SR at *
              have hRi : (R.length : Int) ≤ 3000 := by omega
              generalize R.length = rl at *
              go_wp2_with fail
              go_region
              go_wp2_with fail
              refine hfs1.mono ?_
              rintro e w11 ⟨rfl, rfl⟩
              go_wp2_with fail
              refine hlv1.mono ?_
              rintro e w12 ⟨rfl, hb12⟩
              have HB12 := hide_p hb12
              clear hb12 hfs1 hlv1
              go_wp2
              go_ret
              exact ⟨rfl, HB12.out⟩
            · have hbl1 : (b.length : Int) > 0 := by have := List.length_pos_iff.2 hb0; omega
              have hcb1 : (convert 33 9 (.slice ba b.length bc)).run Try.prog w10.drew = .ok (.string (bsN (b.take (b.length)))) w10.drew := conv_any (w := w10.drew) (BR.first (w := w10.drew) HVV.out.2.1 (m := b.length) (by omega))
              have hca1 : (convert 33 9 (.slice aa a.length ac)).run Try.prog w10.drew = .ok (.string (bsN a)) w10.drew := conv_any (w := w10.drew) HVV.out.1
              have hct : (convert 33 9 (.slice ta t.length tc)).run Try.prog w10.drew = .ok (.string (bsN t)) w10.drew := conv_any (w := w10.drew) HVV.out.2.2
              have hcx : (convert 33 9 (.slice va' R.length vc')).run Try.prog w10.drew = .ok (.string (bsN R)) w10.drew := conv_any (w := w10.drew) HX.out
              have hfs1 : Calls Try.prog 13 #[.pointer (some ⟨db, 0, none⟩), .string ⟨#[102]⟩] w10.drew fun e w' => e = .returned (.int .i64 (R.length : Nat)) ∧ w' = w10.drew := by
                have := lv_fast w1 w10.drew db _ [102] (HL10.out.below (Below.refl _ _).drew) (by decide)
                rw [HF5.out] at this
                exact this
              have hlv1 := HLv10.out
              have hz1 : ((bsN a).size : Int) ≤ 1000 := by rw [bsN_size]; omega
              have hz2 : ((bsN (b.take (b.length))).size : Int) ≤ 1000 := by rw [bsN_size, List.length_take]; omega
              have hz3 : ((bsN t).size : Int) ≤ 1000 := by rw [bsN_size]; omega
              have hEq : (bsN R).toList == ((bsN a ++ bsN (b.take (b.length))) ++ bsN t).toList := by
                rw [HR.out, if_neg hb0, bsN_app, bsN_app, hkk]
                simp
              have hcbl : ((b.length : Nat) : Int) ≤ (b.length : Int) := by omega
              clear HR HX HVV HLv10 HF5 hfs HL10 hkk
              generalize bsN a = SA at *
              generalize bsN (b.take (b.length)) = SB at *
              generalize bsN t = ST at *
              generalize bsN R = SR at *
              have hRi : (R.length : Int) ≤ 3000 := by omega
              generalize R.length = rl at *
              go_wp2_with fail
              go_region
              go_wp2_with fail
              refine hfs1.mono ?_
              rintro e w11 ⟨rfl, rfl⟩
              go_wp2_with fail
              refine hlv1.mono ?_
              rintro e w12 ⟨rfl, hb12⟩
              have HB12 := hide_p hb12
              clear hb12 hfs1 hlv1
              go_wp2
              go_ret
              exact ⟨rfl, HB12.out⟩
          · obtain ⟨m, rfl⟩ : ∃ m : Nat, keep = (m : Int) := ⟨keep.toNat, by omega⟩
            have hkk : b.take (m : Int).toNat = b.take m := by rw [Int.toNat_natCast]
            have hmb : m ≤ b.length := by omega
            by_cases hb0 : b = []
            · have hbl0 : (b.length : Int) = 0 := by rw [hb0]; rfl
              have hbl1 : ¬ (b.length : Int) > 0 := by omega
              obtain rfl : m = 0 := by omega
              have hcb1 : (convert 33 9 (.slice ba 0 bc)).run Try.prog w10.drew = .ok (.string (bsN (b.take (0)))) w10.drew := conv_any (w := w10.drew) (BR.first (w := w10.drew) HVV.out.2.1 (m := 0) (by omega))
              have hca1 : (convert 33 9 (.slice aa a.length ac)).run Try.prog w10.drew = .ok (.string (bsN a)) w10.drew := conv_any (w := w10.drew) HVV.out.1
              have hct : (convert 33 9 (.slice ta t.length tc)).run Try.prog w10.drew = .ok (.string (bsN t)) w10.drew := conv_any (w := w10.drew) HVV.out.2.2
              have hcx : (convert 33 9 (.slice va' R.length vc')).run Try.prog w10.drew = .ok (.string (bsN R)) w10.drew := conv_any (w := w10.drew) HX.out
              have hfs1 : Calls Try.prog 13 #[.pointer (some ⟨db, 0, none⟩), .string ⟨#[102]⟩] w10.drew fun e w' => e = .returned (.int .i64 (R.length : Nat)) ∧ w' = w10.drew := by
                have := lv_fast w1 w10.drew db _ [102] (HL10.out.below (Below.refl _ _).drew) (by decide)
                rw [HF5.out] at this
                exact this
              have hlv1 := HLv10.out
              have hz1 : ((bsN a).size : Int) ≤ 1000 := by rw [bsN_size]; omega
              have hz2 : ((bsN (b.take (0))).size : Int) ≤ 1000 := by rw [bsN_size, List.length_take]; omega
              have hz3 : ((bsN t).size : Int) ≤ 1000 := by rw [bsN_size]; omega
              have hEq : (bsN R).toList == (bsN a ++ bsN (b.take (0))).toList := by
                rw [HR.out, if_pos hb0, bsN_app, hkk, List.append_nil]
                simp
              have hcbl : ((0 : Nat) : Int) ≤ (b.length : Int) := by omega
              clear HR HX HVV HLv10 HF5 hfs HL10 hkk
              generalize bsN a = SA at *
              generalize bsN (b.take (0)) = SB at *
              generalize bsN t = ST at *
              generalize bsN R = SR at *
              have hRi : (R.length : Int) ≤ 3000 := by omega
              generalize R.length = rl at *
              go_wp2_with fail
              go_region
              go_wp2_with fail
              refine hfs1.mono ?_
              rintro e w11 ⟨rfl, rfl⟩
              go_wp2_with fail
              refine hlv1.mono ?_
              rintro e w12 ⟨rfl, hb12⟩
              have HB12 := hide_p hb12
              clear hb12 hfs1 hlv1
              go_wp2
              go_ret
              exact ⟨rfl, HB12.out⟩
            · have hbl1 : (b.length : Int) > 0 := by have := List.length_pos_iff.2 hb0; omega
              have hcb1 : (convert 33 9 (.slice ba m bc)).run Try.prog w10.drew = .ok (.string (bsN (b.take (m)))) w10.drew := conv_any (w := w10.drew) (BR.first (w := w10.drew) HVV.out.2.1 (m := m) (by omega))
              have hca1 : (convert 33 9 (.slice aa a.length ac)).run Try.prog w10.drew = .ok (.string (bsN a)) w10.drew := conv_any (w := w10.drew) HVV.out.1
              have hct : (convert 33 9 (.slice ta t.length tc)).run Try.prog w10.drew = .ok (.string (bsN t)) w10.drew := conv_any (w := w10.drew) HVV.out.2.2
              have hcx : (convert 33 9 (.slice va' R.length vc')).run Try.prog w10.drew = .ok (.string (bsN R)) w10.drew := conv_any (w := w10.drew) HX.out
              have hfs1 : Calls Try.prog 13 #[.pointer (some ⟨db, 0, none⟩), .string ⟨#[102]⟩] w10.drew fun e w' => e = .returned (.int .i64 (R.length : Nat)) ∧ w' = w10.drew := by
                have := lv_fast w1 w10.drew db _ [102] (HL10.out.below (Below.refl _ _).drew) (by decide)
                rw [HF5.out] at this
                exact this
              have hlv1 := HLv10.out
              have hz1 : ((bsN a).size : Int) ≤ 1000 := by rw [bsN_size]; omega
              have hz2 : ((bsN (b.take (m))).size : Int) ≤ 1000 := by rw [bsN_size, List.length_take]; omega
              have hz3 : ((bsN t).size : Int) ≤ 1000 := by rw [bsN_size]; omega
              have hEq : (bsN R).toList == ((bsN a ++ bsN (b.take (m))) ++ bsN t).toList := by
                rw [HR.out, if_neg hb0, bsN_app, bsN_app, hkk]
                simp
              have hcbl : ((m : Nat) : Int) ≤ (b.length : Int) := by omega
              clear HR HX HVV HLv10 HF5 hfs HL10 hkk
              generalize bsN a = SA at *
              generalize bsN (b.take (m)) = SB at *
              generalize bsN t = ST at *
              generalize bsN R = SR at *
              have hRi : (R.length : Int) ≤ 3000 := by omega
              generalize R.length = rl at *
              go_wp2_with fail
              go_region
              go_wp2_with fail
              refine hfs1.mono ?_
              rintro e w11 ⟨rfl, rfl⟩
              go_wp2_with fail
              refine hlv1.mono ?_
              rintro e w12 ⟨rfl, hb12⟩
              have HB12 := hide_p hb12
              clear hb12 hfs1 hlv1
              go_wp2
              go_ret
              exact ⟨rfl, HB12.out⟩

end Go.Proofs.Ytgkgflkcnigeaaa
