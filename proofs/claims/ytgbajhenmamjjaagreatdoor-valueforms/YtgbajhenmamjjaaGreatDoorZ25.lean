/-
  Rp5
-/
import Derived.Deep.QuietTactic
import Derived.BigQuiet
import Derived.Test.YtgbajhenmamjjaaGreatDoorZ24

/-
  The reference's Print, walked; DecPrints: the walk.
-/
namespace Go.Proofs.YtgbajhenmamjjaaGreatDoor
set_option maxRecDepth 100000
open Go.RowKit Txt Dg Flo

set_option maxHeartbeats 2000000 in
theorem refPrint_any (a : Int) (L : List UInt8) (w : World) (ha : U64 a) (hL : PrS a L) :
    Calls Tryz.prog 24 #[.int .u64 a] w fun e w' => e = .returned (.string (bs L)) ∧ Below w.heap.size w w' := by
  have HNg : Hid (∀ w, Calls Tryz.prog 34 #[.int .u64 a] w fun e w' => e = .returned (.bool (belowB a)) ∧ w' = w) := fun w => refNeg_any a w ha
  have HKi : Hid (∀ w, Calls Tryz.prog 18 #[.int .u64 a] w fun e w' => e = .returned (.int .i64 (kindZ a)) ∧ w' = w) := fun w => refKind_any a w ha
  obtain ⟨sg, hsg⟩ : ∃ s, bs (sgT a) = s := ⟨_, rfl⟩
  have hss : sg.size ≤ 1 := by rw [← hsg, bs_size]; unfold sgT; split <;> decide
  have HSG : Hid (sg = if belowB a then ⟨#[45]⟩ else ⟨#[]⟩) := by show _ = _; rw [← hsg]; unfold sgT; split <;> rfl
  have hsa : ∀ x y : ByteArray, (x ++ y).size = x.size + y.size := fun _ _ => ByteArray.size_append
  rcases hL with ⟨hk, rfl⟩ | ⟨hk, rfl⟩ | ⟨hk, rfl⟩ | ⟨hk, f, d, up, down, x, c, n, m, Q, place, h1, h2, h3, hp, rfl⟩
  · rw [hk] at HKi
    show Calls Tryz.prog 24 #[.int .u64 a] w fun e w' => e = .returned (.string ⟨#[110, 97, 110]⟩) ∧ Below w.heap.size w w'
    generalize belowB a = nb at *
    cases nb
    all_goals
      go_enter Tryz.func24, Tryz.ntmps24
      go_wp2_with fail
      refine (HNg.out _).mono ?_
      rintro e w' ⟨rfl, hw⟩
      rw [hw]
      clear hw w'
      go_wp2_with fail
      refine (HKi.out _).mono ?_
      rintro e w' ⟨rfl, hw⟩
      rw [hw]
      clear hw w'
      go_wp2
      go_ret
      exact ⟨rfl, Below.refl _ _⟩
  · rw [hk] at HKi
    rw [← bs_append, hsg, show bs [105, 110, 102] = ⟨#[105, 110, 102]⟩ from rfl]
    generalize belowB a = nb at *
    cases nb
    all_goals
      go_enter Tryz.func24, Tryz.ntmps24
      go_wp2_with fail
      refine (HNg.out _).mono ?_
      rintro e w' ⟨rfl, hw⟩
      rw [hw]
      clear hw w'
      go_wp2_with fail
      refine (HKi.out _).mono ?_
      rintro e w' ⟨rfl, hw⟩
      rw [hw]
      clear hw w'
      go_wp2
      go_ret
      exact ⟨by rw [HSG.out]; rfl, Below.refl _ _⟩
  · rw [hk] at HKi
    rw [← bs_append, hsg, show bs [48] = ⟨#[48]⟩ from rfl]
    generalize belowB a = nb at *
    cases nb
    all_goals
      go_enter Tryz.func24, Tryz.ntmps24
      go_wp2_with fail
      refine (HNg.out _).mono ?_
      rintro e w' ⟨rfl, hw⟩
      rw [hw]
      clear hw w'
      go_wp2_with fail
      refine (HKi.out _).mono ?_
      rintro e w' ⟨rfl, hw⟩
      rw [hw]
      clear hw w'
      go_wp2
      go_ret
      exact ⟨by rw [HSG.out]; rfl, Below.refl _ _⟩
  · have hlen := tQ_len hp
    have hpl := pm_place hp
    have heq := eQ_bd (m := m) (Q := Q) hpl.1 hpl.2
    obtain ⟨g1, g2, g3, g4, g5⟩ := pexp_mag ha
    have HS : Hid (∀ w, Calls Tryz.prog 35 #[.int .u64 (mag a)] w fun e w' => e = .returned (.tuple #[.string (bs (tQ Q)), .int .i64 (eQ (place + n) m Q)]) ∧ Below w.heap.size w w') := fun w => refShortest_any (mag a) hp w g1 (g3.trans h1) (g4.trans h2) h3
    have han := andNot_sign a ha
    rw [← bs_append, hsg]
    clear h1 h2 h3 g1 g2 g3 g4 g5 hp hpl hsg
    generalize eQ (place + n) m Q = E at *
    generalize tQ Q = D at *
    generalize mag a = ma at *
    have hk0 : (kindZ a == 4) = false ∧ (kindZ a == 3) = false ∧ (kindZ a == 0) = false := by
      refine ⟨?_, ?_, ?_⟩ <;> (rw [beq_eq_false_iff_ne]; omega)
    obtain ⟨k4, k3, k0⟩ := hk0
    clear hk
    generalize kindZ a = kz at *
    generalize belowB a = nb at *
    have hs : (bs D).size = D.length := bs_size D
    obtain ⟨E1, E2⟩ := heq
    obtain ⟨l1, l2⟩ := hlen
    by_cases cA : -7 ≤ E ∧ E < 0
    · obtain ⟨z, hz⟩ : ∃ z : Nat, -E - 1 = (z : Int) := ⟨(-E - 1).toNat, by omega⟩
      have hz6 : z ≤ 6 := by omega
      have HV : Hid (sg ++ ⟨#[48, 46]⟩ ++ bs (List.replicate z 48) ++ bs D = sg ++ bs (layT D E)) := by
        show _ = _
        have e1 : layT D E = [48, 46] ++ (List.replicate z 48 ++ D) := by
          unfold layT
          rw [if_neg (by omega), if_neg (by omega), if_pos cA.2, show (-E - 1).toNat = z by omega]
        rw [e1, ← bs_append, ← bs_append, show bs [48, 46] = ⟨#[48, 46]⟩ from rfl, ByteArray.append_assoc, ByteArray.append_assoc]
      have HN : Hid (∀ w, Calls Tryz.prog 36 #[.int .i64 z] w fun e w' => e = .returned (.string (bs (List.replicate z 48))) ∧ w' = w) := fun w => noughts_any z w (by omega)
      have hzs : (bs (List.replicate z 48)).size = z := by rw [bs_size, List.length_replicate]
      have HZ : Hid (-E - 1 = (z : Int)) := hz
      obtain ⟨cA1, cA2⟩ := cA
      generalize sg ++ bs (layT D E) = R at *
      generalize bs (List.replicate z 48) = Zs at *
      generalize bs D = S at *
      clear hz
      cases nb
      all_goals
        go_enter Tryz.func24, Tryz.ntmps24
        go_wp2_with fail
        refine (HNg.out _).mono ?_
        rintro e w' ⟨rfl, hw⟩
        rw [hw]
        clear hw w'
        go_wp2_with fail
        refine (HKi.out _).mono ?_
        rintro e w' ⟨rfl, hw⟩
        rw [hw]
        clear hw w'
        go_wp2_with fail
        refine (HS.out _).mono ?_
        rintro e w1 ⟨rfl, hb1⟩
        go_wp2_with fail
        rw [HZ.out]
        refine (HN.out _).mono ?_
        rintro e w' ⟨rfl, hw⟩
        rw [hw]
        have HB : Hid (Below w.heap.size w w1) := hb1
        clear hw w' hb1
        go_wp2
        go_ret
        exact ⟨by rw [← HV.out, HSG.out]; rfl, HB.out⟩
    · by_cases cB : 0 ≤ E ∧ E ≤ 20
      · obtain ⟨y, rfl⟩ : ∃ y : Nat, E = (y : Int) := ⟨E.toNat, by omega⟩
        obtain ⟨cB1, cB2⟩ := cB
        have HN : Hid (∀ w, Calls Tryz.prog 36 #[.int .i64 ((y : Int) + 1 - (D.length : Int))] w fun e w' => e = .returned (.string (bs (List.replicate (y + 1 - D.length) 48))) ∧ w' = w) := fun w => by
          have := noughts_any ((y : Int) + 1 - (D.length : Int)) w (by omega)
          rw [show ((y : Int) + 1 - (D.length : Int)).toNat = y + 1 - D.length by omega] at this
          exact this
        have c0 : ¬ (y : Int) < 0 := by omega
        have c7 : ¬ (y : Int) < -7 := by omega
        by_cases hc : D.length ≤ y + 1
        · have HV : Hid (sg ++ (bs D ++ bs (List.replicate (y + 1 - D.length) 48)) = sg ++ bs (layT D y)) := by
            show _ = _
            have e1 : layT D y = D ++ List.replicate (y + 1 - D.length) 48 := by
              unfold layT
              rw [if_neg (by omega), if_neg (by omega), if_neg (by omega)]
              by_cases q : D.length = y + 1
              · rw [if_neg (by omega), show ((y : Int) + 1).toNat = y + 1 by omega, q, Nat.sub_self]
                unfold dotT
                rw [if_pos q]; simp
              · rw [if_pos (by omega), show ((y : Int) + 1 - (D.length : Nat)).toNat = y + 1 - D.length by omega]
            rw [e1, bs_append]
          have hzs : (bs (List.replicate (y + 1 - D.length) 48)).size = y + 1 - D.length := by rw [bs_size, List.length_replicate]
          have hlen2 : (((D.length + (y + 1 - D.length) : Nat) : Int) == (y : Int) + 1) = true := by rw [beq_iff_eq]; omega
          have hlen3 : (bs D ++ bs (List.replicate (y + 1 - D.length) 48)).size = y + 1 := by rw [hsa, hs, hzs]; omega
          generalize sg ++ bs (layT D y) = R at *
          generalize bs (List.replicate (y + 1 - D.length) 48) = Zs at *
          have hlm : y + 1 - D.length ≤ 21 := by omega
          generalize y + 1 - D.length = zz at *
          generalize bs D = S at *
          generalize D.length = dl at *
          clear hsa hlen2
          have hzz : sg.size + (y + 1) ≤ 100 := by omega
          cases nb
          all_goals
            go_enter Tryz.func24, Tryz.ntmps24
            go_wp2_with fail
            refine (HNg.out _).mono ?_
            rintro e w' ⟨rfl, hw⟩
            rw [hw]
            clear hw w'
            go_wp2_with fail
            refine (HKi.out _).mono ?_
            rintro e w' ⟨rfl, hw⟩
            rw [hw]
            clear hw w'
            go_wp2_with fail
            refine (HS.out _).mono ?_
            rintro e w1 ⟨rfl, hb1⟩
            go_wp2_with fail
            refine (HN.out _).mono ?_
            rintro e w' ⟨rfl, hw⟩
            rw [hw]
            have HB : Hid (Below w.heap.size w w1) := hb1
            clear hw w' hb1
            go_wp2
            go_ret
            exact ⟨by rw [← HV.out, HSG.out]; rfl, HB.out⟩
        · have e0 : y + 1 - D.length = 0 := by omega
          rw [e0] at HN
          have HV : Hid (sg ++ (bs D).extract 0 (y + 1) ++ ⟨#[46]⟩ ++ (bs D).extract (y + 1) D.length = sg ++ bs (layT D y)) := by
            show _ = _
            have e1 : layT D y = D.take (y + 1) ++ 46 :: D.drop (y + 1) := by
              unfold layT
              rw [if_neg (by omega), if_neg (by omega), if_neg (by omega), if_neg (by omega), show ((y : Int) + 1).toNat = y + 1 by omega]
              unfold dotT
              rw [if_neg (by omega)]
            rw [e1, bs_extract, bs_extract, show (⟨#[46]⟩ : ByteArray) = bs [46] from rfl, ByteArray.append_assoc, ByteArray.append_assoc, bs_append, bs_append, List.drop_zero, Nat.sub_zero, List.take_of_length_le (l := D.drop (y + 1)) (by rw [List.length_drop]; omega)]
            rfl
          have hap : bs D ++ bs (List.replicate 0 48) = bs D := by rw [bs_append]; simp
          have z1 : ((bs D).extract 0 (y + 1)).size = y + 1 := by rw [bs_extract, bs_size]; simp; omega
          have z2 : ((bs D).extract (y + 1) D.length).size = D.length - (y + 1) := by rw [bs_extract, bs_size]; simp
          have z0 : (bs (List.replicate 0 48)).size = 0 := by rw [bs_size]; rfl
          generalize sg ++ bs (layT D y) = R at *
          generalize bs (List.replicate 0 48) = Zs at *
          generalize bs D = S at *
          generalize D.length = dl at *
          have hq1 : ((dl : Int) == (y : Int) + 1) = false := by rw [beq_eq_false_iff_ne]; omega
          have q1 : (0 : Int) ≤ (y : Int) + 1 := by omega
          have q2 : (y : Int) + 1 ≤ (dl : Int) := by omega
          have q3 : (S.size : Int) = (dl : Int) := by omega
          cases nb
          all_goals
            go_enter Tryz.func24, Tryz.ntmps24
            go_wp2_with fail
            refine (HNg.out _).mono ?_
            rintro e w' ⟨rfl, hw⟩
            rw [hw]
            clear hw w'
            go_wp2_with fail
            refine (HKi.out _).mono ?_
            rintro e w' ⟨rfl, hw⟩
            rw [hw]
            clear hw w'
            go_wp2_with fail
            refine (HS.out _).mono ?_
            rintro e w1 ⟨rfl, hb1⟩
            go_wp2_with fail
            refine (HN.out _).mono ?_
            rintro e w' ⟨rfl, hw⟩
            rw [hw]
            have HB : Hid (Below w.heap.size w w1) := hb1
            clear hw w' hb1
            go_wp2_with fail
            go_quiet (fail)
            go_wp2
            go_ret
            exact ⟨by rw [← HV.out, HSG.out]; rfl, below_drewN HB.out _⟩
      · obtain ⟨z, hz⟩ : ∃ z : Nat, (E < 0 ∧ -E = (z : Int)) ∨ (¬ E < 0 ∧ E = (z : Int)) := by
          by_cases q : E < 0
          · exact ⟨(-E).toNat, Or.inl ⟨q, by omega⟩⟩
          · exact ⟨E.toNat, Or.inr ⟨q, by omega⟩⟩
        have hz5 : z ≤ 500 := by omega
        have HN : Hid (∀ w, Calls Tryz.prog 37 #[.int .i64 z] w fun e w' => e = .returned (.string (bs (Lib.decDigits z))) ∧ Below w.heap.size w w') := fun w => number_any z w (by omega)
        have hdz : (bs (Lib.decDigits z)).size ≤ 3 := by rw [bs_size]; exact dec_len (by omega)
        have cA' : ¬ (-7 ≤ E ∧ E < 0) := cA
        have HDt : Hid (D.length = 1 ∧ dotT D 1 = D ∨ 1 < D.length ∧ (bs D).extract 0 1 ++ ⟨#[46]⟩ ++ (bs D).extract 1 D.length = bs (dotT D 1)) := by
          by_cases q : D.length = 1
          · left; exact ⟨q, if_pos q⟩
          · right
            refine ⟨by omega, ?_⟩
            unfold dotT
            rw [if_neg q, bs_extract, bs_extract, show (⟨#[46]⟩ : ByteArray) = bs [46] from rfl, bs_append, bs_append, List.drop_zero, List.take_of_length_le (l := D.drop 1) (by rw [List.length_drop]; omega), List.append_assoc]
            rfl
        have hdl : (bs (dotT D 1)).size ≤ 20 := by rw [bs_size]; have := dotT_len D 1; omega
        have ha1 : (sg ++ bs (dotT D 1)).size ≤ 30 := by rw [hsa]; omega
        rcases hz with ⟨e0, ez⟩ | ⟨e0, ez⟩
        · have HV : Hid (sg ++ bs (dotT D 1) ++ ⟨#[101, 45]⟩ ++ bs (Lib.decDigits z) = sg ++ bs (layT D E)) := by
            show _ = _
            have e1 : layT D E = dotT D 1 ++ ([101, 45] ++ Lib.decDigits z) := by
              unfold layT
              rw [if_pos (by omega), show (-E).toNat = z by omega]
            rw [e1, ← bs_append, ← bs_append, show bs [101, 45] = ⟨#[101, 45]⟩ from rfl, ByteArray.append_assoc, ByteArray.append_assoc]
          have ha2 : (sg ++ bs (dotT D 1) ++ ⟨#[101, 45]⟩).size ≤ 40 := by rw [hsa, show (⟨#[101, 45]⟩ : ByteArray).size = 2 from rfl]; omega
          have HZ : Hid (-E = (z : Int)) := ez
          have cE : E < -7 := by omega
          generalize sg ++ bs (layT D E) = R at *
          generalize bs (Lib.decDigits z) = N at *
          clear ez cA cB cA'
          have cF : ¬ -7 ≤ E := by omega
          rcases HDt.out with ⟨q1, q2⟩ | ⟨q1, q2⟩
          · rw [q2] at HV ha1 ha2 hdl
            have c1 : ¬ (1 : Int) < (D.length : Int) := by omega
            clear q2 HDt
            generalize bs D = S at *
            generalize D.length = dl at *
            cases nb
            all_goals
              go_enter Tryz.func24, Tryz.ntmps24
              go_wp2_with fail
              refine (HNg.out _).mono ?_
              rintro e w' ⟨rfl, hw⟩
              rw [hw]
              clear hw w'
              go_wp2_with fail
              refine (HKi.out _).mono ?_
              rintro e w' ⟨rfl, hw⟩
              rw [hw]
              clear hw w'
              go_wp2_with fail
              refine (HS.out _).mono ?_
              rintro e w1 ⟨rfl, hb1⟩
              go_wp2_with fail
              rw [HZ.out]
              refine (HN.out _).mono ?_
              rintro e w2 ⟨rfl, hb2⟩
              have HB : Hid (Below w.heap.size w w2) := hb1.trans (hb2.mono hb1.size)
              clear hb2
              go_wp2
              go_ret
              exact ⟨by rw [← HV.out, HSG.out]; rfl, HB.out⟩
          · have c1 : (1 : Int) < (D.length : Int) := by omega
            have HQ2 : Hid ((bs D).extract 0 1 ++ ⟨#[46]⟩ ++ (bs D).extract 1 D.length = bs (dotT D 1)) := q2
            have z1 : ((bs D).extract 0 1).size = 1 := by rw [bs_extract, bs_size]; simp; omega
            have z2 : ((bs D).extract 1 D.length).size = D.length - 1 := by rw [bs_extract, bs_size]; simp
            have q4 : (1 : Int) ≤ (D.length : Int) := by omega
            have q3 : ((bs D).size : Int) = (D.length : Int) := by omega
            clear q2 HDt
            generalize bs (dotT D 1) = Dt at *
            generalize bs D = S at *
            generalize D.length = dl at *
            cases nb
            all_goals
              go_enter Tryz.func24, Tryz.ntmps24
              go_wp2_with fail
              refine (HNg.out _).mono ?_
              rintro e w' ⟨rfl, hw⟩
              rw [hw]
              clear hw w'
              go_wp2_with fail
              refine (HKi.out _).mono ?_
              rintro e w' ⟨rfl, hw⟩
              rw [hw]
              clear hw w'
              go_wp2_with fail
              refine (HS.out _).mono ?_
              rintro e w1 ⟨rfl, hb1⟩
              have HB1 : Hid (Below w.heap.size w w1) := hb1
              clear hb1
              go_wp2_with fail
              go_quiet (fail)
              rw [HQ2.out]
              have HBd : Hid (Below w.heap.size w (w1.drewN nq)) := below_drewN HB1.out _
              go_wp2_with fail
              rw [HZ.out]
              refine (HN.out _).mono ?_
              rintro e w2 ⟨rfl, hb2⟩
              have HB : Hid (Below w.heap.size w w2) := HBd.out.trans (hb2.mono HBd.out.size)
              clear hb2
              go_wp2
              go_ret
              exact ⟨by rw [← HV.out, HSG.out]; rfl, HB.out⟩
        · subst ez
          have e00 : ¬ (z : Int) < 0 := by omega
          have HV : Hid (sg ++ bs (dotT D 1) ++ ⟨#[101, 43]⟩ ++ bs (Lib.decDigits z) = sg ++ bs (layT D z)) := by
            show _ = _
            have e1 : layT D z = dotT D 1 ++ ([101, 43] ++ Lib.decDigits z) := by
              unfold layT
              rw [if_neg (by omega), if_pos (by omega), show ((z : Int)).toNat = z by omega]
            rw [e1, ← bs_append, ← bs_append, show bs [101, 43] = ⟨#[101, 43]⟩ from rfl, ByteArray.append_assoc, ByteArray.append_assoc]
          have ha2 : (sg ++ bs (dotT D 1) ++ ⟨#[101, 43]⟩).size ≤ 40 := by rw [hsa, show (⟨#[101, 43]⟩ : ByteArray).size = 2 from rfl]; omega
          have HZ : Hid (True) := trivial
          have cE : 20 < (z : Int) := by omega
          generalize sg ++ bs (layT D z) = R at *
          generalize bs (Lib.decDigits z) = N at *
          clear cA cB cA'
          have cF : ¬ (z : Int) ≤ 20 := by omega
          rcases HDt.out with ⟨q1, q2⟩ | ⟨q1, q2⟩
          · rw [q2] at HV ha1 ha2 hdl
            have c1 : ¬ (1 : Int) < (D.length : Int) := by omega
            clear q2 HDt
            generalize bs D = S at *
            generalize D.length = dl at *
            cases nb
            all_goals
              go_enter Tryz.func24, Tryz.ntmps24
              go_wp2_with fail
              refine (HNg.out _).mono ?_
              rintro e w' ⟨rfl, hw⟩
              rw [hw]
              clear hw w'
              go_wp2_with fail
              refine (HKi.out _).mono ?_
              rintro e w' ⟨rfl, hw⟩
              rw [hw]
              clear hw w'
              go_wp2_with fail
              refine (HS.out _).mono ?_
              rintro e w1 ⟨rfl, hb1⟩
              go_wp2_with fail
              refine (HN.out _).mono ?_
              rintro e w2 ⟨rfl, hb2⟩
              have HB : Hid (Below w.heap.size w w2) := hb1.trans (hb2.mono hb1.size)
              clear hb2
              go_wp2
              go_ret
              exact ⟨by rw [← HV.out, HSG.out]; rfl, HB.out⟩
          · have c1 : (1 : Int) < (D.length : Int) := by omega
            have HQ2 : Hid ((bs D).extract 0 1 ++ ⟨#[46]⟩ ++ (bs D).extract 1 D.length = bs (dotT D 1)) := q2
            have z1 : ((bs D).extract 0 1).size = 1 := by rw [bs_extract, bs_size]; simp; omega
            have z2 : ((bs D).extract 1 D.length).size = D.length - 1 := by rw [bs_extract, bs_size]; simp
            have q4 : (1 : Int) ≤ (D.length : Int) := by omega
            have q3 : ((bs D).size : Int) = (D.length : Int) := by omega
            clear q2 HDt
            generalize bs (dotT D 1) = Dt at *
            generalize bs D = S at *
            generalize D.length = dl at *
            cases nb
            all_goals
              go_enter Tryz.func24, Tryz.ntmps24
              go_wp2_with fail
              refine (HNg.out _).mono ?_
              rintro e w' ⟨rfl, hw⟩
              rw [hw]
              clear hw w'
              go_wp2_with fail
              refine (HKi.out _).mono ?_
              rintro e w' ⟨rfl, hw⟩
              rw [hw]
              clear hw w'
              go_wp2_with fail
              refine (HS.out _).mono ?_
              rintro e w1 ⟨rfl, hb1⟩
              have HB1 : Hid (Below w.heap.size w w1) := hb1
              clear hb1
              go_wp2_with fail
              go_quiet (fail)
              rw [HQ2.out]
              have HBd : Hid (Below w.heap.size w (w1.drewN nq)) := below_drewN HB1.out _
              go_wp2_with fail
              refine (HN.out _).mono ?_
              rintro e w2 ⟨rfl, hb2⟩
              have HB : Hid (Below w.heap.size w w2) := HBd.out.trans (hb2.mono HBd.out.size)
              clear hb2
              go_wp2
              go_ret
              exact ⟨by rw [← HV.out, HSG.out]; rfl, HB.out⟩

end Go.Proofs.YtgbajhenmamjjaaGreatDoor
