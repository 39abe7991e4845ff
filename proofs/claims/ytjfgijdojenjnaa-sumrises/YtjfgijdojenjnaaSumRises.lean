/-
  The statement SumRises.
-/
import Derived.Test.YtjfgijdojenjnaaSumLaws
import Derived.Test.YtjfgijdojenjnaaFloRef
namespace Go.Proofs.Ytjfgijdojenjnaa
open Go.RowKit Flo

theorem kindge_fin {a : Int} (hm : mag a < 9218868437227405312) (h0 : 0 ≤ mag a) : decide (3 ≤ kindZ a) = false := by
  refine decide_eq_false ?_
  unfold kindZ
  rw [if_neg (by omega)]
  by_cases c1 : mag a = 0
  · rw [if_pos c1]; decide
  · rw [if_neg c1, if_neg (by omega)]
    split <;> decide
theorem kindge_not {a : Int} (hm : ¬ mag a < 9218868437227405312) : decide (3 ≤ kindZ a) = true := by
  refine decide_eq_true ?_
  unfold kindZ
  split
  · decide
  · rw [if_neg (by omega), if_pos (by omega)]
    decide
theorem mag_mag {c : Int} (h : U64 c) : mag (mag c) = mag c ∧ belowB (mag c) = false ∧ U64 (mag c) := by
  have := mag_range h
  refine ⟨?_, decide_eq_false (by omega), ⟨by omega, by omega⟩⟩
  generalize mag c = m at *
  unfold mag
  rw [if_neg (by omega)]

set_option maxHeartbeats 1000000 in
theorem sumRises_walk (a b c : Int) (w : World) (ha : U64 a) (hb : U64 b) (hc : U64 c) :
    Calls Try.prog 8 #[.int .u64 a, .int .u64 b, .int .u64 c] w fun e w' => e = .returned (.bool true) ∧ Below w.heap.size w w' := by
  by_cases fa : mag a < 9218868437227405312
  · have ka := kindge_fin fa (mag_range ha).1
    by_cases fb : mag b < 9218868437227405312
    · have kb := kindge_fin fb (mag_range hb).1
      by_cases fc : mag c < 9218868437227405312
      · have kc := kindge_fin fc (mag_range hc).1
        obtain ⟨m1, m2, m3⟩ := mag_mag hc
        have hd := andNot_sign c hc
        have HL : Hid (∀ w, _) := fun w => refLess_any b a w hb ha
        have key : (lessB b a = true ∧ sv b ≤ sv a) ∨ (lessB b a = false ∧ sv a ≤ sv b) := by
          unfold lessB
          rw [fin_nan fa, fin_nan fb]
          simp only [Bool.not_false, Bool.true_and]
          rcases Int.lt_or_le (sv b) (sv a) with k | k
          · exact Or.inl ⟨decide_eq_true k, by omega⟩
          · exact Or.inr ⟨decide_eq_false (by omega), k⟩
        obtain ⟨p, q, hp, hq, hpq, hle⟩ : ∃ p q, U64 p ∧ U64 q ∧ ((lessB b a = true ∧ p = b ∧ q = a) ∨ (lessB b a = false ∧ p = a ∧ q = b)) ∧ (lessB (addZ q c) (addZ p c) = false ∧ lessB (mulZ q (mag c)) (mulZ p (mag c)) = false) := by
          rcases key with ⟨k1, k2⟩ | ⟨k1, k2⟩
          · exact ⟨b, a, hb, ha, Or.inl ⟨k1, rfl, rfl⟩, rises_add hb ha fb fa fc k2, rises_mul hb ha fb fa (by omega) m2 k2⟩
          · exact ⟨a, b, ha, hb, Or.inr ⟨k1, rfl, rfl⟩, rises_add ha hb fa fb fc k2, rises_mul ha hb fa fb (by omega) m2 k2⟩
        have A1 : Hid (∀ w, _) := fun w => add_any q c w hq hc
        have A2 : Hid (∀ w, _) := fun w => add_any p c w hp hc
        have L1 := fun w => refLess_any (addZ q c) (addZ p c) w (addZ_u64 hq hc) (addZ_u64 hp hc)
        have L2 := fun w => refLess_any (mulZ q (mag c)) (mulZ p (mag c)) w (mulZ_u64 _ _) (mulZ_u64 _ _)
        rw [hle.1] at L1
        rw [hle.2] at L2
        have HL1 : Hid (∀ w, _) := L1
        have HL2 : Hid (∀ w, _) := L2
        have M1 : Hid (∀ w, _) := fun w => mul_any q (mag c) w hq m3
        have M2 : Hid (∀ w, _) := fun w => mul_any p (mag c) w hp m3
        clear L1 L2 hle key m1 m2 m3 hp hq fa fb fc
        generalize addZ q c = s1 at *
        generalize addZ p c = s2 at *
        generalize mulZ q (mag c) = t1 at *
        generalize mulZ p (mag c) = t2 at *
        generalize mag c = d at *
        rcases hpq with ⟨hl, rfl, rfl⟩ | ⟨hl, rfl, rfl⟩
        all_goals
          go_enter Try.func8, Try.ntmps8
          go_wp2_with (go_at_call 18; refine (refKind_any _ _ (by assumption)).mono ?_; rintro e w' ⟨rfl, rfl⟩)
          refine (HL.out _).mono ?_
          rintro e w' ⟨rfl, rfl⟩
          go_wp2_with fail
          refine (A1.out _).mono ?_
          rintro e w1 ⟨rfl, hb1⟩
          go_wp2_with fail
          refine (A2.out _).mono ?_
          rintro e w2 ⟨rfl, hb2⟩
          replace hb2 := hb1.trans (hb2.mono hb1.size)
          go_wp2_with fail
          refine (HL1.out _).mono ?_
          rintro e w' ⟨rfl, rfl⟩
          go_wp2_with fail
          refine (M1.out _).mono ?_
          rintro e w3 ⟨rfl, hb3⟩
          replace hb3 := hb2.trans (hb3.mono hb2.size)
          go_wp2_with fail
          refine (M2.out _).mono ?_
          rintro e w4 ⟨rfl, hb4⟩
          replace hb4 := hb3.trans (hb4.mono hb3.size)
          go_wp2_with fail
          refine (HL2.out _).mono ?_
          rintro e w' ⟨rfl, rfl⟩
          go_wp2_with fail
          refine (sumLives_any _).mono ?_
          rintro e w7 ⟨rfl, hb7⟩
          go_wp2
          go_ret
          exact ⟨rfl, hb4.trans (hb7.mono hb4.size)⟩
      · have kc := kindge_not fc
        clear fa fb fc
        go_enter Try.func8, Try.ntmps8
        go_wp2_with (go_at_call 18; refine (refKind_any _ _ (by assumption)).mono ?_; rintro e w' ⟨rfl, rfl⟩)
        refine (sumLives_any _).mono ?_
        rintro e w7 ⟨rfl, hb7⟩
        go_wp2
        go_ret
        exact ⟨rfl, hb7⟩
    · have kb := kindge_not fb
      clear fa fb
      go_enter Try.func8, Try.ntmps8
      go_wp2_with (go_at_call 18; refine (refKind_any _ _ (by assumption)).mono ?_; rintro e w' ⟨rfl, rfl⟩)
      refine (sumLives_any _).mono ?_
      rintro e w7 ⟨rfl, hb7⟩
      go_wp2
      go_ret
      exact ⟨rfl, hb7⟩
  · have ka := kindge_not fa
    clear fa
    go_enter Try.func8, Try.ntmps8
    go_wp2_with (go_at_call 18; refine (refKind_any _ _ (by assumption)).mono ?_; rintro e w' ⟨rfl, rfl⟩)
    refine (sumLives_any _).mono ?_
    rintro e w7 ⟨rfl, hb7⟩
    go_wp2
    go_ret
    exact ⟨rfl, hb7⟩

end Go.Proofs.Ytjfgijdojenjnaa
