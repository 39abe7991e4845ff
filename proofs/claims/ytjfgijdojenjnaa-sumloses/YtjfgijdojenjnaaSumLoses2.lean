/-
  The statement SumLoses, all of it.
-/
import Derived.Test.YtjfgijdojenjnaaSumLoses
namespace Go.Proofs.Ytjfgijdojenjnaa
open Go.RowKit Dg Flo

theorem less_mags {a b : Int} (ha : U64 a) (hb : U64 b) (fa : mag a < 9218868437227405312) (fb : mag b < 9218868437227405312) : lessB (mag a) (mag b) = decide (mag a < mag b) := by
  obtain ⟨m1, _, _⟩ := mag_mag ha
  obtain ⟨m2, _, _⟩ := mag_mag hb
  have r1 := mag_range ha
  have r2 := mag_range hb
  have e1 : nanB (mag a) = false := by unfold nanB; rw [m1]; exact decide_eq_false (by omega)
  have e2 : nanB (mag b) = false := by unfold nanB; rw [m2]; exact decide_eq_false (by omega)
  have e3 : sv (mag a) = mag a := by unfold sv; rw [if_neg (by omega)]
  have e4 : sv (mag b) = mag b := by unfold sv; rw [if_neg (by omega)]
  unfold lessB
  rw [e1, e2, e3, e4]
  rfl

set_option maxHeartbeats 1000000 in
theorem sumLoses_walk (a b : Int) (w : World) (ha : U64 a) (hb : U64 b) :
    Calls Try.prog 6 #[.int .u64 a, .int .u64 b] w fun e w' => e = .returned (.bool true) ∧ Below w.heap.size w w' := by
  by_cases fa : mag a < 9218868437227405312
  · have ka := kindge_fin fa (mag_range ha).1
    by_cases fb : mag b < 9218868437227405312
    · have kb := kindge_fin fb (mag_range hb).1
      obtain ⟨p, q, hp, hq, fp, fq, hpq, hle⟩ : ∃ p q, U64 p ∧ U64 q ∧ mag p < 9218868437227405312 ∧ mag q < 9218868437227405312 ∧ ((lessB (mag a) (mag b) = true ∧ p = b ∧ q = a) ∨ (lessB (mag a) (mag b) = false ∧ p = a ∧ q = b)) ∧ mag q ≤ mag p := by
        rw [less_mags ha hb fa fb]
        by_cases c : mag a < mag b
        · exact ⟨b, a, hb, ha, fb, fa, Or.inl ⟨decide_eq_true c, rfl, rfl⟩, by omega⟩
        · exact ⟨a, b, ha, hb, fa, fb, Or.inr ⟨decide_eq_false c, rfl, rfl⟩, by omega⟩
      have su := addZ_u64 hp hq
      have A : Hid (∀ w, _) := fun w => add_any p q w hp hq
      by_cases fs : mag (addZ p q) < 9218868437227405312
      · obtain ⟨fr, hT⟩ := loses hp hq fp fq hle fs
        have du : U64 (subZ (addZ p q) p) := addZ_u64 su (negZ_u64 hp)
        have ru : U64 (subZ q (subZ (addZ p q) p)) := addZ_u64 hq (negZ_u64 du)
        obtain ⟨_, _, _, p3, p4, _⟩ := parts_fin hp fp
        obtain ⟨_, _, _, q3, q4, _⟩ := parts_fin hq fq
        obtain ⟨_, _, _, s3, s4, _⟩ := parts_fin su fs
        obtain ⟨_, _, _, r3, r4, _⟩ := parts_fin ru fr
        refine loses_walk a b p q (addZ p q) (subZ (addZ p q) p) (subZ q (subZ (addZ p q) p)) (min (pexp p) (pexp q)) (min (pexp (addZ p q)) (pexp (subZ q (subZ (addZ p q) p)))) (SV p + SV q) w ha hb ka kb hpq su (kindv3 fs (mag_range su).1) A
          (fun w => sub_any _ _ w su hp) (fun w => sub_any _ _ w hq du) (by omega) (by omega) (by omega) (by omega) (fun w => exact_at p q w hp hq fp fq) ?_
        intro w
        have h := exact_at (addZ p q) (subZ q (subZ (addZ p q) p)) w su ru fs fr
        rw [hT] at h
        exact h
      · have hm : mag (addZ p q) = 9218868437227405312 := by have := add_mag fp fq; omega
        have ks : kindZ (addZ p q) = 3 := by unfold kindZ; rw [hm]; rfl
        have n1 := andNot_sign a ha
        have n2 := andNot_sign b hb
        have HL : Hid (∀ w, _) := fun w => refLess_any (mag a) (mag b) w (mag_u64 ha) (mag_u64 hb)
        clear hle fs hm fp fq hp hq fa fb
        generalize mag a = ma at *
        generalize mag b = mb at *
        generalize addZ p q = s at *
        rcases hpq with ⟨hl, rfl, rfl⟩ | ⟨hl, rfl, rfl⟩
        all_goals
          go_enter Try.func6, Try.ntmps6
          go_wp2_with (go_at_call 18; refine (refKind_any _ _ (by assumption)).mono ?_; rintro e w' ⟨rfl, rfl⟩)
          refine (HL.out _).mono ?_
          rintro e' w' ⟨rfl, rfl⟩
          go_wp2_with fail
          refine (A.out _).mono ?_
          rintro e' w1 ⟨rfl, hb1⟩
          go_wp2_with fail
          refine (refKind_any _ _ su).mono ?_
          rintro e' w1' ⟨rfl, hw'⟩
          rw [hw']
          clear hw' w1'
          go_wp2_with fail
          refine (sumLives_any _).mono ?_
          rintro e w7 ⟨rfl, hb7⟩
          go_wp2
          go_ret
          exact ⟨rfl, hb1.trans (hb7.mono hb1.size)⟩
    · have kb := kindge_not fb
      clear fa fb
      go_enter Try.func6, Try.ntmps6
      go_wp2_with (go_at_call 18; refine (refKind_any _ _ (by assumption)).mono ?_; rintro e w' ⟨rfl, rfl⟩)
      refine (sumLives_any _).mono ?_
      rintro e w7 ⟨rfl, hb7⟩
      go_wp2
      go_ret
      exact ⟨rfl, hb7⟩
  · have ka := kindge_not fa
    clear fa
    go_enter Try.func6, Try.ntmps6
    go_wp2_with (go_at_call 18; refine (refKind_any _ _ (by assumption)).mono ?_; rintro e w' ⟨rfl, rfl⟩)
    refine (sumLives_any _).mono ?_
    rintro e w7 ⟨rfl, hb7⟩
    go_wp2
    go_ret
    exact ⟨rfl, hb7⟩

end Go.Proofs.Ytjfgijdojenjnaa
