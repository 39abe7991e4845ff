/-
  The statement SumNothing.
-/
import Derived.Test.YtjfgijdojenjnabSumLaws
import Derived.Test.YtjfgijdojenjnabFloRef
namespace Go.Proofs.Ytjfgijdojenjnab
open Go.RowKit Flo

theorem kindv_fin {a : Int} (hm : mag a < 9218868437227405312) (h0 : 0 ≤ mag a) : (kindZ a == 4) = false ∧ (kindZ a == 3) = false ∧ (kindZ a != 3) = true := by
  unfold kindZ
  rw [if_neg (by omega)]
  by_cases c1 : mag a = 0
  · rw [if_pos c1]; decide
  · rw [if_neg c1, if_neg (by omega)]
    split <;> decide
theorem kindv_inf {a : Int} (hm : mag a = 9218868437227405312) : kindZ a = 3 := by unfold kindZ; rw [hm]; rfl

set_option maxHeartbeats 1000000 in
theorem sumNothing_walk (a : Int) (w : World) (ha : U64 a) :
    Calls Try.prog 3 #[.int .u64 a] w fun e w' => e = .returned (.bool true) ∧ Below w.heap.size w w' := by
  have u1 : U64 4607182418800017408 := ⟨by decide, by decide⟩
  have u0 : U64 0 := ⟨by decide, by decide⟩
  have hs := addZ_u64 ha u0
  have A1 := fun w => add_any a 0 w ha u0
  have M1 := fun w => mul_any a 4607182418800017408 w ha u1
  have S1 := fun w => sub_any a a w ha ha
  cases hn : nanB a
  · rw [nothing_mul ha hn] at M1
    have he := nothing_add ha hn
    have E1 := fun w => refEqual_any (addZ a 0) a w hs ha
    rw [he] at E1
    have HE : Hid (∀ w, _) := E1
    have HM : Hid (∀ w, _) := M1
    have HA : Hid (∀ w, _) := A1
    clear E1 M1 A1 he
    generalize addZ a 0 = s at *
    have k4 : (kindZ a == 4) = false := by rw [kind_nan, hn]
    by_cases c : mag a = 9218868437227405312
    · rw [nothing_sub_inf ha c] at S1
      have HS : Hid (∀ w, _) := S1
      have k3 := kindv_inf c
      clear S1 c k4
      go_enter Try.func3, Try.ntmps3
      go_wp2_with fail
      refine (refKind_any _ _ ha).mono ?_
      rintro e w' ⟨rfl, hw'⟩
      rw [hw']
      clear hw' w'
      go_wp2_with fail
      refine (HS.out _).mono ?_
      rintro e w1 ⟨rfl, hb1⟩
      go_wp2_with fail
      refine (HA.out _).mono ?_
      rintro e w2 ⟨rfl, hb2⟩
      replace hb2 := hb1.trans (hb2.mono hb1.size)
      go_wp2_with fail
      refine (HE.out _).mono ?_
      rintro e w' ⟨rfl, rfl⟩
      go_wp2_with fail
      refine (HM.out _).mono ?_
      rintro e w3 ⟨rfl, hb3⟩
      replace hb3 := hb2.trans (hb3.mono hb2.size)
      go_wp2_with fail
      refine (refKind_any _ _ ha).mono ?_
      rintro e w' ⟨rfl, rfl⟩
      go_wp2_with fail
      refine (refNan_any _).mono ?_
      rintro e w' ⟨rfl, rfl⟩
      go_wp2_with fail
      refine (sumLives_any _).mono ?_
      rintro e w7 ⟨rfl, hb7⟩
      go_wp2
      go_ret
      exact ⟨rfl, hb3.trans (hb7.mono hb3.size)⟩
    · have hm : mag a < 9218868437227405312 := by
        unfold nanB at hn
        have := of_decide_eq_false hn
        omega
      rw [nothing_sub ha hm] at S1
      have HS : Hid (∀ w, _) := S1
      obtain ⟨-, k3, k5⟩ := kindv_fin hm (mag_range ha).1
      clear S1 c hm
      go_enter Try.func3, Try.ntmps3
      go_wp2_with fail
      refine (refKind_any _ _ ha).mono ?_
      rintro e w' ⟨rfl, hw'⟩
      rw [hw']
      clear hw' w'
      go_wp2_with fail
      refine (HS.out _).mono ?_
      rintro e w1 ⟨rfl, hb1⟩
      go_wp2_with fail
      refine (HA.out _).mono ?_
      rintro e w2 ⟨rfl, hb2⟩
      replace hb2 := hb1.trans (hb2.mono hb1.size)
      go_wp2_with fail
      refine (HE.out _).mono ?_
      rintro e w' ⟨rfl, rfl⟩
      go_wp2_with fail
      refine (HM.out _).mono ?_
      rintro e w3 ⟨rfl, hb3⟩
      replace hb3 := hb2.trans (hb3.mono hb2.size)
      go_wp2_with fail
      refine (refKind_any _ _ ha).mono ?_
      rintro e w' ⟨rfl, rfl⟩
      go_wp2_with fail
      refine (refKind_any _ _ ha).mono ?_
      rintro e w' ⟨rfl, rfl⟩
      go_wp2_with fail
      refine (sumLives_any _).mono ?_
      rintro e w7 ⟨rfl, hb7⟩
      go_wp2
      go_ret
      exact ⟨rfl, hb3.trans (hb7.mono hb3.size)⟩
  · obtain ⟨n1, n2⟩ := nothing_nan hn
    rw [n1] at A1
    rw [n2] at M1
    have HM : Hid (∀ w, _) := M1
    have HA : Hid (∀ w, _) := A1
    have k4 : (kindZ a == 4) = true := by rw [kind_nan, hn]
    clear M1 A1 S1 n1 n2 hs
    go_enter Try.func3, Try.ntmps3
    go_wp2_with fail
    refine (refKind_any _ _ ha).mono ?_
    rintro e w' ⟨rfl, hw'⟩
    rw [hw']
    clear hw' w'
    go_wp2_with fail
    refine (HA.out _).mono ?_
    rintro e w1 ⟨rfl, hb1⟩
    go_wp2_with fail
    refine (refNan_any _).mono ?_
    rintro e w' ⟨rfl, rfl⟩
    go_wp2_with fail
    refine (HM.out _).mono ?_
    rintro e w3 ⟨rfl, hb3⟩
    replace hb3 := hb1.trans (hb3.mono hb1.size)
    go_wp2_with fail
    refine (refNan_any _).mono ?_
    rintro e w' ⟨rfl, rfl⟩
    go_wp2_with fail
    refine (sumLives_any _).mono ?_
    rintro e w7 ⟨rfl, hb7⟩
    go_wp2
    go_ret
    exact ⟨rfl, hb3.trans (hb7.mono hb3.size)⟩

end Go.Proofs.Ytjfgijdojenjnab
