/-
  The statement SumScales.
-/
import Derived.Test.YtjfgijdojenjnaaSumLaws
import Derived.Test.YtjfgijdojenjnaaSumRef2
namespace Go.Proofs.Ytjfgijdojenjnaa
open Go.RowKit Dg Flo

theorem kind_plain {a : Int} (h : U64 a) (hk : kindZ a = 2) : mag a < 9218868437227405312 ∧ mag a ≠ 0 := by
  have := mag_range h
  unfold kindZ at hk
  split at hk
  · exact absurd hk (by decide)
  · split at hk
    · exact absurd hk (by decide)
    · split at hk
      · exact absurd hk (by decide)
      · omega

set_option maxHeartbeats 1000000 in
theorem sumScales_walk (a b : Int) (w : World) (ha : U64 a) (hb0 : 0 ≤ b) (hb1 : b < 256) :
    Calls Try.prog 7 #[.int .u64 a, .int .u8 b] w fun e w' => e = .returned (.bool true) ∧ Below w.heap.size w w' := by
  have HP : Hid (∀ w, _) := fun w => refParts_any a w ha
  by_cases hk : kindZ a = 2
  · obtain ⟨fa, f0⟩ := kind_plain ha hk
    obtain ⟨f, f1, f2, f3, f4, f5⟩ := parts_fin ha fa
    obtain ⟨k, hk1⟩ : ∃ k : Nat, b % 100 = (k : Int) := ⟨(b % 100).toNat, by omega⟩
    have hk2 : k < 100 := by omega
    obtain ⟨two, htwo⟩ : ∃ two : Int, two = (1023 + (k : Int)) * 4503599627370496 := ⟨_, rfl⟩
    have ut : U64 two := ⟨by omega, by omega⟩
    have m1 := fun w => mul_any a two w ha ut
    rw [htwo, scales_mul fa k hk2, ← htwo] at m1
    have a1 := fun w => add_any a a w ha ha
    rw [scales_add ha fa f0] at a1
    have e1 : f * 2 ^ (pexp a + (k : Int) + 1074).toNat = MZ a * 2 ^ k := by
      rw [← f5, Nat.mul_assoc, ← Nat.pow_add]; congr 2; omega
    have e2 : f * 2 ^ (pexp a + 1 + 1074).toNat = 2 * MZ a := by
      rw [← f5, Nat.mul_comm 2, Nat.mul_assoc, ← Nat.pow_succ]; congr 2; omega
    have HR1 : Hid (∀ v w (X : Int), X = pexp a + (k : Int) → D w v f 4 → Calls Try.prog 25 #[.bool (belowB a), .int .i64 X, v, .bool false] w fun e w' => e = .returned (.int .u64 (sgn (belowB a) + (rung 0 (MZ a * 2 ^ k) : Nat))) ∧ Below w.heap.size w w') := by
      intro v w X hX hD
      have h := round_one v f 4 (pexp a + (k : Int)) (belowB a) w hD (by decide) (by omega) (by omega)
      rw [e1] at h
      rw [hX]; exact h
    have HR2 : Hid (∀ v w (X : Int), X = pexp a + 1 → D w v f 4 → Calls Try.prog 25 #[.bool (belowB a), .int .i64 X, v, .bool false] w fun e w' => e = .returned (.int .u64 (sgn (belowB a) + (rung 0 (2 * MZ a) : Nat))) ∧ Below w.heap.size w w') := by
      intro v w X hX hD
      have h := round_one v f 4 (pexp a + 1) (belowB a) w hD (by decide) (by omega) (by omega)
      rw [e2] at h
      rw [hX]; exact h
    generalize sgn (belowB a) + ((rung 0 (MZ a * 2 ^ k) : Nat) : Int) = R1 at *
    generalize sgn (belowB a) + ((rung 0 (2 * MZ a) : Nat) : Int) = R2 at *
    have HM : Hid (∀ w (t : Int), t = two → Calls Try.prog 15 #[.int .u64 a, .int .u64 t] w fun e w' => e = .returned (.int .u64 R1) ∧ Below w.heap.size w w') := by
      intro w t ht; rw [ht]; exact m1 w
    have HA : Hid (∀ w, _) := a1
    rw [f1] at HP
    clear m1 a1 e1 e2 f5 f1
    generalize pexp a = E at *
    generalize belowB a = n at *
    go_enter Try.func7, Try.ntmps7
    go_wp2_with fail
    refine (HP.out _).mono ?_
    rintro e w' ⟨rfl, hw'⟩
    rw [hw']
    clear hw' w'
    go_wp2_with fail
    refine (refKind_any _ _ ha).mono ?_
    rintro e w' ⟨rfl, hw'⟩
    rw [hw']
    clear hw' w'
    go_wp2_with fail
    refine (HM.out _ _ (by omega)).mono ?_
    rintro e w1 ⟨rfl, hb1⟩
    go_wp2_with fail
    refine (digits_any f _ (by omega)).mono ?_
    rintro e w2 ⟨v2, rfl, hd2, hb2⟩
    replace hb2 := hb1.trans (hb2.mono hb1.size)
    go_wp2_with fail
    refine (HR1.out _ _ _ (by omega) hd2).mono ?_
    rintro e w3 ⟨rfl, hb3⟩
    replace hb3 := hb2.trans (hb3.mono hb2.size)
    go_wp2_with fail
    refine (HA.out _).mono ?_
    rintro e w4 ⟨rfl, hb4⟩
    replace hb4 := hb3.trans (hb4.mono hb3.size)
    go_wp2_with fail
    refine (digits_any f _ (by omega)).mono ?_
    rintro e w5 ⟨v5, rfl, hd5, hb5⟩
    replace hb5 := hb4.trans (hb5.mono hb4.size)
    go_wp2_with fail
    refine (HR2.out _ _ _ (by omega) hd5).mono ?_
    rintro e w6 ⟨rfl, hb6⟩
    replace hb6 := hb5.trans (hb6.mono hb5.size)
    go_wp2_with fail
    refine (sumLives_any _).mono ?_
    rintro e w7 ⟨rfl, hb7⟩
    go_wp2
    go_ret
    exact ⟨rfl, hb6.trans (hb7.mono hb6.size)⟩
  · have k2 : (kindZ a != 2) = true := by simpa using hk
    clear hk
    go_enter Try.func7, Try.ntmps7
    go_wp2_with fail
    refine (HP.out _).mono ?_
    rintro e w' ⟨rfl, hw'⟩
    rw [hw']
    clear hw' w'
    go_wp2_with fail
    refine (refKind_any _ _ ha).mono ?_
    rintro e w' ⟨rfl, hw'⟩
    rw [hw']
    clear hw' w'
    go_wp2_with fail
    refine (sumLives_any _).mono ?_
    rintro e w7 ⟨rfl, hb7⟩
    go_wp2
    go_ret
    exact ⟨rfl, hb7⟩

end Go.Proofs.Ytjfgijdojenjnaa
