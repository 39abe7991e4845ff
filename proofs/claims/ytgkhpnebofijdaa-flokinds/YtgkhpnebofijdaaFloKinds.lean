/-
  What kind each number is of, what its parts are, and that these make it again: the walk of the statement FloKinds.
-/
import Derived.Test.YtgkhpnebofijdaaFloRef2
import Derived.Test.YtgkhpnebofijdaaFloNat
namespace Go.Proofs.Ytgkhpnebofijdaa
open Go.RowKit Flo

theorem pow_zero53 : 2 ^ (53 - (52 + 1)) = 1 := by decide
theorem rung_plain {n E : Nat} (h0 : 4503599627370496 ≤ n) (h1 : n < 9007199254740992) (hE : 1 ≤ E) (hE2 : E ≤ 2046) : rung G (n * 2 ^ (E + G - 1)) = (E - 1) * 4503599627370496 + n := by
  have rr := rung_a0 (g := G) (n := n) (L := 52) (E := E + G - 1) (by omega) (by omega) (by omega) (by omega)
  rw [pow_zero53, Nat.mul_one, show 52 + 1 + (E + G - 1) - 53 - G = E - 1 by omega] at rr
  rw [rr]
  omega
theorem rung_tinies {n : Nat} (h1 : n < 9007199254740992) : rung G (n * 2 ^ G) = n := by
  rw [rung_b0 (L := 53) (by omega) (by omega) (Nat.le_refl _), Nat.sub_self]
  omega
theorem units_at (e : Int) (n k : Nat) (h1 : -1200 ≤ e) (h2 : e ≤ 1100) (hk : (k : Int) = e + 1074 + G) : units e n false = n * 2 ^ k := by
  have hg := G_eq
  unfold units
  rw [show k = (min (max e (-1200)) 1100 + 1073 + (G : Int)).toNat + 1 by omega, Nat.pow_succ]
  simp only [Bool.toNat_false, Nat.add_zero]
  rw [Nat.mul_comm 2 n, Nat.mul_assoc, Nat.mul_comm 2]

theorem kind_finite {a : Int} (k : kindZ a = 0 ∨ kindZ a = 1 ∨ kindZ a = 2) : mag a < 9218868437227405312 ∧ (kindZ a = 0 → mag a = 0) ∧ (kindZ a = 1 → mag a < 4503599627370496) ∧ (kindZ a = 2 → 4503599627370496 ≤ mag a) := by
  unfold kindZ at *
  (repeat' split at k) <;> simp_all <;> omega

theorem sign_made {a : Int} (r : Nat) (hr : (r : Int) = mag a) : (if belowB a = true then 9223372036854775808 + (r : Int) else (r : Int)) = a := by
  rw [hr]
  unfold belowB mag
  by_cases c : 9223372036854775808 ≤ a
  · rw [decide_eq_true c, if_pos c, if_pos rfl]; omega
  · rw [decide_eq_false c, if_neg c, if_neg (by decide)]

/-- The parts of a finite number make it. -/
theorem made_again {a : Int} (h : U64 a) (k : kindZ a = 0 ∨ kindZ a = 1 ∨ kindZ a = 2) : ∃ f : Nat, pfrac a = (f : Int) ∧ f < 18446744073709551616 ∧ makeZ (belowB a) (pexp a) f false = a := by
  obtain ⟨hm, e0, e1, f0, f1⟩ := mag_parts h
  have hg := G_eq
  obtain ⟨hk, k0, k1, k2⟩ := kind_finite k
  obtain ⟨f, hf⟩ := Int.eq_ofNat_of_zero_le f0
  obtain ⟨E, hE⟩ := Int.eq_ofNat_of_zero_le e0
  rcases k with k | k | k
  · have hz := k0 k
    refine ⟨0, by unfold pfrac; rw [k]; rfl, by decide, sign_made _ ?_⟩
    unfold units
    rw [rung_tiny (by simp)]
    omega
  · have hz := k1 k
    have e : pexp a = -1074 := by unfold pexp; rw [k, if_pos rfl]
    refine ⟨f, by unfold pfrac; rw [k, hf, if_pos rfl], by omega, sign_made _ ?_⟩
    rw [units_at (pexp a) f G (by omega) (by omega) (by omega), rung_tinies (by omega)]
    omega
  · have hz := k2 k
    have e : pexp a = (E : Int) - 1075 := by unfold pexp; rw [k, hE, if_neg (by decide), if_pos rfl]
    obtain ⟨n, hn⟩ : ∃ n : Nat, n = f + 4503599627370496 := ⟨_, rfl⟩
    have hp : pfrac a = (n : Int) := by
      have : pfrac a = frac a + 4503599627370496 := by unfold pfrac; rw [k, if_neg (by decide), if_pos rfl]
      rw [this, hf]; omega
    refine ⟨n, hp, by omega, sign_made _ ?_⟩
    rw [units_at (pexp a) n (E + G - 1) (by omega) (by omega) (by omega), rung_plain (by omega) (by omega) (by omega) (by omega)]
    omega

set_option maxHeartbeats 1000000 in
theorem floKinds_walk (a : Int) (w : World) (h : U64 a) :
    Calls Try.prog 3 #[.int .u64 a] w fun e w' => e = .returned (.bool true) ∧ w' = w := by
  by_cases k : kindZ a = 0 ∨ kindZ a = 1 ∨ kindZ a = 2
  · obtain ⟨f, e1, f1, e2⟩ := made_again h k
    have m := fun w => make_any (belowB a) false (pexp a) f w f1
    rw [e2, ← e1] at m
    have M : Hid (∀ w, Calls Try.prog 15 #[.bool (belowB a), .int .i64 (pexp a), .int .u64 (pfrac a), .bool false] w fun e w' => e = .returned (.int .u64 a) ∧ w' = w) := m
    have k2 : kindZ a < 3 := by omega
    clear m e1 e2 f1 k
    go_enter Try.func3, Try.ntmps3
    go_wp2_with fail
    refine (refKind_any _ _ h).mono ?_
    rintro e w' ⟨rfl, rfl⟩
    go_wp2_with fail
    refine (parts_any _ _ h).mono ?_
    rintro e w' ⟨rfl, rfl⟩
    go_wp2_with fail
    refine (refParts_any _ _ h).mono ?_
    rintro e w' ⟨rfl, rfl⟩
    go_wp2_with fail
    refine (kind_any _ _ h).mono ?_
    rintro e w' ⟨rfl, rfl⟩
    go_wp2_with fail
    refine (canon_any _ _ h).mono ?_
    rintro e w' ⟨rfl, rfl⟩
    go_wp2_with fail
    refine (refCanon_any _ _ h).mono ?_
    rintro e w' ⟨rfl, rfl⟩
    go_wp2_with fail
    refine (M.out _).mono ?_
    rintro e w' ⟨rfl, rfl⟩
    go_wp2_with fail
    refine (lives_any _).mono ?_
    rintro e w' ⟨rfl, rfl⟩
    go_wp2_with fail
    go_ret
    exact ⟨rfl, rfl⟩
  · have k2 : 3 ≤ kindZ a := by have := kind_vals a; omega
    clear k
    go_enter Try.func3, Try.ntmps3
    go_wp2_with fail
    refine (refKind_any _ _ h).mono ?_
    rintro e w' ⟨rfl, rfl⟩
    go_wp2_with fail
    refine (parts_any _ _ h).mono ?_
    rintro e w' ⟨rfl, rfl⟩
    go_wp2_with fail
    refine (refParts_any _ _ h).mono ?_
    rintro e w' ⟨rfl, rfl⟩
    go_wp2_with fail
    refine (kind_any _ _ h).mono ?_
    rintro e w' ⟨rfl, rfl⟩
    go_wp2_with fail
    refine (canon_any _ _ h).mono ?_
    rintro e w' ⟨rfl, rfl⟩
    go_wp2_with fail
    refine (refCanon_any _ _ h).mono ?_
    rintro e w' ⟨rfl, rfl⟩
    go_wp2_with fail
    refine (lives_any _).mono ?_
    rintro e w' ⟨rfl, rfl⟩
    go_wp2_with fail
    go_ret
    exact ⟨rfl, rfl⟩

end Go.Proofs.Ytgkhpnebofijdaa
