/-
  Twice the fraction and one less in the exponent is the same number: the walk of the statement FloDoubles.
-/
import Derived.Test.YtgkhpnebofijdaaFloNat
namespace Go.Proofs.Ytgkhpnebofijdaa
open Go.RowKit Flo

theorem dbl (e : Int) (n : Nat) (hn : n < 18446744073709551616) :
    rung G (n * 2 ^ (min (max e (-1200)) 1100 + 1073 + G).toNat) = rung G (2 * n * 2 ^ (min (max (e - 1) (-1200)) 1100 + 1073 + G).toNat) := by
  have hg := G_eq
  by_cases c1 : e ≤ -1200
  · have e1 : (min (max e (-1200)) 1100 + 1073 + (G : Int)).toNat = G - 127 := by omega
    have e2 : (min (max (e - 1) (-1200)) 1100 + 1073 + (G : Int)).toNat = G - 127 := by omega
    rw [e1, e2]
    have hp : 2 ^ G = 2 ^ 127 * 2 ^ (G - 127) := by rw [← Nat.pow_add, show 127 + (G - 127) = G by omega]
    rw [rung_tiny, rung_tiny]
    · rw [hp, ← Nat.mul_assoc]; exact Nat.mul_le_mul_right _ (by omega)
    · rw [hp, ← Nat.mul_assoc]; exact Nat.mul_le_mul_right _ (by omega)
  · by_cases c2 : e ≤ 1100
    · have e1 : (min (max e (-1200)) 1100 + 1073 + (G : Int)).toNat = (min (max (e - 1) (-1200)) 1100 + 1073 + (G : Int)).toNat + 1 := by omega
      rw [e1, Nat.pow_succ]
      congr 1
      rw [Nat.mul_comm 2 n, Nat.mul_assoc, Nat.mul_comm 2]
    · have e1 : (min (max e (-1200)) 1100 + 1073 + (G : Int)).toNat = G + 2098 + 75 := by omega
      have e2 : (min (max (e - 1) (-1200)) 1100 + 1073 + (G : Int)).toNat = G + 2098 + 75 := by omega
      rw [e1, e2]
      by_cases h0 : n = 0
      · subst h0; simp
      · rw [Nat.pow_add, rung_huge, rung_huge]
        · rw [← Nat.mul_assoc, Nat.mul_comm (2 * n), Nat.mul_assoc]
          exact Nat.le_mul_of_pos_right _ (by omega)
        · rw [← Nat.mul_assoc, Nat.mul_comm n, Nat.mul_assoc]
          exact Nat.le_mul_of_pos_right _ (by omega)
theorem dbl1 (e : Int) (f : Nat) (half : Bool) (hf : f < 4611686018427387904) : rung G (units e f half) = rung G (units (e - 1) (2 * f + half.toNat) false) := by
  have h : half.toNat ≤ 1 := by cases half <;> simp
  have := dbl e (2 * f + half.toNat) (by omega)
  unfold units
  simp only [Bool.toNat_false, Nat.add_zero]
  exact this
theorem dbl2 (e : Int) (f : Nat) (hf : f < 4611686018427387904) : rung G (units e (2 * f) false) = rung G (units (e + 1) f false) := by
  have := dbl1 (e + 1) f false hf
  rw [Int.add_sub_cancel] at this
  exact this.symm

set_option maxHeartbeats 400000 in
theorem floDoubles_walk (exp x : Int) (f q : Nat) (half : Bool) (w : World) (hx : exp.tmod 3000 = x) (hx1 : -3000 < x) (hx2 : x < 3000) (hq : (f : Int) / 4 = (q : Int)) (hq2 : q < 4611686018427387904) :
    Calls Try.prog 8 #[.int .i64 exp, .int .u64 f, .bool half] w fun e w' => e = .returned (.bool true) ∧ w' = w := by
  cases half
  · have m1 := fun w => make_pos false x q w (by omega)
    have m2 := fun w => make_pos false (x - 1) (2 * q + 0) w (by omega)
    have m3 := fun w => make_neg false x (2 * q) w (by omega)
    have m4 := fun w => make_neg false (x + 1) q w (by omega)
    have e1 := dbl1 x q false (by omega)
    have e2 := dbl2 x q (by omega)
    simp only [Bool.toNat_false, Nat.add_zero] at e1 m2
    rw [e1] at m1
    rw [e2] at m3
    clear e1 e2
    generalize rung G (units (x - 1) (2 * q) false) = u at *
    generalize rung G (units (x + 1) q false) = v at *
    have M1 : Hid (∀ w, Calls Try.prog 15 #[.bool false, .int .i64 (x), .int .u64 ((q : Int)), .bool false] w fun e w' => e = .returned (.int .u64 ((u : Int))) ∧ w' = w) := m1
    have M2 : Hid (∀ w, Calls Try.prog 15 #[.bool false, .int .i64 (x - 1), .int .u64 (2 * (q : Int)), .bool false] w fun e w' => e = .returned (.int .u64 ((u : Int))) ∧ w' = w) := m2
    have M3 : Hid (∀ w, Calls Try.prog 15 #[.bool true, .int .i64 (x), .int .u64 (2 * (q : Int)), .bool false] w fun e w' => e = .returned (.int .u64 (9223372036854775808 + (v : Int))) ∧ w' = w) := m3
    have M4 : Hid (∀ w, Calls Try.prog 15 #[.bool true, .int .i64 (x + 1), .int .u64 ((q : Int)), .bool false] w fun e w' => e = .returned (.int .u64 (9223372036854775808 + (v : Int))) ∧ w' = w) := m4
    clear m1 m2 m3 m4
    go_enter Try.func8, Try.ntmps8
    go_wp2_with fail
    refine (M1.out _).mono ?_
    rintro e w' ⟨rfl, rfl⟩
    go_wp2_with fail
    refine (M2.out _).mono ?_
    rintro e w' ⟨rfl, rfl⟩
    go_wp2_with fail
    refine (M3.out _).mono ?_
    rintro e w' ⟨rfl, rfl⟩
    go_wp2_with fail
    refine (M4.out _).mono ?_
    rintro e w' ⟨rfl, rfl⟩
    go_wp2_with fail
    refine (lives_any _).mono ?_
    rintro e w' ⟨rfl, rfl⟩
    go_wp2_with fail
    go_ret
    exact ⟨rfl, rfl⟩
  · have m1 := fun w => make_pos true x q w (by omega)
    have m2 := fun w => make_pos false (x - 1) (2 * q + 1) w (by omega)
    have m3 := fun w => make_neg false x (2 * q) w (by omega)
    have m4 := fun w => make_neg false (x + 1) q w (by omega)
    have e1 := dbl1 x q true (by omega)
    have e2 := dbl2 x q (by omega)
    simp only [Bool.toNat_true] at e1 m2
    rw [e1] at m1
    rw [e2] at m3
    clear e1 e2
    generalize rung G (units (x - 1) (2 * q + 1) false) = u at *
    generalize rung G (units (x + 1) q false) = v at *
    have M1 : Hid (∀ w, Calls Try.prog 15 #[.bool false, .int .i64 (x), .int .u64 ((q : Int)), .bool true] w fun e w' => e = .returned (.int .u64 ((u : Int))) ∧ w' = w) := m1
    have M2 : Hid (∀ w, Calls Try.prog 15 #[.bool false, .int .i64 (x - 1), .int .u64 (2 * (q : Int) + 1), .bool false] w fun e w' => e = .returned (.int .u64 ((u : Int))) ∧ w' = w) := m2
    have M3 : Hid (∀ w, Calls Try.prog 15 #[.bool true, .int .i64 (x), .int .u64 (2 * (q : Int)), .bool false] w fun e w' => e = .returned (.int .u64 (9223372036854775808 + (v : Int))) ∧ w' = w) := m3
    have M4 : Hid (∀ w, Calls Try.prog 15 #[.bool true, .int .i64 (x + 1), .int .u64 ((q : Int)), .bool false] w fun e w' => e = .returned (.int .u64 (9223372036854775808 + (v : Int))) ∧ w' = w) := m4
    clear m1 m2 m3 m4
    go_enter Try.func8, Try.ntmps8
    go_wp2_with fail
    refine (M1.out _).mono ?_
    rintro e w' ⟨rfl, rfl⟩
    go_wp2_with fail
    refine (M2.out _).mono ?_
    rintro e w' ⟨rfl, rfl⟩
    go_wp2_with fail
    refine (M3.out _).mono ?_
    rintro e w' ⟨rfl, rfl⟩
    go_wp2_with fail
    refine (M4.out _).mono ?_
    rintro e w' ⟨rfl, rfl⟩
    go_wp2_with fail
    refine (lives_any _).mono ?_
    rintro e w' ⟨rfl, rfl⟩
    go_wp2_with fail
    go_ret
    exact ⟨rfl, rfl⟩

theorem floDoubles_any (exp : Int) (f : Nat) (half : Bool) (w : World) (hf : f < 18446744073709551616) :
    Calls Try.prog 8 #[.int .i64 exp, .int .u64 f, .bool half] w fun e w' => e = .returned (.bool true) ∧ w' = w :=
  floDoubles_walk exp (exp.tmod 3000) f (f / 4) half w rfl (by have := Int.lt_tmod_of_pos exp (show (0 : Int) < 3000 by decide); omega) (Int.tmod_lt_of_pos exp (by decide)) (by omega) (by omega)

end Go.Proofs.Ytgkhpnebofijdaa
