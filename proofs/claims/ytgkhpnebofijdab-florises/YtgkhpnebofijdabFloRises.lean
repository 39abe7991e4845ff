/-
  Of two fractions with one exponent the greater one does not make the lesser number: the walk of the statement FloRises.
-/
import Derived.Test.YtgkhpnebofijdabFloNat
namespace Go.Proofs.Ytgkhpnebofijdab
open Go.RowKit Flo

set_option maxHeartbeats 400000 in
theorem floRises_walk (exp : Int) (a b : Nat) (w : World) (ha : a < 18446744073709551616) (hb : b < 18446744073709551616) :
    Calls Try.prog 3 #[.int .i64 exp, .int .u64 a, .int .u64 b] w fun e w' => e = .returned (.bool true) ∧ w' = w := by
  have key : ∀ (c d x y : Nat), x = rung G (units exp c false) → y = rung G (units exp d false) → c ≤ d →
      x ≤ 9218868437227405312 ∧ y ≤ 9218868437227405312 ∧ lessB (y : Int) (x : Int) = false ∧ lessB (negZ (x : Int)) (negZ (y : Int)) = false ∧ beforeB (y : Int) (x : Int) = false := by
    intro c d x y hx hy hcd
    have m := rung_mono G (units_mono exp false hcd)
    have k1 := rung_le G (units exp c false)
    have k2 := rung_le G (units exp d false)
    rw [← hx] at m k1
    rw [← hy] at m k2
    refine ⟨k1, k2, ?_, ?_, ?_⟩
    · rw [less_nat k2 k1]; exact decide_eq_false (by omega)
    · rw [less_negs k1 k2]; exact decide_eq_false (by omega)
    · rw [before_nat k2 k1]; exact decide_eq_false (by omega)
  by_cases c : b < a
  · have kk := key b a _ _ rfl rfl (by omega)
    have m1 := fun w => make_pos false exp b w hb
    have m2 := fun w => make_pos false exp a w ha
    clear key
    generalize rung G (units exp b false) = x at *
    generalize rung G (units exp a false) = y at *
    obtain ⟨k1, k2, t1, t2, t3⟩ := kk
    have u1 := nat_u64 k1
    have u2 := nat_u64 k2
    have M1 : Hid (∀ w, Calls Try.prog 5 #[.bool false, .int .i64 exp, .int .u64 b, .bool false] w fun e w' => e = .returned (.int .u64 x) ∧ w' = w) := m1
    have M2 : Hid (∀ w, Calls Try.prog 5 #[.bool false, .int .i64 exp, .int .u64 a, .bool false] w fun e w' => e = .returned (.int .u64 y) ∧ w' = w) := m2
    clear m1 m2
    have u3 := negZ_u64 u1
    have u4 := negZ_u64 u2
    go_enter Try.func3, Try.ntmps3
    go_wp2_with fail
    refine (M1.out _).mono ?_
    rintro e w' ⟨rfl, rfl⟩
    go_wp2_with fail
    refine (M2.out _).mono ?_
    rintro e w' ⟨rfl, rfl⟩
    go_wp2_with fail
    refine (less_any _ _ _ u2 u1).mono ?_
    rintro e w' ⟨rfl, rfl⟩
    go_wp2_with fail
    refine (neg_any _ _ u1).mono ?_
    rintro e w' ⟨rfl, rfl⟩
    go_wp2_with fail
    refine (neg_any _ _ u2).mono ?_
    rintro e w' ⟨rfl, rfl⟩
    go_wp2_with fail
    refine (less_any _ _ _ u3 u4).mono ?_
    rintro e w' ⟨rfl, rfl⟩
    go_wp2_with fail
    refine (before_any _ _ _ u2 u1).mono ?_
    rintro e w' ⟨rfl, rfl⟩
    go_wp2_with fail
    refine (lives_any _).mono ?_
    rintro e w' ⟨rfl, rfl⟩
    go_wp2_with fail
    go_ret
    exact ⟨rfl, rfl⟩
  · have kk := key a b _ _ rfl rfl (by omega)
    have m1 := fun w => make_pos false exp a w ha
    have m2 := fun w => make_pos false exp b w hb
    clear key
    generalize rung G (units exp a false) = x at *
    generalize rung G (units exp b false) = y at *
    obtain ⟨k1, k2, t1, t2, t3⟩ := kk
    have u1 := nat_u64 k1
    have u2 := nat_u64 k2
    have M1 : Hid (∀ w, Calls Try.prog 5 #[.bool false, .int .i64 exp, .int .u64 a, .bool false] w fun e w' => e = .returned (.int .u64 x) ∧ w' = w) := m1
    have M2 : Hid (∀ w, Calls Try.prog 5 #[.bool false, .int .i64 exp, .int .u64 b, .bool false] w fun e w' => e = .returned (.int .u64 y) ∧ w' = w) := m2
    clear m1 m2
    have u3 := negZ_u64 u1
    have u4 := negZ_u64 u2
    go_enter Try.func3, Try.ntmps3
    go_wp2_with fail
    refine (M1.out _).mono ?_
    rintro e w' ⟨rfl, rfl⟩
    go_wp2_with fail
    refine (M2.out _).mono ?_
    rintro e w' ⟨rfl, rfl⟩
    go_wp2_with fail
    refine (less_any _ _ _ u2 u1).mono ?_
    rintro e w' ⟨rfl, rfl⟩
    go_wp2_with fail
    refine (neg_any _ _ u1).mono ?_
    rintro e w' ⟨rfl, rfl⟩
    go_wp2_with fail
    refine (neg_any _ _ u2).mono ?_
    rintro e w' ⟨rfl, rfl⟩
    go_wp2_with fail
    refine (less_any _ _ _ u3 u4).mono ?_
    rintro e w' ⟨rfl, rfl⟩
    go_wp2_with fail
    refine (before_any _ _ _ u2 u1).mono ?_
    rintro e w' ⟨rfl, rfl⟩
    go_wp2_with fail
    refine (lives_any _).mono ?_
    rintro e w' ⟨rfl, rfl⟩
    go_wp2_with fail
    go_ret
    exact ⟨rfl, rfl⟩

end Go.Proofs.Ytgkhpnebofijdab
