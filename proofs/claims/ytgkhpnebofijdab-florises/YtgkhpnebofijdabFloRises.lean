/-
  Of two fractions with one exponent the greater one does not make the lesser number: the walk of the statement FloRises.
-/
import Derived.Test.YtgkhpnebofijdabFloLives
namespace Go.Proofs.Ytgkhpnebofijdab
open Go.RowKit Flo

theorem nat_nan {v : Nat} (h : v ≤ 9218868437227405312) : nanB (v : Int) = false := by
  unfold nanB mag; rw [if_neg (by omega)]; exact decide_eq_false (by omega)
theorem nat_sv {v : Nat} (h : v ≤ 9218868437227405312) : sv (v : Int) = v := by
  unfold sv; rw [if_neg (by omega)]
theorem nat_neg {v : Nat} (h : v ≤ 9218868437227405312) : negZ (v : Int) = 9223372036854775808 + v := by
  unfold negZ; rw [nat_nan h]; simp only [Bool.false_eq_true, if_false]; rw [if_neg (by omega)]; omega
theorem neg_nat_nan {v : Nat} (h : v ≤ 9218868437227405312) : nanB (9223372036854775808 + (v : Int)) = false := by
  unfold nanB mag; rw [if_pos (by omega)]; exact decide_eq_false (by omega)
theorem neg_nat_sv {v : Nat} (h : v ≤ 9218868437227405312) : sv (9223372036854775808 + (v : Int)) = -v := by
  unfold sv; rw [if_pos (by omega)]; omega
theorem nat_u64 {v : Nat} (h : v ≤ 9218868437227405312) : U64 (v : Int) := ⟨by omega, by omega⟩
theorem less_nat {v u : Nat} (hv : v ≤ 9218868437227405312) (hu : u ≤ 9218868437227405312) : lessB (v : Int) (u : Int) = decide (v < u) := by
  unfold lessB; rw [nat_nan hv, nat_nan hu, nat_sv hv, nat_sv hu]; simp
theorem less_negs {v u : Nat} (hv : v ≤ 9218868437227405312) (hu : u ≤ 9218868437227405312) : lessB (negZ (v : Int)) (negZ (u : Int)) = decide (u < v) := by
  unfold lessB; rw [nat_neg hv, nat_neg hu, neg_nat_nan hv, neg_nat_nan hu, neg_nat_sv hv, neg_nat_sv hu]
  simp
theorem before_nat {v u : Nat} (hv : v ≤ 9218868437227405312) (hu : u ≤ 9218868437227405312) : beforeB (v : Int) (u : Int) = decide (v < u) := by
  unfold beforeB; rw [nat_nan hv, nat_nan hu, nat_sv hv, nat_sv hu]
  unfold belowB
  rw [decide_eq_false (show ¬ (9223372036854775808 : Int) ≤ (v : Int) by omega)]
  simp
  omega

theorem make_pos (half : Bool) (exp : Int) (f : Nat) (w : World) (hf : f < 18446744073709551616) :
    Calls Try.prog 5 #[.bool false, .int .i64 exp, .int .u64 f, .bool half] w fun e w' => e = .returned (.int .u64 (rung G (units exp f half) : Nat)) ∧ w' = w :=
  make_any false half exp f w hf
theorem make_neg (half : Bool) (exp : Int) (f : Nat) (w : World) (hf : f < 18446744073709551616) :
    Calls Try.prog 5 #[.bool true, .int .i64 exp, .int .u64 f, .bool half] w fun e w' => e = .returned (.int .u64 (9223372036854775808 + (rung G (units exp f half) : Nat))) ∧ w' = w :=
  make_any true half exp f w hf
theorem units_mono (exp : Int) (half : Bool) {f g : Nat} (h : f ≤ g) : units exp f half ≤ units exp g half :=
  Nat.mul_le_mul_right _ (by omega)

set_option maxHeartbeats 400000 in
theorem floRises_walk (exp : Int) (a b : Nat) (w : World) (ha : a < 18446744073709551616) (hb : b < 18446744073709551616) :
    Calls Try.prog 3 #[.int .i64 exp, .int .u64 a, .int .u64 b] w fun e w' => e = .returned (.bool true) ∧ w' = w := by
  have key : ∀ (c d x y : Nat), x = rung G (units exp c false) → y = rung G (units exp d false) → c ≤ d →
      x ≤ 9218868437227405312 ∧ y ≤ 9218868437227405312 ∧ lessB (y : Int) (x : Int) = false ∧ lessB (negZ (x : Int)) (negZ (y : Int)) = false ∧ beforeB (y : Int) (x : Int) = false := by
    intro c d x y hx hy hcd
    have m := rung_mono G (units_mono exp false hcd)
    have k1 := rung_le G (units exp c false)
    have k2 := rung_le G (units exp d false)
    rw [← hx] at m k1
    rw [← hy] at m k2
    refine ⟨k1, k2, ?_, ?_, ?_⟩
    · rw [less_nat k2 k1]; exact decide_eq_false (by omega)
    · rw [less_negs k1 k2]; exact decide_eq_false (by omega)
    · rw [before_nat k2 k1]; exact decide_eq_false (by omega)
  by_cases c : b < a
  · have kk := key b a _ _ rfl rfl (by omega)
    have m1 := fun w => make_pos false exp b w hb
    have m2 := fun w => make_pos false exp a w ha
    clear key
    generalize rung G (units exp b false) = x at *
    generalize rung G (units exp a false) = y at *
    obtain ⟨k1, k2, t1, t2, t3⟩ := kk
    have u1 := nat_u64 k1
    have u2 := nat_u64 k2
    have M1 : Hid (∀ w, Calls Try.prog 5 #[.bool false, .int .i64 exp, .int .u64 b, .bool false] w fun e w' => e = .returned (.int .u64 x) ∧ w' = w) := m1
    have M2 : Hid (∀ w, Calls Try.prog 5 #[.bool false, .int .i64 exp, .int .u64 a, .bool false] w fun e w' => e = .returned (.int .u64 y) ∧ w' = w) := m2
    clear m1 m2
    have u3 := negZ_u64 u1
    have u4 := negZ_u64 u2
    go_enter Try.func3, Try.ntmps3
    go_wp2_with fail
    refine (M1.out _).mono ?_
    rintro e w' ⟨rfl, rfl⟩
    go_wp2_with fail
    refine (M2.out _).mono ?_
    rintro e w' ⟨rfl, rfl⟩
    go_wp2_with fail
    refine (less_any _ _ _ u2 u1).mono ?_
    rintro e w' ⟨rfl, rfl⟩
    go_wp2_with fail
    refine (neg_any _ _ u1).mono ?_
    rintro e w' ⟨rfl, rfl⟩
    go_wp2_with fail
    refine (neg_any _ _ u2).mono ?_
    rintro e w' ⟨rfl, rfl⟩
    go_wp2_with fail
    refine (less_any _ _ _ u3 u4).mono ?_
    rintro e w' ⟨rfl, rfl⟩
    go_wp2_with fail
    refine (before_any _ _ _ u2 u1).mono ?_
    rintro e w' ⟨rfl, rfl⟩
    go_wp2_with fail
    refine (lives_any _).mono ?_
    rintro e w' ⟨rfl, rfl⟩
    go_wp2_with fail
    go_ret
    exact ⟨rfl, rfl⟩
  · have kk := key a b _ _ rfl rfl (by omega)
    have m1 := fun w => make_pos false exp a w ha
    have m2 := fun w => make_pos false exp b w hb
    clear key
    generalize rung G (units exp a false) = x at *
    generalize rung G (units exp b false) = y at *
    obtain ⟨k1, k2, t1, t2, t3⟩ := kk
    have u1 := nat_u64 k1
    have u2 := nat_u64 k2
    have M1 : Hid (∀ w, Calls Try.prog 5 #[.bool false, .int .i64 exp, .int .u64 a, .bool false] w fun e w' => e = .returned (.int .u64 x) ∧ w' = w) := m1
    have M2 : Hid (∀ w, Calls Try.prog 5 #[.bool false, .int .i64 exp, .int .u64 b, .bool false] w fun e w' => e = .returned (.int .u64 y) ∧ w' = w) := m2
    clear m1 m2
    have u3 := negZ_u64 u1
    have u4 := negZ_u64 u2
    go_enter Try.func3, Try.ntmps3
    go_wp2_with fail
    refine (M1.out _).mono ?_
    rintro e w' ⟨rfl, rfl⟩
    go_wp2_with fail
    refine (M2.out _).mono ?_
    rintro e w' ⟨rfl, rfl⟩
    go_wp2_with fail
    refine (less_any _ _ _ u2 u1).mono ?_
    rintro e w' ⟨rfl, rfl⟩
    go_wp2_with fail
    refine (neg_any _ _ u1).mono ?_
    rintro e w' ⟨rfl, rfl⟩
    go_wp2_with fail
    refine (neg_any _ _ u2).mono ?_
    rintro e w' ⟨rfl, rfl⟩
    go_wp2_with fail
    refine (less_any _ _ _ u3 u4).mono ?_
    rintro e w' ⟨rfl, rfl⟩
    go_wp2_with fail
    refine (before_any _ _ _ u2 u1).mono ?_
    rintro e w' ⟨rfl, rfl⟩
    go_wp2_with fail
    refine (lives_any _).mono ?_
    rintro e w' ⟨rfl, rfl⟩
    go_wp2_with fail
    go_ret
    exact ⟨rfl, rfl⟩

end Go.Proofs.Ytgkhpnebofijdab
