/-
  What is made of parts lies between those of the whole numbers about them: the walk of the statement FloNear.
-/
import Derived.Test.YtgkhpnebofijdaaFloNat
namespace Go.Proofs.Ytgkhpnebofijdaa
open Go.RowKit Flo

theorem units_half (exp : Int) (f : Nat) : units exp f false ≤ units exp f true := Nat.mul_le_mul_right _ (by simp)
theorem units_next (exp : Int) (f : Nat) : units exp f true ≤ units exp (f + 1) false := Nat.mul_le_mul_right _ (by simp; omega)

set_option maxHeartbeats 400000 in
theorem floNear_walk (exp : Int) (f : Nat) (w : World) (hf : f < 18446744073709551616) :
    Calls Try.prog 7 #[.int .i64 exp, .int .u64 f] w fun e w' => e = .returned (.bool true) ∧ w' = w := by
  have ml := fun w => make_pos false exp f w hf
  have mm := fun w => make_pos true exp f w hf
  have mn := fun w => make_neg true exp f w hf
  have kl := rung_le G (units exp f false)
  have km := rung_le G (units exp f true)
  have t1 : lessB (rung G (units exp f true) : Nat) (rung G (units exp f false) : Nat) = false := by
    rw [less_nat km kl]
    have := rung_mono G (units_half exp f)
    exact decide_eq_false (by omega)
  have t2 : ((9223372036854775808 + (rung G (units exp f true) : Nat) : Int) != negZ (rung G (units exp f true) : Nat)) = false := by
    rw [nat_neg km]; simp
  by_cases c : f = 18446744073709551615
  · have cz : ((f : Int) == 18446744073709551615) = true := by rw [beq_iff_eq]; omega
    generalize rung G (units exp f false) = x at *
    generalize rung G (units exp f true) = y at *
    have ul := nat_u64 kl
    have um := nat_u64 km
    have Ml : Hid (∀ w, Calls Try.prog 15 #[.bool false, .int .i64 exp, .int .u64 f, .bool false] w fun e w' => e = .returned (.int .u64 x) ∧ w' = w) := ml
    have Mm : Hid (∀ w, Calls Try.prog 15 #[.bool false, .int .i64 exp, .int .u64 f, .bool true] w fun e w' => e = .returned (.int .u64 y) ∧ w' = w) := mm
    have Mn : Hid (∀ w, Calls Try.prog 15 #[.bool true, .int .i64 exp, .int .u64 f, .bool true] w fun e w' => e = .returned (.int .u64 (9223372036854775808 + (y : Int))) ∧ w' = w) := mn
    clear ml mm mn c
    go_enter Try.func7, Try.ntmps7
    go_wp2_with fail
    refine (Ml.out _).mono ?_
    rintro e w' ⟨rfl, rfl⟩
    go_wp2_with fail
    refine (Mm.out _).mono ?_
    rintro e w' ⟨rfl, rfl⟩
    go_wp2_with fail
    refine (less_any _ _ _ um ul).mono ?_
    rintro e w' ⟨rfl, rfl⟩
    go_wp2_with fail
    refine (Mn.out _).mono ?_
    rintro e w' ⟨rfl, rfl⟩
    go_wp2_with fail
    refine (neg_any _ _ um).mono ?_
    rintro e w' ⟨rfl, rfl⟩
    go_wp2_with fail
    refine (lives_any _).mono ?_
    rintro e w' ⟨rfl, rfl⟩
    go_wp2_with fail
    go_ret
    exact ⟨rfl, rfl⟩
  · have cz : ((f : Int) == 18446744073709551615) = false := by rw [beq_eq_false_iff_ne]; omega
    have mh := fun w => make_pos false exp (f + 1) w (by omega)
    have kh := rung_le G (units exp (f + 1) false)
    have t3 : lessB (rung G (units exp (f + 1) false) : Nat) (rung G (units exp f true) : Nat) = false := by
      rw [less_nat kh km]
      have := rung_mono G (units_next exp f)
      exact decide_eq_false (by omega)
    generalize rung G (units exp f false) = x at *
    generalize rung G (units exp f true) = y at *
    generalize rung G (units exp (f + 1) false) = z at *
    have ul := nat_u64 kl
    have um := nat_u64 km
    have uh := nat_u64 kh
    have Ml : Hid (∀ w, Calls Try.prog 15 #[.bool false, .int .i64 exp, .int .u64 f, .bool false] w fun e w' => e = .returned (.int .u64 x) ∧ w' = w) := ml
    have Mm : Hid (∀ w, Calls Try.prog 15 #[.bool false, .int .i64 exp, .int .u64 f, .bool true] w fun e w' => e = .returned (.int .u64 y) ∧ w' = w) := mm
    have Mn : Hid (∀ w, Calls Try.prog 15 #[.bool true, .int .i64 exp, .int .u64 f, .bool true] w fun e w' => e = .returned (.int .u64 (9223372036854775808 + (y : Int))) ∧ w' = w) := mn
    have Mh : Hid (∀ w, Calls Try.prog 15 #[.bool false, .int .i64 exp, .int .u64 ((f : Int) + 1), .bool false] w fun e w' => e = .returned (.int .u64 z) ∧ w' = w) := mh
    clear ml mm mn mh
    have hf2 : f < 18446744073709551615 := by omega
    go_enter Try.func7, Try.ntmps7
    go_wp2_with fail
    refine (Ml.out _).mono ?_
    rintro e w' ⟨rfl, rfl⟩
    go_wp2_with fail
    refine (Mm.out _).mono ?_
    rintro e w' ⟨rfl, rfl⟩
    go_wp2_with fail
    refine (less_any _ _ _ um ul).mono ?_
    rintro e w' ⟨rfl, rfl⟩
    go_wp2_with fail
    refine (Mn.out _).mono ?_
    rintro e w' ⟨rfl, rfl⟩
    go_wp2_with fail
    refine (neg_any _ _ um).mono ?_
    rintro e w' ⟨rfl, rfl⟩
    go_wp2_with fail
    refine (Mh.out _).mono ?_
    rintro e w' ⟨rfl, rfl⟩
    go_wp2_with fail
    refine (less_any _ _ _ uh um).mono ?_
    rintro e w' ⟨rfl, rfl⟩
    go_wp2_with fail
    refine (lives_any _).mono ?_
    rintro e w' ⟨rfl, rfl⟩
    go_wp2_with fail
    go_ret
    exact ⟨rfl, rfl⟩

end Go.Proofs.Ytgkhpnebofijdaa
