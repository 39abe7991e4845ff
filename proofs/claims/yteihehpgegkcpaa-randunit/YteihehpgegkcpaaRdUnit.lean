/-
  Layer 16: both Units, walked; RandUnit.
-/
import Derived.Test.YteihehpgegkcpaaRdUnitM
import Derived.Test.YteihehpgegkcpaaDigMake
import Derived.Test.YteihehpgegkcpaaDigSum
namespace Go.Proofs.Yteihehpgegkcpaa
open Go.RowKit Flo

theorem unit_any (s : Int) (w : World) : Calls Try.prog 13 #[.int .u64 s] w fun e w' => e = .returned (.tuple #[.int .u64 (rst s), .int .u64 (uW (rmix (rst s) / 2048).toNat : Nat)]) ∧ w' = w := by
  have hx := in_mix (rst s)
  obtain ⟨m, hm⟩ : ∃ m : Nat, rmix (rst s) / 2048 = m := ⟨_, (Int.toNat_of_nonneg (by have := hx.1; omega)).symm⟩
  have hm2 : m < 9007199254740992 := by have := hx.2; omega
  have n1 := next_any s
  have hf := float_whole m
  have hd := div_unit hm2
  have hop := fun (t : TypeId) (w : World) => run_float_arith (P := Try.prog) w .quo t .f64 (rung 0 (m * 2 ^ UP)) 4845873199050653696 (uW m) hd
  have hb := bits_run (uW m)
  rw [hm, Int.toNat_natCast]
  generalize rung 0 (m * 2 ^ UP) = r at *
  generalize uW m = u at *
  clear hd hm2 hx
  generalize rmix (rst s) = X at *
  generalize rst s = A at *
  go_enter Try.func13, Try.ntmps13
  go_wp2_with fail
  refine (n1 _).mono ?_
  rintro e w' ⟨rfl, rfl⟩
  go_wp2
  go_ret2
  exact ⟨rfl, rfl⟩
theorem refUnit_any (s : Int) (w : World) : Calls Try.prog 14 #[.int .u64 s] w fun e w' => e = .returned (.tuple #[.int .u64 (rst s), .int .u64 (uW (rmix (rst s) / 2048).toNat : Nat)]) ∧ Below w.heap.size w w' := by
  have hx := in_mix (rst s)
  obtain ⟨m, hm⟩ : ∃ m : Nat, rmix (rst s) / 2048 = m := ⟨_, (Int.toNat_of_nonneg (by have := hx.1; omega)).symm⟩
  have hm2 : m < 9007199254740992 := by have := hx.2; omega
  have n1 := rnext_any s
  have n2 : ∀ (v : Value) (w : World), D w v m 4 → Calls Try.prog 22 #[.bool false, .int .i64 (-53), v, .bool false] w fun e w' => e = .returned (.int .u64 (uW m : Nat)) ∧ Below w.heap.size w w' := by
    intro v w hD
    have h := round_any v m 4 0 (-53) false false w hD (by decide) (by decide) (by decide) (by decide) (by intro h; cases h)
    have e0 : ((-53 : Int) + 1073 + ((0 : Nat) : Int)).toNat = 1020 := rfl
    have e1 : (2 * m + false.toNat) * 2 ^ 1020 = m * 2 ^ UD := by
      have e2 : UD = 1020 + 1 := UD_eq
      rw [e2]
      generalize 1020 = k
      rw [Nat.pow_succ', Nat.mul_left_comm]
      show (2 * m + 0) * 2 ^ k = _
      rw [Nat.add_zero, Nat.mul_assoc]
    rw [e0, e1, show sgn false = 0 from rfl, Int.zero_add] at h
    exact h
  rw [hm, Int.toNat_natCast]
  clear hx
  generalize uW m = u at *
  generalize rmix (rst s) = X at *
  generalize rst s = A at *
  go_enter Try.func14, Try.ntmps14
  go_wp2_with fail
  refine (n1 _).mono ?_
  rintro e w' ⟨rfl, rfl⟩
  go_wp2_with fail
  refine (digits_any m _ (by omega)).mono ?_
  rintro e w1 ⟨v, rfl, hD, b1⟩
  go_wp2_with fail
  refine (n2 v w1 hD).mono ?_
  rintro e w2 ⟨rfl, b2⟩
  go_wp2
  go_ret2
  exact ⟨rfl, b1.trans (b2.mono b1.size)⟩
theorem randUnit_walk (s : Int) (w : World) : Calls Try.prog 5 #[.int .u64 s] w fun e w' => e = .returned (.bool true) ∧ Below w.heap.size w w' := by
  have n1 := unit_any s
  have n2 := refUnit_any s
  have hx := in_mix (rst s)
  have hu : uW (rmix (rst s) / 2048).toNat < 4607182418800017408 := uW_lt (by have := hx.1; have := hx.2; omega)
  generalize uW (rmix (rst s) / 2048).toNat = u at *
  clear hx
  have n3 : ∀ w, Calls Try.prog 15 #[.int .u64 (u : Int)] w fun e w' => e = .returned (.bool false) ∧ w' = w := by
    intro w
    have h := refNeg_any (u : Int) w ⟨by omega, by omega⟩
    rw [word_below (by omega)] at h
    exact h
  have n4 : ∀ w, Calls Try.prog 16 #[.int .u64 (u : Int), .int .u64 4607182418800017408] w fun e w' => e = .returned (.bool true) ∧ w' = w := by
    intro w
    have h := refLess_any (u : Int) 4607182418800017408 w ⟨by omega, by omega⟩ ⟨by decide, by decide⟩
    have e : lessB (u : Int) 4607182418800017408 = true := by
      unfold lessB nanB
      rw [word_mag (by omega), show mag (4607182418800017408 : Int) = 4607182418800017408 by decide, show sv (4607182418800017408 : Int) = 4607182418800017408 by decide]
      unfold sv
      rw [if_neg (by omega)]
      have d1 : decide ((9218868437227405312 : Int) < (u : Int)) = false := decide_eq_false (by omega)
      have d2 : decide ((9218868437227405312 : Int) < 4607182418800017408) = false := by decide
      have d3 : decide ((u : Int) < 4607182418800017408) = true := decide_eq_true (by omega)
      rw [d1, d2, d3]
      rfl
    rw [e] at h
    exact h
  clear hu
  go_enter Try.func5, Try.ntmps5
  go_wp2_with fail
  refine (n1 _).mono ?_
  rintro e w1 ⟨rfl, rfl⟩
  go_wp2_with fail
  refine (n2 _).mono ?_
  rintro e w2 ⟨rfl, b2⟩
  go_wp2_with fail
  refine (n3 _).mono ?_
  rintro e w3 ⟨rfl, rfl⟩
  go_wp2_with fail
  refine (n4 _).mono ?_
  rintro e w4 ⟨rfl, rfl⟩
  go_wp2_with fail
  refine (rlives_any _).mono ?_
  rintro e w' ⟨rfl, rfl⟩
  go_wp2
  go_ret
  exact ⟨rfl, b2⟩
end Go.Proofs.Yteihehpgegkcpaa
