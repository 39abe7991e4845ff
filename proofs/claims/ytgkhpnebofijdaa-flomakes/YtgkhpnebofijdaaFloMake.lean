/-
  The walks of pack, rounded, magnitude and Make.
-/
import Derived.Test.YtgkhpnebofijdaaFloRound
import Derived.Test.YtgkhpnebofijdaaFloLen
namespace Go.Proofs.Ytgkhpnebofijdaa
open Go.RowKit Flo

theorem ret_u64 {a b : Int} (h : a = b) : Ending.returned (.int .u64 a) = .returned (.int .u64 b) := by rw [h]

set_option maxHeartbeats 400000 in
theorem pack_any (x k : Int) (w : World) (h1 : 0 ≤ x + 1074) (h2 : x ≤ 1200) (h3 : 0 ≤ k) (h4 : k ≤ 9007199254740992) :
    Calls Try.prog 39 #[.int .i64 x, .int .u64 k] w fun e w' => e = .returned (.int .u64 (min ((x + 1074) * 4503599627370496 + k) 9218868437227405312)) ∧ w' = w := by
  go_enter Try.func39, Try.ntmps39
  go_wp2
  · go_ret
    exact ⟨ret_u64 (by omega), rfl⟩
  · go_ret
    exact ⟨ret_u64 (by omega), rfl⟩

theorem rounded_far (f d : Int) (m : Bool) (w : World) (h : 64 < d) :
    Calls Try.prog 40 #[.int .u64 f, .int .i64 d, .bool m] w fun e w' => e = .returned (.int .u64 0) ∧ w' = w := by
  go_enter Try.func40, Try.ntmps40
  go_wp2
  go_ret
  exact ⟨rfl, rfl⟩

set_option maxHeartbeats 400000 in
theorem rounded_walk (f d q r p : Nat) (m b : Bool) (w : World) (h2 : 1 ≤ d) (h3 : d ≤ 64) (hq : q < 9223372036854775808)
    (k1 : IntKind.u64.wrap (↑f - IntKind.u64.wrap (↑q * 2 ^ d)) = (r : Int)) (k2 : IntKind.u64.wrap (2 ^ (d - 1)) = (p : Int)) (k3 : ((f : Int) / 2 ^ d : Int) = (q : Int))
    (k4 : bits BinOp.and IntKind.u64 (q : Int) 1 = if b then 1 else 0) :
    Calls Try.prog 40 #[.int .u64 f, .int .i64 d, .bool m] w fun e w' => e = .returned (.int .u64 ((q : Int) + if p < r ∨ (r = p ∧ (m = true ∨ b = true)) then 1 else 0)) ∧ w' = w := by
  rcases Nat.lt_trichotomy r p with c | c | c
  · rw [if_neg (by omega), Int.add_zero]
    go_enter Try.func40, Try.ntmps40
    go_wp2
    go_ret
    exact ⟨rfl, rfl⟩
  · subst c
    cases m
    · cases b
      · rw [if_neg (by simp), Int.add_zero]
        rw [if_neg (by simp)] at k4
        go_enter Try.func40, Try.ntmps40
        go_wp2
        go_ret
        exact ⟨rfl, rfl⟩
      · rw [if_pos (by simp)]
        rw [if_pos rfl] at k4
        go_enter Try.func40, Try.ntmps40
        go_wp2
        go_ret
        exact ⟨rfl, rfl⟩
    · rw [if_pos (by simp)]
      clear k4
      go_enter Try.func40, Try.ntmps40
      go_wp2
      go_ret
      exact ⟨rfl, rfl⟩
  · rw [if_pos (by omega)]
    clear k4
    go_enter Try.func40, Try.ntmps40
    go_wp2
    go_ret
    exact ⟨rfl, rfl⟩

theorem u64_wrap_nat (n : Nat) (h : n < 18446744073709551616) : IntKind.u64.wrap (n : Int) = (n : Int) := by
  rw [IntKind.wrap_u64]; omega

theorem rounded_near (f d : Nat) (m : Bool) (w : World) (h1 : f < 18446744073709551616) (h2 : 1 ≤ d) (h3 : d ≤ 64) :
    Calls Try.prog 40 #[.int .u64 f, .int .i64 d, .bool m] w fun e w' => e = .returned (.int .u64 (roundedN f d m)) ∧ w' = w := by
  obtain ⟨j, rfl⟩ := Nat.exists_eq_add_of_le h2
  have hdm := Nat.div_add_mod f (2 ^ (1 + j))
  have hlt : f % 2 ^ (1 + j) < 2 ^ (1 + j) := Nat.mod_lt _ (Nat.two_pow_pos _)
  have hq : f / 2 ^ (1 + j) < 9223372036854775808 := by
    have : 2 ^ 1 ≤ 2 ^ (1 + j) := Nat.pow_le_pow_right (by decide) (by omega)
    have h := Nat.div_le_div_left (a := f) this (by decide)
    omega
  have hp : 2 ^ j < 18446744073709551616 := Nat.lt_of_lt_of_le (Nat.pow_lt_pow_right (by decide) (show j < 64 by omega)) (by decide)
  have k3 : ((f : Int) / 2 ^ (1 + j) : Int) = ((f / 2 ^ (1 + j) : Nat) : Int) := by
    rw [Int.natCast_ediv, Int.natCast_pow]; rfl
  have k2 : IntKind.u64.wrap (2 ^ (1 + j - 1)) = ((2 ^ j : Nat) : Int) := by
    rw [show 1 + j - 1 = j by omega, ← u64_wrap_nat _ hp, Int.natCast_pow]; rfl
  have k1 : IntKind.u64.wrap (↑f - IntKind.u64.wrap (((f / 2 ^ (1 + j) : Nat) : Int) * 2 ^ (1 + j))) = ((f % 2 ^ (1 + j) : Nat) : Int) := by
    have e : ((f / 2 ^ (1 + j) : Nat) : Int) * 2 ^ (1 + j) = ((2 ^ (1 + j) * (f / 2 ^ (1 + j)) : Nat) : Int) := by
      rw [Nat.mul_comm, Int.natCast_mul, Int.natCast_pow]; rfl
    rw [e]
    generalize 2 ^ (1 + j) * (f / 2 ^ (1 + j)) = z at *
    generalize f % 2 ^ (1 + j) = r at *
    rw [u64_wrap_nat z (by omega), show (f : Int) - (z : Int) = ((r : Nat) : Int) by omega, u64_wrap_nat r (by omega)]
  have k4 : bits BinOp.and IntKind.u64 ((f / 2 ^ (1 + j) : Nat) : Int) 1 = if (decide (f / 2 ^ (1 + j) % 2 = 1)) then 1 else 0 := by
    rw [u64_and _ _ (Int.natCast_nonneg _) (by clear k1 k2 k3; omega) (by decide) (by decide), Int.toNat_natCast]
    rw [show (1 : Int).toNat = 1 from rfl, nat_mask1]
    by_cases c : f / 2 ^ (1 + j) % 2 = 1
    · simp [c]
    · have : f / 2 ^ (1 + j) % 2 = 0 := by omega
      simp [this]
  refine (rounded_walk f (1 + j) (f / 2 ^ (1 + j)) (f % 2 ^ (1 + j)) (2 ^ j) m (decide (f / 2 ^ (1 + j) % 2 = 1)) w h2 h3 hq k1 k2 k3 k4).mono ?_
  rintro e w' ⟨rfl, rfl⟩
  refine ⟨ret_u64 ?_, rfl⟩
  unfold roundedN
  rw [if_neg (show ¬ 64 < 1 + j by omega), show 1 + j - 1 = j by omega]
  simp only [decide_eq_true_eq]
  split <;> simp

/-- rounded, whatever falls out. -/
theorem rounded_any (f d : Nat) (m : Bool) (w : World) (h1 : f < 18446744073709551616) (h2 : 1 ≤ d) :
    Calls Try.prog 40 #[.int .u64 f, .int .i64 d, .bool m] w fun e w' => e = .returned (.int .u64 (roundedN f d m)) ∧ w' = w := by
  by_cases h : d ≤ 64
  · exact rounded_near f d m w h1 h2 h
  · refine (rounded_far f d m w (by omega)).mono ?_
    rintro e w' ⟨rfl, rfl⟩
    refine ⟨ret_u64 ?_, rfl⟩
    unfold roundedN
    rw [if_pos (by omega)]
    rfl

end Go.Proofs.Ytgkhpnebofijdaa
