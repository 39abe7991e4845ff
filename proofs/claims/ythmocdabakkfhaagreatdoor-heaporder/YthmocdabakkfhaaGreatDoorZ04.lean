/-
  DigRef
-/
import Derived.Test.YthmocdabakkfhaaGreatDoorZ03

/-
  The walk of the reference's Round.
-/
namespace Go.Proofs.YthmocdabakkfhaaGreatDoor
set_option maxRecDepth 100000
open Go.RowKit Dg Flo

def sgn (neg : Bool) : Int := if neg then 9223372036854775808 else 0

theorem or_hi (neg : Bool) (y : Int) (h0 : 0 ≤ y) (h1 : y < 9223372036854775808) : bits .or .u64 (sgn neg) y = sgn neg + y := by
  cases neg
  · show bits .or .u64 0 y = 0 + y
    rw [u64_or _ _ (by decide) (by decide) h0 (by omega)]
    simp only [Int.toNat_zero, Nat.zero_or]; omega
  · show bits .or .u64 9223372036854775808 y = 9223372036854775808 + y
    rw [u64_or _ _ (by decide) (by decide) h0 (by omega), show (9223372036854775808 : Int).toNat = 9223372036854775808 from rfl, nat_join 63 _ _ (by decide) (by omega)]
    omega
theorem or_lo (x f : Int) (h0 : 0 ≤ x) (h1 : x < 18446744073709551616) (h2 : x % 4503599627370496 = 0) (h3 : 0 ≤ f) (h4 : f < 4503599627370496) : bits .or .u64 x f = x + f := by
  rw [u64_or _ _ h0 h1 h3 (by omega), nat_join 52 _ _ (by omega) (by omega)]
  omega

theorem len_n (v : Value) (N l n : Nat) (hn : blen N = n) (hl : l ≤ 1073741824) : ∀ w, D w v N l → Calls Tryz.prog 81 #[v] w fun e w' => e = .returned (.int .i64 n) ∧ w' = w := by
  intro w h
  have := len_any v N l w h hl
  rw [hn] at this
  exact this

set_option maxHeartbeats 1000000 in
theorem round_low (v : Value) (N l n : Nat) (exp : Int) (more neg : Bool) (w : World) (hD : D w v N l) (hl : l ≤ 1048576) (hn : blen N = n) (hn2 : n ≤ 16777216) (e1 : -16777216 ≤ exp) (e2 : exp ≤ 16777216)
    (h : (n = 0 ∧ more = false) ∨ (n : Int) + exp < -1100) :
    Calls Tryz.prog 70 #[.bool neg, .int .i64 exp, v, .bool more] w fun e w' => e = .returned (.int .u64 (sgn neg)) ∧ w' = w := by
  have HL : Hid (∀ w, D w v N l → Calls Tryz.prog 81 #[v] w fun e w' => e = .returned (.int .i64 n) ∧ w' = w) := len_n v N l n hn (by omega)
  have HS : Hid (∀ w, Calls Tryz.prog 82 #[.bool neg] w fun e w' => e = .returned (.int .u64 (sgn neg)) ∧ w' = w) := refSign_any neg
  generalize sgn neg = S at *
  clear hn
  by_cases c : n = 0 ∧ more = false
  · obtain ⟨rfl, rfl⟩ := c
    clear h
    go_enter Tryz.func70, Tryz.ntmps70
    go_wp2_with (first | (go_at_call 81; refine (HL.out _ hD).mono ?_; rintro e w' ⟨rfl, rfl⟩) | (go_at_call 82; refine (HS.out _).mono ?_; rintro e w' ⟨rfl, rfl⟩))
    go_ret
    exact ⟨rfl, rfl⟩
  · have h2 : (n : Int) + exp < -1100 := by
      rcases h with h | h
      · exact absurd h c
      · exact h
    clear h
    by_cases n0 : n = 0
    · subst n0
      have hm : more = true := by
        cases more
        · exact absurd ⟨rfl, rfl⟩ c
        · rfl
      subst hm
      clear c
      go_enter Tryz.func70, Tryz.ntmps70
      go_wp2_with (first | (go_at_call 81; refine (HL.out _ hD).mono ?_; rintro e w' ⟨rfl, rfl⟩) | (go_at_call 82; refine (HS.out _).mono ?_; rintro e w' ⟨rfl, rfl⟩))
      go_ret
      exact ⟨rfl, rfl⟩
    · have nz : ((n : Int) == 0) = false := by rw [beq_eq_false_iff_ne]; omega
      clear c
      go_enter Tryz.func70, Tryz.ntmps70
      go_wp2_with (first | (go_at_call 81; refine (HL.out _ hD).mono ?_; rintro e w' ⟨rfl, rfl⟩) | (go_at_call 82; refine (HS.out _).mono ?_; rintro e w' ⟨rfl, rfl⟩))
      go_ret
      exact ⟨rfl, rfl⟩

set_option maxHeartbeats 1000000 in
theorem round_high (v : Value) (N l n : Nat) (exp : Int) (more neg : Bool) (w : World) (hD : D w v N l) (hl : l ≤ 1048576) (hn : blen N = n) (hn2 : n ≤ 16777216) (e1 : -16777216 ≤ exp) (e2 : exp ≤ 16777216) (n0 : n ≠ 0)
    (h : 1100 < (n : Int) + exp) :
    Calls Tryz.prog 70 #[.bool neg, .int .i64 exp, v, .bool more] w fun e w' => e = .returned (.int .u64 (sgn neg + 9218868437227405312)) ∧ w' = w := by
  have HL : Hid (∀ w, D w v N l → Calls Tryz.prog 81 #[v] w fun e w' => e = .returned (.int .i64 n) ∧ w' = w) := len_n v N l n hn (by omega)
  have HS : Hid (∀ w, Calls Tryz.prog 83 #[.bool neg] w fun e w' => e = .returned (.int .u64 (sgn neg + 9218868437227405312)) ∧ w' = w) := by
    show ∀ w, _
    cases neg <;> exact refInf_any _
  generalize sgn neg + 9218868437227405312 = S at *
  clear hn
  have nz : ((n : Int) == 0) = false := by rw [beq_eq_false_iff_ne]; omega
  go_enter Tryz.func70, Tryz.ntmps70
  go_wp2_with (first | (go_at_call 81; refine (HL.out _ hD).mono ?_; rintro e w' ⟨rfl, rfl⟩) | (go_at_call 83; refine (HS.out _).mono ?_; rintro e w' ⟨rfl, rfl⟩))
  go_ret
  exact ⟨rfl, rfl⟩

theorem and3 (x : Nat) (h : x < 18446744073709551616) : bits .and .u64 (x : Int) 3 = ((x % 4 : Nat) : Int) := by
  rw [u64_and _ _ (Int.natCast_nonneg _) (by omega) (by decide) (by decide), Int.toNat_natCast, show (3 : Int).toNat = 2 ^ 2 - 1 from by decide, Nat.and_two_pow_sub_one_eq_mod]

/-- The end of Round, in its own words. -/
theorem round_end (neg : Bool) (e : Int) (Q : Nat) (h1 : -1074 ≤ e) (h2 : Q ≤ 9007199254740992) (h3 : -1074 < e → 4503599627370496 ≤ Q) :
    (Q = 9007199254740992 → 971 < e + 1 → sgn neg + 9218868437227405312 = sgn neg + (min ((e + 1074).toNat * 4503599627370496 + Q) 9218868437227405312 : Nat)) ∧
    (Q = 9007199254740992 → e + 1 ≤ 971 → bits .or .u64 (bits .or .u64 (sgn neg) ((e + 1 + 1075) * 4503599627370496)) 0 = sgn neg + (min ((e + 1074).toNat * 4503599627370496 + Q) 9218868437227405312 : Nat)) ∧
    (Q ≠ 9007199254740992 → 971 < e → sgn neg + 9218868437227405312 = sgn neg + (min ((e + 1074).toNat * 4503599627370496 + Q) 9218868437227405312 : Nat)) ∧
    (Q ≠ 9007199254740992 → e ≤ 971 → Q < 4503599627370496 → bits .or .u64 (sgn neg) (Q : Int) = sgn neg + (min ((e + 1074).toNat * 4503599627370496 + Q) 9218868437227405312 : Nat)) ∧
    (Q ≠ 9007199254740992 → e ≤ 971 → 4503599627370496 ≤ Q → bits .or .u64 (bits .or .u64 (sgn neg) ((e + 1075) * 4503599627370496)) ((Q : Int) - 4503599627370496) = sgn neg + (min ((e + 1074).toNat * 4503599627370496 + Q) 9218868437227405312 : Nat)) := by
  have hs : sgn neg = 0 ∨ sgn neg = 9223372036854775808 := by cases neg <;> simp [sgn]
  refine ⟨?_, ?_, ?_, ?_, ?_⟩
  · intro a b; omega
  · intro a b
    rw [or_hi neg _ (by omega) (by omega), or_lo _ _ (by omega) (by omega) (by omega) (by omega) (by omega)]
    omega
  · intro a b
    have := h3 (by omega)
    omega
  · intro a b c
    rw [or_hi neg _ (by omega) (by omega)]
    have : e = -1074 := by
      rcases Int.lt_or_eq_of_le h1 with k | k
      · have := h3 k; omega
      · exact k.symm
    omega
  · intro a b c
    rw [or_hi neg _ (by omega) (by omega), or_lo _ _ (by omega) (by omega) (by omega) (by omega) (by omega)]
    omega

end Go.Proofs.YthmocdabakkfhaaGreatDoor
