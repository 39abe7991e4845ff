/-
  The walks of magnitude.
-/
import Derived.Test.YtgkhpnebofijdaaFloMake
import Derived.Test.YtgkhpnebofijdaaFloRung
namespace Go.Proofs.Ytgkhpnebofijdaa
open Go.RowKit Flo

theorem mag_zero (x : Int) (m : Bool) (w : World) :
    Calls Try.prog 31 #[.int .i64 x, .int .u64 0, .bool m] w fun e w' => e = .returned (.int .u64 0) ∧ w' = w := by
  go_enter Try.func31, Try.ntmps31
  go_wp2
  go_ret
  exact ⟨rfl, rfl⟩

theorem len64_nat (f L : Nat) (w : World) (h1 : f < 18446744073709551616) (hL : Lib.bitLen f = L) :
    Calls Try.prog 38 #[.int .u64 f] w fun e w' => e = .returned (.int .i64 L) ∧ w' = w := by
  have h := len64_any f w ⟨by omega, by omega⟩
  rw [Int.toNat_natCast, hL] at h
  exact h

/-- Nothing falls out; a Plain number. -/
theorem mag_a0 (x : Int) (f L k : Nat) (m : Bool) (w : World) (h0 : f ≠ 0) (h1 : f < 18446744073709551616) (hx : -1300 ≤ x) (hy : x ≤ 1100) (hL : Lib.bitLen f = L) (l1 : 1 ≤ L) (l2 : L ≤ 53)
    (hc : -1074 - x ≤ (L : Int) - 53) (hk : IntKind.u64.wrap ((f : Int) * 2 ^ (-((L : Int) - 53)).toNat) = (k : Int)) (hk2 : k ≤ 9007199254740992) :
    Calls Try.prog 31 #[.int .i64 x, .int .u64 f, .bool m] w fun e w' => e = .returned (.int .u64 (min ((x + ((L : Int) - 53) + 1074) * 4503599627370496 + k) 9218868437227405312)) ∧ w' = w := by
  have hz : ((f : Int) == 0) = false := by rw [beq_eq_false_iff_ne]; omega
  go_enter Try.func31, Try.ntmps31
  go_wp2_with (first | (go_at_call 38; refine (len64_nat f L _ h1 hL).mono ?_; rintro e w' ⟨rfl, rfl⟩) | (go_at_call 39; refine (pack_any (x + ((L : Int) - 53)) k _ (by omega) (by omega) (by omega) (by omega)).mono ?_; rintro e w' ⟨rfl, rfl⟩))
  go_ret
  exact ⟨rfl, rfl⟩

/-- Some bits fall out; a Plain number. -/
theorem mag_a1 (x : Int) (f L d k : Nat) (m : Bool) (w : World) (h0 : f ≠ 0) (h1 : f < 18446744073709551616) (hx : -1300 ≤ x) (hy : x ≤ 1100) (hL : Lib.bitLen f = L) (l2 : L ≤ 64)
    (hc : -1074 - x ≤ (L : Int) - 53) (hd : (L : Int) - 53 = (d : Int)) (d1 : 1 ≤ d) (hk : roundedN f d m = k) (hk2 : k ≤ 9007199254740992) :
    Calls Try.prog 31 #[.int .i64 x, .int .u64 f, .bool m] w fun e w' => e = .returned (.int .u64 (min ((x + (d : Int) + 1074) * 4503599627370496 + k) 9218868437227405312)) ∧ w' = w := by
  have hz : ((f : Int) == 0) = false := by rw [beq_eq_false_iff_ne]; omega
  go_enter Try.func31, Try.ntmps31
  go_wp2_with (first | (go_at_call 38; refine (len64_nat f L _ h1 hL).mono ?_; rintro e w' ⟨rfl, rfl⟩) | (go_at_call 40; refine (rounded_any f d m _ h1 d1).mono ?_; rintro e w' ⟨rfl, rfl⟩) | (go_at_call 39; refine (pack_any (x + (d : Int)) k _ (by omega) (by omega) (by omega) (by omega)).mono ?_; rintro e w' ⟨rfl, rfl⟩))
  go_ret
  exact ⟨rfl, rfl⟩

/-- Nothing falls out; a Tiny number. -/
theorem mag_b0 (x : Int) (f L k : Nat) (m : Bool) (w : World) (h0 : f ≠ 0) (h1 : f < 18446744073709551616) (hx : -1074 ≤ x) (hy : x ≤ 1100) (hL : Lib.bitLen f = L) (l2 : L ≤ 64)
    (hc : (L : Int) - 53 < -1074 - x) (hk : IntKind.u64.wrap ((f : Int) * 2 ^ (-(-1074 - x)).toNat) = (k : Int)) (hk2 : k ≤ 9007199254740992) :
    Calls Try.prog 31 #[.int .i64 x, .int .u64 f, .bool m] w fun e w' => e = .returned (.int .u64 (min ((x + (-1074 - x) + 1074) * 4503599627370496 + k) 9218868437227405312)) ∧ w' = w := by
  have hz : ((f : Int) == 0) = false := by rw [beq_eq_false_iff_ne]; omega
  go_enter Try.func31, Try.ntmps31
  go_wp2_with (first | (go_at_call 38; refine (len64_nat f L _ h1 hL).mono ?_; rintro e w' ⟨rfl, rfl⟩) | (go_at_call 39; refine (pack_any (x + (-1074 - x)) k _ (by omega) (by omega) (by omega) (by omega)).mono ?_; rintro e w' ⟨rfl, rfl⟩))
  go_ret
  exact ⟨rfl, rfl⟩

/-- Some bits fall out; a Tiny number. -/
theorem mag_b1 (x : Int) (f L d k : Nat) (m : Bool) (w : World) (h0 : f ≠ 0) (h1 : f < 18446744073709551616) (hx : -1300 ≤ x) (hy : x ≤ 1100) (hL : Lib.bitLen f = L) (l2 : L ≤ 64)
    (hc : (L : Int) - 53 < -1074 - x) (hd : -1074 - x = (d : Int)) (d1 : 1 ≤ d) (hk : roundedN f d m = k) (hk2 : k ≤ 9007199254740992) :
    Calls Try.prog 31 #[.int .i64 x, .int .u64 f, .bool m] w fun e w' => e = .returned (.int .u64 (min ((x + (d : Int) + 1074) * 4503599627370496 + k) 9218868437227405312)) ∧ w' = w := by
  have hz : ((f : Int) == 0) = false := by rw [beq_eq_false_iff_ne]; omega
  go_enter Try.func31, Try.ntmps31
  go_wp2_with (first | (go_at_call 38; refine (len64_nat f L _ h1 hL).mono ?_; rintro e w' ⟨rfl, rfl⟩) | (go_at_call 40; refine (rounded_any f d m _ h1 d1).mono ?_; rintro e w' ⟨rfl, rfl⟩) | (go_at_call 39; refine (pack_any (x + (d : Int)) k _ (by omega) (by omega) (by omega) (by omega)).mono ?_; rintro e w' ⟨rfl, rfl⟩))
  go_ret
  exact ⟨rfl, rfl⟩

end Go.Proofs.Ytgkhpnebofijdaa
