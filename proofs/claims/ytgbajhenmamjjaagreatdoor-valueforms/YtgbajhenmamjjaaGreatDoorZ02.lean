/-
  FloMake, FloRung, FloMake2, FloMake3, FloLives, FloRef
-/
import Derived.Deep.Light
import Derived.Test.YtgbajhenmamjjaaGreatDoorZ01

/-
  The walks of pack, rounded, magnitude and Make.
-/
namespace Go.Proofs.YtgbajhenmamjjaaGreatDoor
set_option maxRecDepth 100000
open Go.RowKit Flo

theorem ret_u64 {a b : Int} (h : a = b) : Ending.returned (.int .u64 a) = .returned (.int .u64 b) := by rw [h]

set_option maxHeartbeats 400000 in
theorem pack_any (x k : Int) (w : World) (h1 : 0 ≤ x + 1074) (h2 : x ≤ 1200) (h3 : 0 ≤ k) (h4 : k ≤ 9007199254740992) :
    Calls Tryz.prog 129 #[.int .i64 x, .int .u64 k] w fun e w' => e = .returned (.int .u64 (min ((x + 1074) * 4503599627370496 + k) 9218868437227405312)) ∧ w' = w := by
  go_enter Tryz.func129, Tryz.ntmps129
  go_wp2
  · go_ret
    exact ⟨ret_u64 (by omega), rfl⟩
  · go_ret
    exact ⟨ret_u64 (by omega), rfl⟩

theorem rounded_far (f d : Int) (m : Bool) (w : World) (h : 64 < d) :
    Calls Tryz.prog 130 #[.int .u64 f, .int .i64 d, .bool m] w fun e w' => e = .returned (.int .u64 0) ∧ w' = w := by
  go_enter Tryz.func130, Tryz.ntmps130
  go_wp2
  go_ret
  exact ⟨rfl, rfl⟩

set_option maxHeartbeats 400000 in
theorem rounded_walk (f d q r p : Nat) (m b : Bool) (w : World) (h2 : 1 ≤ d) (h3 : d ≤ 64) (hq : q < 9223372036854775808)
    (k1 : IntKind.u64.wrap (↑f - IntKind.u64.wrap (↑q * 2 ^ d)) = (r : Int)) (k2 : IntKind.u64.wrap (2 ^ (d - 1)) = (p : Int)) (k3 : ((f : Int) / 2 ^ d : Int) = (q : Int))
    (k4 : bits BinOp.and IntKind.u64 (q : Int) 1 = if b then 1 else 0) :
    Calls Tryz.prog 130 #[.int .u64 f, .int .i64 d, .bool m] w fun e w' => e = .returned (.int .u64 ((q : Int) + if p < r ∨ (r = p ∧ (m = true ∨ b = true)) then 1 else 0)) ∧ w' = w := by
  rcases Nat.lt_trichotomy r p with c | c | c
  · rw [if_neg (by omega), Int.add_zero]
    go_enter Tryz.func130, Tryz.ntmps130
    go_wp2
    go_ret
    exact ⟨rfl, rfl⟩
  · subst c
    cases m
    · cases b
      · rw [if_neg (by simp), Int.add_zero]
        rw [if_neg (by simp)] at k4
        go_enter Tryz.func130, Tryz.ntmps130
        go_wp2
        go_ret
        exact ⟨rfl, rfl⟩
      · rw [if_pos (by simp)]
        rw [if_pos rfl] at k4
        go_enter Tryz.func130, Tryz.ntmps130
        go_wp2
        go_ret
        exact ⟨rfl, rfl⟩
    · rw [if_pos (by simp)]
      clear k4
      go_enter Tryz.func130, Tryz.ntmps130
      go_wp2
      go_ret
      exact ⟨rfl, rfl⟩
  · rw [if_pos (by omega)]
    clear k4
    go_enter Tryz.func130, Tryz.ntmps130
    go_wp2
    go_ret
    exact ⟨rfl, rfl⟩

theorem u64_wrap_nat (n : Nat) (h : n < 18446744073709551616) : IntKind.u64.wrap (n : Int) = (n : Int) := by
  rw [IntKind.wrap_u64]; omega

theorem rounded_near (f d : Nat) (m : Bool) (w : World) (h1 : f < 18446744073709551616) (h2 : 1 ≤ d) (h3 : d ≤ 64) :
    Calls Tryz.prog 130 #[.int .u64 f, .int .i64 d, .bool m] w fun e w' => e = .returned (.int .u64 (roundedN f d m)) ∧ w' = w := by
  obtain ⟨j, rfl⟩ := Nat.exists_eq_add_of_le h2
  have hdm := Nat.div_add_mod f (2 ^ (1 + j))
  have hlt : f % 2 ^ (1 + j) < 2 ^ (1 + j) := Nat.mod_lt _ (Nat.two_pow_pos _)
  have hq : f / 2 ^ (1 + j) < 9223372036854775808 := by
    have : 2 ^ 1 ≤ 2 ^ (1 + j) := Nat.pow_le_pow_right (by decide) (by omega)
    have h := Nat.div_le_div_left (a := f) this (by decide)
    omega
  have hp : 2 ^ j < 18446744073709551616 := Nat.lt_of_lt_of_le (Nat.pow_lt_pow_right (by decide) (show j < 64 by omega)) (by decide)
  have k3 : ((f : Int) / 2 ^ (1 + j) : Int) = ((f / 2 ^ (1 + j) : Nat) : Int) := by
    rw [Int.natCast_ediv, Int.natCast_pow]; rfl
  have k2 : IntKind.u64.wrap (2 ^ (1 + j - 1)) = ((2 ^ j : Nat) : Int) := by
    rw [show 1 + j - 1 = j by omega, ← u64_wrap_nat _ hp, Int.natCast_pow]; rfl
  have k1 : IntKind.u64.wrap (↑f - IntKind.u64.wrap (((f / 2 ^ (1 + j) : Nat) : Int) * 2 ^ (1 + j))) = ((f % 2 ^ (1 + j) : Nat) : Int) := by
    have e : ((f / 2 ^ (1 + j) : Nat) : Int) * 2 ^ (1 + j) = ((2 ^ (1 + j) * (f / 2 ^ (1 + j)) : Nat) : Int) := by
      rw [Nat.mul_comm, Int.natCast_mul, Int.natCast_pow]; rfl
    rw [e]
    generalize 2 ^ (1 + j) * (f / 2 ^ (1 + j)) = z at *
    generalize f % 2 ^ (1 + j) = r at *
    rw [u64_wrap_nat z (by omega), show (f : Int) - (z : Int) = ((r : Nat) : Int) by omega, u64_wrap_nat r (by omega)]
  have k4 : bits BinOp.and IntKind.u64 ((f / 2 ^ (1 + j) : Nat) : Int) 1 = if (decide (f / 2 ^ (1 + j) % 2 = 1)) then 1 else 0 := by
    rw [u64_and _ _ (Int.natCast_nonneg _) (by clear k1 k2 k3; omega) (by decide) (by decide), Int.toNat_natCast]
    rw [show (1 : Int).toNat = 1 from rfl, nat_mask1]
    by_cases c : f / 2 ^ (1 + j) % 2 = 1
    · simp [c]
    · have : f / 2 ^ (1 + j) % 2 = 0 := by omega
      simp [this]
  refine (rounded_walk f (1 + j) (f / 2 ^ (1 + j)) (f % 2 ^ (1 + j)) (2 ^ j) m (decide (f / 2 ^ (1 + j) % 2 = 1)) w h2 h3 hq k1 k2 k3 k4).mono ?_
  rintro e w' ⟨rfl, rfl⟩
  refine ⟨ret_u64 ?_, rfl⟩
  unfold roundedN
  rw [if_neg (show ¬ 64 < 1 + j by omega), show 1 + j - 1 = j by omega]
  simp only [decide_eq_true_eq]
  split <;> simp

/-- rounded, whatever falls out. -/
theorem rounded_any (f d : Nat) (m : Bool) (w : World) (h1 : f < 18446744073709551616) (h2 : 1 ≤ d) :
    Calls Tryz.prog 130 #[.int .u64 f, .int .i64 d, .bool m] w fun e w' => e = .returned (.int .u64 (roundedN f d m)) ∧ w' = w := by
  by_cases h : d ≤ 64
  · exact rounded_near f d m w h1 h2 h
  · refine (rounded_far f d m w (by omega)).mono ?_
    rintro e w' ⟨rfl, rfl⟩
    refine ⟨ret_u64 ?_, rfl⟩
    unfold roundedN
    rw [if_pos (by omega)]
    rfl

end Go.Proofs.YtgbajhenmamjjaaGreatDoor

/-
  Plain mathematics: the rung of a whole number times a power of two.
-/
namespace Go.Proofs.YtgbajhenmamjjaaGreatDoor.Flo
set_option maxRecDepth 100000

/-- How many places below the least number's place the units lie. -/
def G : Nat := 300
theorem G_eq : G = 300 := rfl

theorem scaled_lt {n L E : Nat} (h : n < 2 ^ L) : n * 2 ^ E < 2 ^ (L + E) := by
  rw [Nat.pow_add]; exact Nat.mul_lt_mul_of_pos_right h (Nat.two_pow_pos E)
theorem scaled_ge {n L E : Nat} (h : 2 ^ L ≤ n) : 2 ^ (L + E) ≤ n * 2 ^ E := by
  rw [Nat.pow_add]; exact Nat.mul_le_mul_right _ h

theorem rne_up {n E d : Nat} (h : d ≤ E) : rne (n * 2 ^ E) d = n * 2 ^ (E - d) := by
  have e : n * 2 ^ E = n * 2 ^ (E - d) * 2 ^ d := by rw [Nat.mul_assoc, ← Nat.pow_add, show E - d + d = E by omega]
  rw [e, rne_exact]
theorem rne_down {n E d : Nat} (h : E ≤ d) : rne (n * 2 ^ E) d = rne n (d - E) := by
  have e := rne_scale n (d - E) E
  rw [show d - E + E = d by omega] at e
  exact e

theorem low_a {g n L E : Nat} (h : n < 2 ^ L) (hc : L + E ≤ g + 53) : lowest g (n * 2 ^ E) = g :=
  lowest_low (Nat.lt_of_lt_of_le (scaled_lt h) (Nat.pow_le_pow_right (by decide) hc))
theorem low_b {g n L E : Nat} (h0 : 2 ^ L ≤ n) (h : n < 2 ^ (L + 1)) (hc : g + 53 ≤ L + 1 + E) : lowest g (n * 2 ^ E) = L + 1 + E - 53 := by
  rcases Nat.lt_or_ge (g + 53) (L + 1 + E) with k | k
  · refine lowest_high (by omega) ?_ ?_
    · rw [show L + 1 + E - 53 + 52 = L + E by omega]; exact scaled_ge h0
    · rw [show L + 1 + E - 53 + 53 = L + 1 + E by omega]; exact scaled_lt h
  · rw [low_a h (by omega)]; omega

/-- The four ways, in the code's own words. -/
theorem rung_a0 {g n L E : Nat} (h0 : 2 ^ L ≤ n) (h : n < 2 ^ (L + 1)) (hc : g + 53 ≤ L + 1 + E) (hl : L + 1 ≤ 53) :
    rung g (n * 2 ^ E) = min ((L + 1 + E - 53 - g) * 4503599627370496 + n * 2 ^ (53 - (L + 1))) 9218868437227405312 := by
  unfold rung
  rw [low_b h0 h hc, rne_up (by omega), show E - (L + 1 + E - 53) = 53 - (L + 1) by omega]
theorem rung_a1 {g n L E : Nat} (h0 : 2 ^ L ≤ n) (h : n < 2 ^ (L + 1)) (hc : g + 53 ≤ L + 1 + E) (hl : 53 ≤ L + 1) :
    rung g (n * 2 ^ E) = min ((L + 1 + E - 53 - g) * 4503599627370496 + rne n (L + 1 - 53)) 9218868437227405312 := by
  unfold rung
  rw [low_b h0 h hc, rne_down (by omega), show L + 1 + E - 53 - E = L + 1 - 53 by omega]
theorem rung_b0 {g n L E : Nat} (h : n < 2 ^ L) (hc : L + E ≤ g + 53) (hl : g ≤ E) :
    rung g (n * 2 ^ E) = min (n * 2 ^ (E - g)) 9218868437227405312 := by
  unfold rung
  rw [low_a h hc, rne_up hl, Nat.sub_self, Nat.zero_mul, Nat.zero_add]
theorem rung_b1 {g n L E : Nat} (h : n < 2 ^ L) (hc : L + E ≤ g + 53) (hl : E ≤ g) :
    rung g (n * 2 ^ E) = min (rne n (g - E)) 9218868437227405312 := by
  unfold rung
  rw [low_a h hc, rne_down hl, Nat.sub_self, Nat.zero_mul, Nat.zero_add]

theorem kept_a0 {n L : Nat} (h : n < 2 ^ (L + 1)) (hl : L + 1 ≤ 53) : n * 2 ^ (53 - (L + 1)) < 9007199254740992 := by
  have := scaled_lt (E := 53 - (L + 1)) h
  rw [show L + 1 + (53 - (L + 1)) = 53 by omega] at this
  omega
theorem kept_b0 {g n L E : Nat} (h : n < 2 ^ L) (hc : L + E ≤ g + 53) (hl : g ≤ E) : n * 2 ^ (E - g) < 9007199254740992 := by
  have := scaled_lt (E := E - g) h
  have k : 2 ^ (L + (E - g)) ≤ 2 ^ 53 := Nat.pow_le_pow_right (by decide) (by omega)
  omega
theorem kept_1 {n L d : Nat} (h : n < 2 ^ L) (hc : L ≤ d + 53) : rne n d ≤ 9007199254740992 :=
  rne_le (Nat.lt_of_lt_of_le h (Nat.pow_le_pow_right (by decide) hc))

end Go.Proofs.YtgbajhenmamjjaaGreatDoor.Flo

/-
  The walks of magnitude.
-/
namespace Go.Proofs.YtgbajhenmamjjaaGreatDoor
set_option maxRecDepth 100000
open Go.RowKit Flo

theorem mag_zero (x : Int) (m : Bool) (w : World) :
    Calls Tryz.prog 126 #[.int .i64 x, .int .u64 0, .bool m] w fun e w' => e = .returned (.int .u64 0) ∧ w' = w := by
  go_enter Tryz.func126, Tryz.ntmps126
  go_wp2
  go_ret
  exact ⟨rfl, rfl⟩

theorem len64_nat (f L : Nat) (w : World) (h1 : f < 18446744073709551616) (hL : Lib.bitLen f = L) :
    Calls Tryz.prog 67 #[.int .u64 f] w fun e w' => e = .returned (.int .i64 L) ∧ w' = w := by
  have h := len64_any f w ⟨by omega, by omega⟩
  rw [Int.toNat_natCast, hL] at h
  exact h

/-- Nothing falls out; a Plain number. -/
theorem mag_a0 (x : Int) (f L k : Nat) (m : Bool) (w : World) (h0 : f ≠ 0) (h1 : f < 18446744073709551616) (hx : -1300 ≤ x) (hy : x ≤ 1100) (hL : Lib.bitLen f = L) (l1 : 1 ≤ L) (l2 : L ≤ 53)
    (hc : -1074 - x ≤ (L : Int) - 53) (hk : IntKind.u64.wrap ((f : Int) * 2 ^ (-((L : Int) - 53)).toNat) = (k : Int)) (hk2 : k ≤ 9007199254740992) :
    Calls Tryz.prog 126 #[.int .i64 x, .int .u64 f, .bool m] w fun e w' => e = .returned (.int .u64 (min ((x + ((L : Int) - 53) + 1074) * 4503599627370496 + k) 9218868437227405312)) ∧ w' = w := by
  have hz : ((f : Int) == 0) = false := by rw [beq_eq_false_iff_ne]; omega
  go_enter Tryz.func126, Tryz.ntmps126
  go_wp2_with (first | (go_at_call 67; refine (len64_nat f L _ h1 hL).mono ?_; rintro e w' ⟨rfl, rfl⟩) | (go_at_call 129; refine (pack_any (x + ((L : Int) - 53)) k _ (by omega) (by omega) (by omega) (by omega)).mono ?_; rintro e w' ⟨rfl, rfl⟩))
  go_ret
  exact ⟨rfl, rfl⟩

/-- Some bits fall out; a Plain number. -/
theorem mag_a1 (x : Int) (f L d k : Nat) (m : Bool) (w : World) (h0 : f ≠ 0) (h1 : f < 18446744073709551616) (hx : -1300 ≤ x) (hy : x ≤ 1100) (hL : Lib.bitLen f = L) (l2 : L ≤ 64)
    (hc : -1074 - x ≤ (L : Int) - 53) (hd : (L : Int) - 53 = (d : Int)) (d1 : 1 ≤ d) (hk : roundedN f d m = k) (hk2 : k ≤ 9007199254740992) :
    Calls Tryz.prog 126 #[.int .i64 x, .int .u64 f, .bool m] w fun e w' => e = .returned (.int .u64 (min ((x + (d : Int) + 1074) * 4503599627370496 + k) 9218868437227405312)) ∧ w' = w := by
  have hz : ((f : Int) == 0) = false := by rw [beq_eq_false_iff_ne]; omega
  go_enter Tryz.func126, Tryz.ntmps126
  go_wp2_with (first | (go_at_call 67; refine (len64_nat f L _ h1 hL).mono ?_; rintro e w' ⟨rfl, rfl⟩) | (go_at_call 130; refine (rounded_any f d m _ h1 d1).mono ?_; rintro e w' ⟨rfl, rfl⟩) | (go_at_call 129; refine (pack_any (x + (d : Int)) k _ (by omega) (by omega) (by omega) (by omega)).mono ?_; rintro e w' ⟨rfl, rfl⟩))
  go_ret
  exact ⟨rfl, rfl⟩

/-- Nothing falls out; a Tiny number. -/
theorem mag_b0 (x : Int) (f L k : Nat) (m : Bool) (w : World) (h0 : f ≠ 0) (h1 : f < 18446744073709551616) (hx : -1074 ≤ x) (hy : x ≤ 1100) (hL : Lib.bitLen f = L) (l2 : L ≤ 64)
    (hc : (L : Int) - 53 < -1074 - x) (hk : IntKind.u64.wrap ((f : Int) * 2 ^ (-(-1074 - x)).toNat) = (k : Int)) (hk2 : k ≤ 9007199254740992) :
    Calls Tryz.prog 126 #[.int .i64 x, .int .u64 f, .bool m] w fun e w' => e = .returned (.int .u64 (min ((x + (-1074 - x) + 1074) * 4503599627370496 + k) 9218868437227405312)) ∧ w' = w := by
  have hz : ((f : Int) == 0) = false := by rw [beq_eq_false_iff_ne]; omega
  go_enter Tryz.func126, Tryz.ntmps126
  go_wp2_with (first | (go_at_call 67; refine (len64_nat f L _ h1 hL).mono ?_; rintro e w' ⟨rfl, rfl⟩) | (go_at_call 129; refine (pack_any (x + (-1074 - x)) k _ (by omega) (by omega) (by omega) (by omega)).mono ?_; rintro e w' ⟨rfl, rfl⟩))
  go_ret
  exact ⟨rfl, rfl⟩

/-- Some bits fall out; a Tiny number. -/
theorem mag_b1 (x : Int) (f L d k : Nat) (m : Bool) (w : World) (h0 : f ≠ 0) (h1 : f < 18446744073709551616) (hx : -1300 ≤ x) (hy : x ≤ 1100) (hL : Lib.bitLen f = L) (l2 : L ≤ 64)
    (hc : (L : Int) - 53 < -1074 - x) (hd : -1074 - x = (d : Int)) (d1 : 1 ≤ d) (hk : roundedN f d m = k) (hk2 : k ≤ 9007199254740992) :
    Calls Tryz.prog 126 #[.int .i64 x, .int .u64 f, .bool m] w fun e w' => e = .returned (.int .u64 (min ((x + (d : Int) + 1074) * 4503599627370496 + k) 9218868437227405312)) ∧ w' = w := by
  have hz : ((f : Int) == 0) = false := by rw [beq_eq_false_iff_ne]; omega
  go_enter Tryz.func126, Tryz.ntmps126
  go_wp2_with (first | (go_at_call 67; refine (len64_nat f L _ h1 hL).mono ?_; rintro e w' ⟨rfl, rfl⟩) | (go_at_call 130; refine (rounded_any f d m _ h1 d1).mono ?_; rintro e w' ⟨rfl, rfl⟩) | (go_at_call 129; refine (pack_any (x + (d : Int)) k _ (by omega) (by omega) (by omega) (by omega)).mono ?_; rintro e w' ⟨rfl, rfl⟩))
  go_ret
  exact ⟨rfl, rfl⟩

end Go.Proofs.YtgbajhenmamjjaaGreatDoor

/-
  magnitude and Make by the rung of what they are given.
-/
namespace Go.Proofs.YtgbajhenmamjjaaGreatDoor
set_option maxRecDepth 100000
open Go.RowKit Flo

theorem min_cast (a b : Nat) : ((min a b : Nat) : Int) = min (a : Int) (b : Int) := by omega
theorem wrap_pow (f j k : Nat) (i : Int) (hj : i = (j : Int)) (e : f * 2 ^ j = k) (h : k ≤ 9007199254740992) : IntKind.u64.wrap ((f : Int) * 2 ^ i.toNat) = (k : Int) := by
  subst hj
  rw [Int.toNat_natCast, ← u64_wrap_nat k (by omega), ← e, Int.natCast_mul, Int.natCast_pow]
  rfl

theorem mag_any (x : Int) (f : Nat) (w : World) (h1 : f < 18446744073709551616) (hx : -1201 ≤ x) (hy : x ≤ 1100) :
    Calls Tryz.prog 126 #[.int .i64 x, .int .u64 f, .bool false] w fun e w' => e = .returned (.int .u64 (rung G (f * 2 ^ (x + 1074 + G).toNat) : Nat)) ∧ w' = w := by
  by_cases h0 : f = 0
  · subst h0
    have e : rung G (0 * 2 ^ (x + 1074 + G).toNat) = 0 := by rw [Nat.zero_mul]; exact rung_tiny (Nat.zero_le _)
    rw [e]
    exact mag_zero x false w
  · obtain ⟨l1, l2, b1, b2⟩ := bitLen_bounds h0 h1
    have hg := G_eq
    obtain ⟨L, hL⟩ := Nat.exists_eq_add_of_le l1
    obtain ⟨E, hE⟩ := Int.eq_ofNat_of_zero_le (show 0 ≤ x + 1074 + G by omega)
    rw [hE, Int.toNat_natCast]
    rw [Nat.add_comm 1 L] at hL
    rw [hL] at b1 b2 l1 l2
    rw [Nat.add_sub_cancel] at b1
    by_cases c : -1074 - x ≤ ((L + 1 : Nat) : Int) - 53
    · by_cases d : L + 1 ≤ 53
      · have hk := kept_a0 b2 d
        refine (mag_a0 x f (L + 1) (f * 2 ^ (53 - (L + 1))) false w h0 h1 (by omega) hy hL (by omega) d c (wrap_pow f (53 - (L + 1)) _ _ (by omega) rfl (by omega)) (by omega)).mono ?_
        rintro e w' ⟨rfl, rfl⟩
        refine ⟨ret_u64 ?_, rfl⟩
        rw [rung_a0 b1 b2 (by omega) d, min_cast]
        generalize f * 2 ^ (53 - (L + 1)) = k at *
        omega
      · have hk := kept_1 (d := L + 1 - 53) b2 (by omega)
        refine (mag_a1 x f (L + 1) (L + 1 - 53) (rne f (L + 1 - 53)) false w h0 h1 (by omega) hy hL l2 c (by omega) (by omega) (roundedN_false (by omega) (by omega)) hk).mono ?_
        rintro e w' ⟨rfl, rfl⟩
        refine ⟨ret_u64 ?_, rfl⟩
        rw [rung_a1 b1 b2 (by omega) (by omega), min_cast]
        generalize rne f (L + 1 - 53) = k at *
        omega
    · by_cases d : G ≤ E
      · have hk := kept_b0 (g := G) (E := E) b2 (by omega) d
        refine (mag_b0 x f (L + 1) (f * 2 ^ (E - G)) false w h0 h1 (by omega) hy hL l2 (by omega) (wrap_pow f (E - G) _ _ (by omega) rfl (by omega)) (by omega)).mono ?_
        rintro e w' ⟨rfl, rfl⟩
        refine ⟨ret_u64 ?_, rfl⟩
        rw [rung_b0 b2 (by omega) d, min_cast]
        generalize f * 2 ^ (E - G) = k at *
        omega
      · have hk := kept_1 (d := G - E) b2 (by omega)
        refine (mag_b1 x f (L + 1) (G - E) (rne f (G - E)) false w h0 h1 (by omega) hy hL l2 (by omega) (by omega) (by omega) (roundedN_false (by omega) (by omega)) hk).mono ?_
        rintro e w' ⟨rfl, rfl⟩
        refine ⟨ret_u64 ?_, rfl⟩
        rw [rung_b1 b2 (by omega) (by omega), min_cast]
        generalize rne f (G - E) = k at *
        omega

theorem bitLen_64 {f : Nat} (h1 : f < 18446744073709551616) (h2 : 9223372036854775808 ≤ f) : Lib.bitLen f = 64 := by
  rw [bitLen_log f (by omega) (by omega), log2_of (k := 63) (by omega) (by omega)]

/-- A half more, where there is no room for it. -/
theorem mag_more (x : Int) (f : Nat) (w : World) (h1 : f < 18446744073709551616) (h2 : 9223372036854775808 ≤ f) (hx : -1200 ≤ x) (hy : x ≤ 1100) :
    Calls Tryz.prog 126 #[.int .i64 x, .int .u64 f, .bool true] w fun e w' => e = .returned (.int .u64 (rung G ((2 * f + 1) * 2 ^ (x + 1073 + G).toNat) : Nat)) ∧ w' = w := by
  have hg := G_eq
  have hL := bitLen_64 h1 h2
  obtain ⟨E, hE⟩ := Int.eq_ofNat_of_zero_le (show 0 ≤ x + 1073 + G by omega)
  rw [hE, Int.toNat_natCast]
  have b1 : 2 ^ 64 ≤ 2 * f + 1 := by omega
  have b2 : 2 * f + 1 < 2 ^ (64 + 1) := by omega
  by_cases c : -1074 - x ≤ ((64 : Nat) : Int) - 53
  · have hk := kept_1 (d := 12) b2 (by omega)
    refine (mag_a1 x f 64 11 (rne (2 * f + 1) 12) true w (by omega) h1 (by omega) hy hL (by omega) c (by omega) (by omega) (roundedN_true (by omega) (by omega)) hk).mono ?_
    rintro e w' ⟨rfl, rfl⟩
    refine ⟨ret_u64 ?_, rfl⟩
    rw [rung_a1 b1 b2 (by omega) (by omega), min_cast]
    rw [show 64 + 1 - 53 = 12 from rfl]
    generalize rne (2 * f + 1) 12 = k at *
    omega
  · have hk := kept_1 (d := G - E) b2 (by omega)
    refine (mag_b1 x f 64 (G - E - 1) (rne (2 * f + 1) (G - E)) true w (by omega) h1 (by omega) hy hL (by omega) (by omega) (by omega) (by omega) (by rw [roundedN_true (by omega) (by omega), show G - E - 1 + 1 = G - E by omega]) hk).mono ?_
    rintro e w' ⟨rfl, rfl⟩
    refine ⟨ret_u64 ?_, rfl⟩
    rw [rung_b1 b2 (by omega) (by omega), min_cast]
    generalize rne (2 * f + 1) (G - E) = k at *
    omega

/-- The units of what is given to Make. -/
def units (exp : Int) (frac : Nat) (half : Bool) : Nat := (2 * frac + half.toNat) * 2 ^ (min (max exp (-1200)) 1100 + 1073 + G).toNat
def makeZ (neg : Bool) (exp : Int) (frac : Nat) (half : Bool) : Int := if neg then 9223372036854775808 + (rung G (units exp frac half) : Nat) else (rung G (units exp frac half) : Nat)

theorem or_sign (v : Nat) (h : v ≤ 9218868437227405312) : bits .or .u64 9223372036854775808 (v : Int) = 9223372036854775808 + (v : Int) := by
  rw [u64_or _ _ (by decide) (by decide) (by omega) (by omega), Int.toNat_natCast]
  rw [show (9223372036854775808 : Int).toNat = 9223372036854775808 from rfl, nat_join 63 _ _ (by decide) (by omega)]
  omega

/-- The road of Make, at whatever exponent it comes to. -/
theorem make_walk (neg half h' : Bool) (exp x y : Int) (f f' v : Nat) (w : World) (hx : x = min (max exp (-1200)) 1100) (hf : f < 18446744073709551616)
    (hc : (half = true ∧ f < 9223372036854775808 ∧ h' = false ∧ y = x - 1 ∧ f' = 2 * f + 1) ∨ (half = true ∧ 9223372036854775808 ≤ f ∧ h' = true ∧ y = x ∧ f' = f) ∨ (half = false ∧ h' = false ∧ y = x ∧ f' = f))
    (hv : v ≤ 9218868437227405312)
    (hm : ∀ w (Y F : Int), Y = y → F = (f' : Int) → Calls Tryz.prog 126 #[.int .i64 Y, .int .u64 F, .bool h'] w fun e w' => e = .returned (.int .u64 v) ∧ w' = w) :
    Calls Tryz.prog 120 #[.bool neg, .int .i64 exp, .int .u64 f, .bool half] w fun e w' => e = .returned (.int .u64 (if neg then 9223372036854775808 + (v : Int) else v)) ∧ w' = w := by
  have Hm : Hid (∀ w (Y F : Int), Y = y → F = (f' : Int) → Calls Tryz.prog 126 #[.int .i64 Y, .int .u64 F, .bool h'] w fun e w' => e = .returned (.int .u64 v) ∧ w' = w) := hm
  clear hm
  have ho := or_sign v hv
  have hor : f < 9223372036854775808 → bits .or .u64 ((f : Int) * 2) 1 = 2 * (f : Int) + 1 := by
    intro h
    rw [u64_or _ _ (by omega) (by omega) (by decide) (by decide), show ((f : Int) * 2).toNat = f * 2 by omega, show (1 : Int).toNat = 1 from rfl, nat_join 1 _ _ (by omega) (by decide)]
    omega
  rcases hc with ⟨rfl, c1, rfl, rfl, rfl⟩ | ⟨rfl, c1, rfl, rfl, rfl⟩ | ⟨rfl, rfl, rfl, rfl⟩
  · have ho2 := hor c1
    clear hor
    have cz : ((f : Int) / 9223372036854775808 == 0) = true := by rw [beq_iff_eq]; omega
    cases neg
    all_goals
      go_enter Tryz.func120, Tryz.ntmps120
      go_wp2_with (go_at_call 126; refine (Hm.out _ _ _ (by omega) (by omega)).mono ?_; rintro e w' ⟨rfl, rfl⟩)
      all_goals
        go_ret
        exact ⟨rfl, rfl⟩
  · clear hor
    have cz : ((f' : Int) / 9223372036854775808 == 0) = false := by rw [beq_eq_false_iff_ne]; omega
    cases neg
    all_goals
      go_enter Tryz.func120, Tryz.ntmps120
      go_wp2_with (go_at_call 126; refine (Hm.out _ _ _ (by omega) (by omega)).mono ?_; rintro e w' ⟨rfl, rfl⟩)
      all_goals
        go_ret
        exact ⟨rfl, rfl⟩
  · clear hor
    cases neg
    all_goals
      go_enter Tryz.func120, Tryz.ntmps120
      go_wp2_with (go_at_call 126; refine (Hm.out _ _ _ (by omega) (by omega)).mono ?_; rintro e w' ⟨rfl, rfl⟩)
      all_goals
        go_ret
        exact ⟨rfl, rfl⟩

theorem make_any (neg half : Bool) (exp : Int) (f : Nat) (w : World) (hf : f < 18446744073709551616) :
    Calls Tryz.prog 120 #[.bool neg, .int .i64 exp, .int .u64 f, .bool half] w fun e w' => e = .returned (.int .u64 (makeZ neg exp f half)) ∧ w' = w := by
  have hg := G_eq
  unfold makeZ
  have hr := rung_le G (units exp f half)
  generalize hx : min (max exp (-1200)) 1100 = x at *
  cases half
  · refine make_walk neg false false exp x x f f (rung G (units exp f false)) w hx.symm hf (Or.inr (Or.inr ⟨rfl, rfl, rfl, rfl⟩)) hr ?_
    intro w Y F hY hF; rw [hY, hF]; clear hY hF
    have e : units exp f false = f * 2 ^ (x + 1074 + G).toNat := by
      unfold units
      rw [hx, show (x + 1074 + (G : Int)).toNat = (x + 1073 + (G : Int)).toNat + 1 by omega, Nat.pow_succ]
      simp only [Bool.toNat_false, Nat.add_zero]
      rw [Nat.mul_comm 2 f, Nat.mul_assoc, Nat.mul_comm 2]
    rw [e]
    exact mag_any x f w hf (by omega) (by omega)
  · by_cases c : f < 9223372036854775808
    · refine make_walk neg true false exp x (x - 1) f (2 * f + 1) (rung G (units exp f true)) w hx.symm hf (Or.inl ⟨rfl, c, rfl, rfl, rfl⟩) hr ?_
      intro w Y F hY hF; rw [hY, hF]; clear hY hF
      have e : units exp f true = (2 * f + 1) * 2 ^ (x - 1 + 1074 + G).toNat := by
        unfold units
        rw [hx, show (x - 1 + 1074 + (G : Int)).toNat = (x + 1073 + (G : Int)).toNat by omega]
        rfl
      rw [e]
      exact mag_any (x - 1) (2 * f + 1) w (by omega) (by omega) (by omega)
    · refine make_walk neg true true exp x x f f (rung G (units exp f true)) w hx.symm hf (Or.inr (Or.inl ⟨rfl, by omega, rfl, rfl, rfl⟩)) hr ?_
      intro w Y F hY hF; rw [hY, hF]; clear hY hF
      have e : units exp f true = (2 * f + 1) * 2 ^ (x + 1073 + G).toNat := by
        unfold units
        rw [hx]
        rfl
      rw [e]
      exact mag_more x f w hf (by omega) (by omega) (by omega)

end Go.Proofs.YtgbajhenmamjjaaGreatDoor

/-
  The statements' own small living call.
-/
namespace Go.Proofs.YtgbajhenmamjjaaGreatDoor
set_option maxRecDepth 100000
open Go.RowKit Flo

theorem lives_make : makeZ false (-52) 4503599627370496 false = 4607182418800017408 := by decide +kernel
theorem lives_kind : kindZ 1 = 1 := by decide
theorem lives_less : lessB 0 1 = true := by decide

end Go.Proofs.YtgbajhenmamjjaaGreatDoor

/-
  The walks of the reference's small functions: Kind, Neg, Nan, Canon, Order, Less, Equal, Before.
-/
namespace Go.Proofs.YtgbajhenmamjjaaGreatDoor
set_option maxRecDepth 100000
open Go.RowKit Flo

theorem ret_i64 {a b : Int} (h : a = b) : Ending.returned (.int .i64 a) = .returned (.int .i64 b) := by rw [h]
theorem ret_bool {a b : Bool} (h : a = b) : Ending.returned (.bool a) = .returned (.bool b) := by rw [h]

def expo (a : Int) : Int := a / 4503599627370496 % 2048
def frac (a : Int) : Int := a % 4503599627370496

theorem and_expo {a : Int} (h : U64 a) : bits .and .u64 (a / 4503599627370496) 2047 = expo a := by
  obtain ⟨h0, h1⟩ := h
  rw [u64_and _ _ (by omega) (by omega) (by decide) (by decide), show (2047 : Int).toNat = 2 ^ 11 - 1 from rfl, Nat.and_two_pow_sub_one_eq_mod]
  unfold expo
  omega
theorem and_frac {a : Int} (h : U64 a) : bits .and .u64 a 4503599627370495 = frac a := by
  obtain ⟨h0, h1⟩ := h
  rw [u64_and _ _ h0 h1 (by decide) (by decide), show (4503599627370495 : Int).toNat = 2 ^ 52 - 1 from by decide, Nat.and_two_pow_sub_one_eq_mod]
  unfold frac
  omega
theorem mag_parts {a : Int} (h : U64 a) : mag a = expo a * 4503599627370496 + frac a ∧ 0 ≤ expo a ∧ expo a ≤ 2047 ∧ 0 ≤ frac a ∧ frac a < 4503599627370496 := by
  obtain ⟨h0, h1⟩ := h
  unfold mag expo frac
  refine ⟨?_, by omega, by omega, by omega, by omega⟩
  split <;> omega

set_option maxHeartbeats 400000 in
theorem refKind_any (a : Int) (w : World) (h : U64 a) : Calls Tryz.prog 18 #[.int .u64 a] w fun e w' => e = .returned (.int .i64 (kindZ a)) ∧ w' = w := by
  have t1 := and_expo h
  have t2 := and_frac h
  obtain ⟨hm, e0, e1, f0, f1⟩ := mag_parts h
  unfold kindZ
  rw [hm]
  obtain ⟨h0, h1⟩ := h
  clear hm
  generalize expo a = E at *
  generalize frac a = F at *
  go_enter Tryz.func18, Tryz.ntmps18
  go_wp2
  all_goals
    go_ret
    refine ⟨ret_i64 ?_, rfl⟩
    go_light
    try simp only [beq_iff_eq, beq_eq_false_iff_ne, bne_iff_ne, bne_eq_false_iff_eq, ne_eq] at *
    all_goals ((repeat' split) <;> first | rfl | omega)

theorem refNeg_any (a : Int) (w : World) (h : U64 a) : Calls Tryz.prog 34 #[.int .u64 a] w fun e w' => e = .returned (.bool (belowB a)) ∧ w' = w := by
  have e : belowB a = (a / 9223372036854775808 == 1) := by
    obtain ⟨h0, h1⟩ := h
    unfold belowB
    rw [Bool.eq_iff_iff, decide_eq_true_eq, beq_iff_eq]
    omega
  rw [e]
  clear e
  go_enter Tryz.func34, Tryz.ntmps34
  go_wp2
  go_ret
  exact ⟨rfl, rfl⟩

theorem kind_nan (a : Int) : (kindZ a == 4) = nanB a := by
  unfold kindZ nanB
  split
  · rw [decide_eq_true (by assumption)]; rfl
  · rw [decide_eq_false (by assumption)]
    (repeat' split) <;> rfl
theorem kind_zero (a : Int) : (kindZ a == 0) = decide (mag a = 0) := by
  unfold kindZ
  split
  · rw [decide_eq_false (by omega)]; rfl
  · split
    · rw [decide_eq_true (by assumption)]; rfl
    · rw [decide_eq_false (by assumption)]
      (repeat' split) <;> rfl
theorem kind_not_nan (a : Int) : (kindZ a != 4) = !nanB a := by rw [bne, kind_nan]

theorem refNan_any (w : World) : Calls Tryz.prog 30 #[] w fun e w' => e = .returned (.int .u64 9221120237041090560) ∧ w' = w := by
  go_enter Tryz.func30, Tryz.ntmps30
  go_wp2
  go_ret
  exact ⟨rfl, rfl⟩

theorem refCanon_any (a : Int) (w : World) (h : U64 a) : Calls Tryz.prog 22 #[.int .u64 a] w fun e w' => e = .returned (.int .u64 (canonZ a)) ∧ w' = w := by
  have t := kind_nan a
  unfold canonZ
  cases hn : nanB a
  all_goals
    rw [hn] at t
    go_enter Tryz.func22, Tryz.ntmps22
    go_wp2_with (first | (go_at_call 18; refine (refKind_any _ _ h).mono ?_; rintro e w' ⟨rfl, rfl⟩) | (go_at_call 30; refine (refNan_any _).mono ?_; rintro e w' ⟨rfl, rfl⟩))
    go_ret
    exact ⟨rfl, rfl⟩

/-- How two numbers stand to one another, as -1, 0, 1. -/
def orderZ (a b : Int) : Int := if sv a < sv b then -1 else if sv a = sv b then 0 else 1

theorem sv_below {a : Int} (h : belowB a = true) : sv a = -mag a := by
  have := of_decide_eq_true (show decide (9223372036854775808 ≤ a) = true from h)
  unfold sv mag; rw [if_pos this, if_pos this]; omega
theorem sv_above {a : Int} (h : belowB a = false) : sv a = mag a := by
  have := of_decide_eq_false (show decide (9223372036854775808 ≤ a) = false from h)
  unfold sv mag; rw [if_neg this, if_neg this]

theorem order_lt (a b : Int) : decide (orderZ a b < 0) = decide (sv a < sv b) := by
  unfold orderZ; rw [decide_eq_decide]; (repeat' split) <;> omega
theorem order_eq0 (a b : Int) : (orderZ a b == 0) = decide (sv a = sv b) := by
  unfold orderZ; rw [Bool.eq_iff_iff, beq_iff_eq, decide_eq_true_eq]; (repeat' split) <;> omega

end Go.Proofs.YtgbajhenmamjjaaGreatDoor
