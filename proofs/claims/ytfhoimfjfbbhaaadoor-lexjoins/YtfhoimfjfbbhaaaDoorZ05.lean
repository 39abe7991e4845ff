/-
  FloMake3, DigRef
-/
import Derived.Test.YtfhoimfjfbbhaaaDoorZ04

/-
  magnitude and Make by the rung of what they are given.
-/
namespace Go.Proofs.YtfhoimfjfbbhaaaDoor
set_option maxRecDepth 100000
open Go.RowKit Flo

theorem min_cast (a b : Nat) : ((min a b : Nat) : Int) = min (a : Int) (b : Int) := by omega
theorem wrap_pow (f j k : Nat) (i : Int) (hj : i = (j : Int)) (e : f * 2 ^ j = k) (h : k ≤ 9007199254740992) : IntKind.u64.wrap ((f : Int) * 2 ^ i.toNat) = (k : Int) := by
  subst hj
  rw [Int.toNat_natCast, ← u64_wrap_nat k (by omega), ← e, Int.natCast_mul, Int.natCast_pow]
  rfl

theorem mag_any (x : Int) (f : Nat) (w : World) (h1 : f < 18446744073709551616) (hx : -1201 ≤ x) (hy : x ≤ 1100) :
    Calls Tryd.prog 50 #[.int .i64 x, .int .u64 f, .bool false] w fun e w' => e = .returned (.int .u64 (rung G (f * 2 ^ (x + 1074 + G).toNat) : Nat)) ∧ w' = w := by
  by_cases h0 : f = 0
  · subst h0
    have e : rung G (0 * 2 ^ (x + 1074 + G).toNat) = 0 := by rw [Nat.zero_mul]; exact rung_tiny (Nat.zero_le _)
    rw [e]
    exact mag_zero x false w
  · obtain ⟨l1, l2, b1, b2⟩ := bitLen_bounds h0 h1
    have hg := G_eq
    obtain ⟨L, hL⟩ := Nat.exists_eq_add_of_le l1
    obtain ⟨E, hE⟩ := Int.eq_ofNat_of_zero_le (show 0 ≤ x + 1074 + G by omega)
    rw [hE, Int.toNat_natCast]
    rw [Nat.add_comm 1 L] at hL
    rw [hL] at b1 b2 l1 l2
    rw [Nat.add_sub_cancel] at b1
    by_cases c : -1074 - x ≤ ((L + 1 : Nat) : Int) - 53
    · by_cases d : L + 1 ≤ 53
      · have hk := kept_a0 b2 d
        refine (mag_a0 x f (L + 1) (f * 2 ^ (53 - (L + 1))) false w h0 h1 (by omega) hy hL (by omega) d c (wrap_pow f (53 - (L + 1)) _ _ (by omega) rfl (by omega)) (by omega)).mono ?_
        rintro e w' ⟨rfl, rfl⟩
        refine ⟨ret_u64 ?_, rfl⟩
        rw [rung_a0 b1 b2 (by omega) d, min_cast]
        generalize f * 2 ^ (53 - (L + 1)) = k at *
        omega
      · have hk := kept_1 (d := L + 1 - 53) b2 (by omega)
        refine (mag_a1 x f (L + 1) (L + 1 - 53) (rne f (L + 1 - 53)) false w h0 h1 (by omega) hy hL l2 c (by omega) (by omega) (roundedN_false (by omega) (by omega)) hk).mono ?_
        rintro e w' ⟨rfl, rfl⟩
        refine ⟨ret_u64 ?_, rfl⟩
        rw [rung_a1 b1 b2 (by omega) (by omega), min_cast]
        generalize rne f (L + 1 - 53) = k at *
        omega
    · by_cases d : G ≤ E
      · have hk := kept_b0 (g := G) (E := E) b2 (by omega) d
        refine (mag_b0 x f (L + 1) (f * 2 ^ (E - G)) false w h0 h1 (by omega) hy hL l2 (by omega) (wrap_pow f (E - G) _ _ (by omega) rfl (by omega)) (by omega)).mono ?_
        rintro e w' ⟨rfl, rfl⟩
        refine ⟨ret_u64 ?_, rfl⟩
        rw [rung_b0 b2 (by omega) d, min_cast]
        generalize f * 2 ^ (E - G) = k at *
        omega
      · have hk := kept_1 (d := G - E) b2 (by omega)
        refine (mag_b1 x f (L + 1) (G - E) (rne f (G - E)) false w h0 h1 (by omega) hy hL l2 (by omega) (by omega) (by omega) (roundedN_false (by omega) (by omega)) hk).mono ?_
        rintro e w' ⟨rfl, rfl⟩
        refine ⟨ret_u64 ?_, rfl⟩
        rw [rung_b1 b2 (by omega) (by omega), min_cast]
        generalize rne f (G - E) = k at *
        omega

theorem bitLen_64 {f : Nat} (h1 : f < 18446744073709551616) (h2 : 9223372036854775808 ≤ f) : Lib.bitLen f = 64 := by
  rw [bitLen_log f (by omega) (by omega), log2_of (k := 63) (by omega) (by omega)]

/-- A half more, where there is no room for it. -/
theorem mag_more (x : Int) (f : Nat) (w : World) (h1 : f < 18446744073709551616) (h2 : 9223372036854775808 ≤ f) (hx : -1200 ≤ x) (hy : x ≤ 1100) :
    Calls Tryd.prog 50 #[.int .i64 x, .int .u64 f, .bool true] w fun e w' => e = .returned (.int .u64 (rung G ((2 * f + 1) * 2 ^ (x + 1073 + G).toNat) : Nat)) ∧ w' = w := by
  have hg := G_eq
  have hL := bitLen_64 h1 h2
  obtain ⟨E, hE⟩ := Int.eq_ofNat_of_zero_le (show 0 ≤ x + 1073 + G by omega)
  rw [hE, Int.toNat_natCast]
  have b1 : 2 ^ 64 ≤ 2 * f + 1 := by omega
  have b2 : 2 * f + 1 < 2 ^ (64 + 1) := by omega
  by_cases c : -1074 - x ≤ ((64 : Nat) : Int) - 53
  · have hk := kept_1 (d := 12) b2 (by omega)
    refine (mag_a1 x f 64 11 (rne (2 * f + 1) 12) true w (by omega) h1 (by omega) hy hL (by omega) c (by omega) (by omega) (roundedN_true (by omega) (by omega)) hk).mono ?_
    rintro e w' ⟨rfl, rfl⟩
    refine ⟨ret_u64 ?_, rfl⟩
    rw [rung_a1 b1 b2 (by omega) (by omega), min_cast]
    rw [show 64 + 1 - 53 = 12 from rfl]
    generalize rne (2 * f + 1) 12 = k at *
    omega
  · have hk := kept_1 (d := G - E) b2 (by omega)
    refine (mag_b1 x f 64 (G - E - 1) (rne (2 * f + 1) (G - E)) true w (by omega) h1 (by omega) hy hL (by omega) (by omega) (by omega) (by omega) (by rw [roundedN_true (by omega) (by omega), show G - E - 1 + 1 = G - E by omega]) hk).mono ?_
    rintro e w' ⟨rfl, rfl⟩
    refine ⟨ret_u64 ?_, rfl⟩
    rw [rung_b1 b2 (by omega) (by omega), min_cast]
    generalize rne (2 * f + 1) (G - E) = k at *
    omega

/-- The units of what is given to Make. -/
def units (exp : Int) (frac : Nat) (half : Bool) : Nat := (2 * frac + half.toNat) * 2 ^ (min (max exp (-1200)) 1100 + 1073 + G).toNat
def makeZ (neg : Bool) (exp : Int) (frac : Nat) (half : Bool) : Int := if neg then 9223372036854775808 + (rung G (units exp frac half) : Nat) else (rung G (units exp frac half) : Nat)

theorem or_sign (v : Nat) (h : v ≤ 9218868437227405312) : bits .or .u64 9223372036854775808 (v : Int) = 9223372036854775808 + (v : Int) := by
  rw [u64_or _ _ (by decide) (by decide) (by omega) (by omega), Int.toNat_natCast]
  rw [show (9223372036854775808 : Int).toNat = 9223372036854775808 from rfl, nat_join 63 _ _ (by decide) (by omega)]
  omega

/-- The road of Make, at whatever exponent it comes to. -/
theorem make_walk (neg half h' : Bool) (exp x y : Int) (f f' v : Nat) (w : World) (hx : x = min (max exp (-1200)) 1100) (hf : f < 18446744073709551616)
    (hc : (half = true ∧ f < 9223372036854775808 ∧ h' = false ∧ y = x - 1 ∧ f' = 2 * f + 1) ∨ (half = true ∧ 9223372036854775808 ≤ f ∧ h' = true ∧ y = x ∧ f' = f) ∨ (half = false ∧ h' = false ∧ y = x ∧ f' = f))
    (hv : v ≤ 9218868437227405312)
    (hm : ∀ w (Y F : Int), Y = y → F = (f' : Int) → Calls Tryd.prog 50 #[.int .i64 Y, .int .u64 F, .bool h'] w fun e w' => e = .returned (.int .u64 v) ∧ w' = w) :
    Calls Tryd.prog 45 #[.bool neg, .int .i64 exp, .int .u64 f, .bool half] w fun e w' => e = .returned (.int .u64 (if neg then 9223372036854775808 + (v : Int) else v)) ∧ w' = w := by
  have Hm : Hid (∀ w (Y F : Int), Y = y → F = (f' : Int) → Calls Tryd.prog 50 #[.int .i64 Y, .int .u64 F, .bool h'] w fun e w' => e = .returned (.int .u64 v) ∧ w' = w) := hm
  clear hm
  have ho := or_sign v hv
  have hor : f < 9223372036854775808 → bits .or .u64 ((f : Int) * 2) 1 = 2 * (f : Int) + 1 := by
    intro h
    rw [u64_or _ _ (by omega) (by omega) (by decide) (by decide), show ((f : Int) * 2).toNat = f * 2 by omega, show (1 : Int).toNat = 1 from rfl, nat_join 1 _ _ (by omega) (by decide)]
    omega
  rcases hc with ⟨rfl, c1, rfl, rfl, rfl⟩ | ⟨rfl, c1, rfl, rfl, rfl⟩ | ⟨rfl, rfl, rfl, rfl⟩
  · have ho2 := hor c1
    clear hor
    have cz : ((f : Int) / 9223372036854775808 == 0) = true := by rw [beq_iff_eq]; omega
    cases neg
    all_goals
      go_enter Tryd.func45, Tryd.ntmps45
      go_wp2_with (go_at_call 50; refine (Hm.out _ _ _ (by omega) (by omega)).mono ?_; rintro e w' ⟨rfl, rfl⟩)
      all_goals
        go_ret
        exact ⟨rfl, rfl⟩
  · clear hor
    have cz : ((f' : Int) / 9223372036854775808 == 0) = false := by rw [beq_eq_false_iff_ne]; omega
    cases neg
    all_goals
      go_enter Tryd.func45, Tryd.ntmps45
      go_wp2_with (go_at_call 50; refine (Hm.out _ _ _ (by omega) (by omega)).mono ?_; rintro e w' ⟨rfl, rfl⟩)
      all_goals
        go_ret
        exact ⟨rfl, rfl⟩
  · clear hor
    cases neg
    all_goals
      go_enter Tryd.func45, Tryd.ntmps45
      go_wp2_with (go_at_call 50; refine (Hm.out _ _ _ (by omega) (by omega)).mono ?_; rintro e w' ⟨rfl, rfl⟩)
      all_goals
        go_ret
        exact ⟨rfl, rfl⟩

theorem make_any (neg half : Bool) (exp : Int) (f : Nat) (w : World) (hf : f < 18446744073709551616) :
    Calls Tryd.prog 45 #[.bool neg, .int .i64 exp, .int .u64 f, .bool half] w fun e w' => e = .returned (.int .u64 (makeZ neg exp f half)) ∧ w' = w := by
  have hg := G_eq
  unfold makeZ
  have hr := rung_le G (units exp f half)
  generalize hx : min (max exp (-1200)) 1100 = x at *
  cases half
  · refine make_walk neg false false exp x x f f (rung G (units exp f false)) w hx.symm hf (Or.inr (Or.inr ⟨rfl, rfl, rfl, rfl⟩)) hr ?_
    intro w Y F hY hF; rw [hY, hF]; clear hY hF
    have e : units exp f false = f * 2 ^ (x + 1074 + G).toNat := by
      unfold units
      rw [hx, show (x + 1074 + (G : Int)).toNat = (x + 1073 + (G : Int)).toNat + 1 by omega, Nat.pow_succ]
      simp only [Bool.toNat_false, Nat.add_zero]
      rw [Nat.mul_comm 2 f, Nat.mul_assoc, Nat.mul_comm 2]
    rw [e]
    exact mag_any x f w hf (by omega) (by omega)
  · by_cases c : f < 9223372036854775808
    · refine make_walk neg true false exp x (x - 1) f (2 * f + 1) (rung G (units exp f true)) w hx.symm hf (Or.inl ⟨rfl, c, rfl, rfl, rfl⟩) hr ?_
      intro w Y F hY hF; rw [hY, hF]; clear hY hF
      have e : units exp f true = (2 * f + 1) * 2 ^ (x - 1 + 1074 + G).toNat := by
        unfold units
        rw [hx, show (x - 1 + 1074 + (G : Int)).toNat = (x + 1073 + (G : Int)).toNat by omega]
        rfl
      rw [e]
      exact mag_any (x - 1) (2 * f + 1) w (by omega) (by omega) (by omega)
    · refine make_walk neg true true exp x x f f (rung G (units exp f true)) w hx.symm hf (Or.inr (Or.inl ⟨rfl, by omega, rfl, rfl, rfl⟩)) hr ?_
      intro w Y F hY hF; rw [hY, hF]; clear hY hF
      have e : units exp f true = (2 * f + 1) * 2 ^ (x + 1073 + G).toNat := by
        unfold units
        rw [hx]
        rfl
      rw [e]
      exact mag_more x f w hf (by omega) (by omega) (by omega)

end Go.Proofs.YtfhoimfjfbbhaaaDoor

/-
  The walk of the reference's Round.
-/
namespace Go.Proofs.YtfhoimfjfbbhaaaDoor
set_option maxRecDepth 100000
open Go.RowKit Dg Flo

def sgn (neg : Bool) : Int := if neg then 9223372036854775808 else 0

theorem or_hi (neg : Bool) (y : Int) (h0 : 0 ≤ y) (h1 : y < 9223372036854775808) : bits .or .u64 (sgn neg) y = sgn neg + y := by
  cases neg
  · show bits .or .u64 0 y = 0 + y
    rw [u64_or _ _ (by decide) (by decide) h0 (by omega)]
    simp only [Int.toNat_zero, Nat.zero_or]; omega
  · show bits .or .u64 9223372036854775808 y = 9223372036854775808 + y
    rw [u64_or _ _ (by decide) (by decide) h0 (by omega), show (9223372036854775808 : Int).toNat = 9223372036854775808 from rfl, nat_join 63 _ _ (by decide) (by omega)]
    omega
theorem or_lo (x f : Int) (h0 : 0 ≤ x) (h1 : x < 18446744073709551616) (h2 : x % 4503599627370496 = 0) (h3 : 0 ≤ f) (h4 : f < 4503599627370496) : bits .or .u64 x f = x + f := by
  rw [u64_or _ _ h0 h1 h3 (by omega), nat_join 52 _ _ (by omega) (by omega)]
  omega

theorem and3 (x : Nat) (h : x < 18446744073709551616) : bits .and .u64 (x : Int) 3 = ((x % 4 : Nat) : Int) := by
  rw [u64_and _ _ (Int.natCast_nonneg _) (by omega) (by decide) (by decide), Int.toNat_natCast, show (3 : Int).toNat = 2 ^ 2 - 1 from by decide, Nat.and_two_pow_sub_one_eq_mod]

/-- The end of Round, in its own words. -/
theorem round_end (neg : Bool) (e : Int) (Q : Nat) (h1 : -1074 ≤ e) (h2 : Q ≤ 9007199254740992) (h3 : -1074 < e → 4503599627370496 ≤ Q) :
    (Q = 9007199254740992 → 971 < e + 1 → sgn neg + 9218868437227405312 = sgn neg + (min ((e + 1074).toNat * 4503599627370496 + Q) 9218868437227405312 : Nat)) ∧
    (Q = 9007199254740992 → e + 1 ≤ 971 → bits .or .u64 (bits .or .u64 (sgn neg) ((e + 1 + 1075) * 4503599627370496)) 0 = sgn neg + (min ((e + 1074).toNat * 4503599627370496 + Q) 9218868437227405312 : Nat)) ∧
    (Q ≠ 9007199254740992 → 971 < e → sgn neg + 9218868437227405312 = sgn neg + (min ((e + 1074).toNat * 4503599627370496 + Q) 9218868437227405312 : Nat)) ∧
    (Q ≠ 9007199254740992 → e ≤ 971 → Q < 4503599627370496 → bits .or .u64 (sgn neg) (Q : Int) = sgn neg + (min ((e + 1074).toNat * 4503599627370496 + Q) 9218868437227405312 : Nat)) ∧
    (Q ≠ 9007199254740992 → e ≤ 971 → 4503599627370496 ≤ Q → bits .or .u64 (bits .or .u64 (sgn neg) ((e + 1075) * 4503599627370496)) ((Q : Int) - 4503599627370496) = sgn neg + (min ((e + 1074).toNat * 4503599627370496 + Q) 9218868437227405312 : Nat)) := by
  have hs : sgn neg = 0 ∨ sgn neg = 9223372036854775808 := by cases neg <;> simp [sgn]
  refine ⟨?_, ?_, ?_, ?_, ?_⟩
  · intro a b; omega
  · intro a b
    rw [or_hi neg _ (by omega) (by omega), or_lo _ _ (by omega) (by omega) (by omega) (by omega) (by omega)]
    omega
  · intro a b
    have := h3 (by omega)
    omega
  · intro a b c
    rw [or_hi neg _ (by omega) (by omega)]
    have : e = -1074 := by
      rcases Int.lt_or_eq_of_le h1 with k | k
      · have := h3 k; omega
      · exact k.symm
    omega
  · intro a b c
    rw [or_hi neg _ (by omega) (by omega), or_lo _ _ (by omega) (by omega) (by omega) (by omega) (by omega)]
    omega

end Go.Proofs.YtfhoimfjfbbhaaaDoor
