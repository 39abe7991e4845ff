/-
  Flo, FloSpec, FloRound, FloWalk, FloWalk2, FloLen
-/
import Ieee.Arith
import Derived.Laws.BitsAllLaws
import Derived.Lib.BitFns
import Derived.Test.YtgbajhenmamjjaaGreatDoorRows
import Derived.WalkKit
import Derived.WalkSpells
import Derived.WalkLawsBesides

/-
  Plain mathematics of 64-bit numbers: how the words of the double format are ordered. No Go in sight.
-/
namespace Go.Proofs.YtgbajhenmamjjaaGreatDoor.Flo
set_option maxRecDepth 100000

/-- The size of a word, without its sign. -/
def mag (a : Int) : Int := if 9223372036854775808 ≤ a then a - 9223372036854775808 else a
/-- A word as a place on one line: below nought with the sign. -/
def sv (a : Int) : Int := if 9223372036854775808 ≤ a then 9223372036854775808 - a else a
def U64 (a : Int) : Prop := 0 ≤ a ∧ a < 18446744073709551616
def nanB (a : Int) : Bool := decide (9218868437227405312 < mag a)
def lessB (a b : Int) : Bool := !nanB a && (!nanB b && decide (sv a < sv b))
def equalB (a b : Int) : Bool := !nanB a && (!nanB b && decide (sv a = sv b))

theorem cmp_congr {x y x' y' : Int} (h1 : x < y ↔ x' < y') (h2 : x = y ↔ x' = y') : compare x y = compare x' y' := by
  simp only [compare, compareOfLessAndEq, h1, h2]

/-- What a rung stands for, in units of the least one. -/
def M (r : Nat) : Nat := if r < 4503599627370496 then r else (4503599627370496 + r % 4503599627370496) * 2 ^ (r / 4503599627370496 - 1)

theorem M_mono {r s : Nat} (h : r < s) : M r < M s := by
  unfold M
  by_cases h1 : r < 4503599627370496
  · by_cases h2 : s < 4503599627370496
    · simp only [h1, h2, if_true]; exact h
    · simp only [h1, h2, if_true, if_false]
      have hp : 0 < 2 ^ (s / 4503599627370496 - 1) := Nat.two_pow_pos _
      calc r < 4503599627370496 := h1
        _ ≤ (4503599627370496 + s % 4503599627370496) * 1 := by omega
        _ ≤ _ := Nat.mul_le_mul_left _ hp
  · have h2 : ¬ s < 4503599627370496 := by omega
    simp only [h1, h2, if_false]
    have hq : r / 4503599627370496 ≤ s / 4503599627370496 := Nat.div_le_div_right (by omega)
    by_cases he : r / 4503599627370496 = s / 4503599627370496
    · rw [he]
      exact Nat.mul_lt_mul_of_pos_right (by omega) (Nat.two_pow_pos _)
    · have e : 2 ^ (r / 4503599627370496) = 2 * 2 ^ (r / 4503599627370496 - 1) := by
        rw [← Nat.pow_succ']; congr 1; omega
      have hle : 2 ^ (r / 4503599627370496) ≤ 2 ^ (s / 4503599627370496 - 1) := Nat.pow_le_pow_right (by decide) (by omega)
      calc (4503599627370496 + r % 4503599627370496) * 2 ^ (r / 4503599627370496 - 1)
          < (2 * 4503599627370496) * 2 ^ (r / 4503599627370496 - 1) := Nat.mul_lt_mul_of_pos_right (by omega) (Nat.two_pow_pos _)
        _ = 4503599627370496 * 2 ^ (r / 4503599627370496) := by rw [e, Nat.mul_comm 2 4503599627370496, Nat.mul_assoc]
        _ ≤ 4503599627370496 * 2 ^ (s / 4503599627370496 - 1) := Nat.mul_le_mul_left _ hle
        _ ≤ _ := Nat.mul_le_mul_right _ (by omega)

theorem M_lt_iff {r s : Nat} : M r < M s ↔ r < s := by
  constructor
  · intro h
    by_cases h1 : r < s
    · exact h1
    · exfalso
      by_cases h2 : r = s
      · subst h2; omega
      · have := M_mono (r := s) (s := r) (by omega); omega
  · exact M_mono
theorem M_inj {r s : Nat} : M r = M s ↔ r = s := by
  constructor
  · intro h
    have h1 := @M_lt_iff r s
    have h2 := @M_lt_iff s r
    omega
  · intro h; rw [h]
theorem M_zero : M 0 = 0 := by decide

/-- A rung below infinity is read as a number that stands for what M says. -/
theorem read_number (a : Nat) (hr : a % 9223372036854775808 < 9218868437227405312) :
    ∃ m p, 0 ≤ p + 1074 ∧ m * 2 ^ (p + 1074).toNat = M (a % 9223372036854775808) ∧ Ieee.double.read a = .number (a / 9223372036854775808 % 2 == 1) m p := by
  have e1 : Ieee.double.signWeight = 9223372036854775808 := by decide
  have e2 : Ieee.double.binade = 4503599627370496 := by decide
  have e3 : Ieee.double.infRung = 9218868437227405312 := by decide
  have e4 : Ieee.double.leastPlace = -1074 := by decide
  unfold Ieee.Format.read
  simp only [e1, e2, e3, e4]
  generalize a % 9223372036854775808 = r at *
  unfold M
  by_cases h1 : r < 4503599627370496
  · simp only [h1, if_true]
    exact ⟨r, -1074, by omega, by simp, rfl⟩
  · simp only [h1, hr, if_true, if_false]
    refine ⟨_, _, ?_, ?_, rfl⟩
    · omega
    · congr 2; omega

theorem read_inf (a : Nat) (hr : a % 9223372036854775808 = 9218868437227405312) :
    Ieee.double.read a = .infinity (a / 9223372036854775808 % 2 == 1) := by
  have e1 : Ieee.double.signWeight = 9223372036854775808 := by decide
  have e2 : Ieee.double.binade = 4503599627370496 := by decide
  have e3 : Ieee.double.infRung = 9218868437227405312 := by decide
  unfold Ieee.Format.read
  simp only [e1, e2, e3, hr]
  simp

theorem read_nan (a : Nat) (hr : 9218868437227405312 < a % 9223372036854775808) :
    ∃ f, Ieee.double.read a = .nan (a / 9223372036854775808 % 2 == 1) f := by
  have e1 : Ieee.double.signWeight = 9223372036854775808 := by decide
  have e2 : Ieee.double.binade = 4503599627370496 := by decide
  have e3 : Ieee.double.infRung = 9218868437227405312 := by decide
  unfold Ieee.Format.read
  simp only [e1, e2, e3]
  generalize a % 9223372036854775808 = r at *
  exact ⟨r - 9218868437227405312, by rw [if_neg (by omega), if_neg (by omega), if_neg (by omega)]⟩

/-- The number of a sign and a size. -/
def sz (s : Bool) (n : Nat) : Int := if s then -(n : Int) else n

theorem signed_scale (s : Bool) (m k c : Nat) : Ieee.signed s m k * ((2 ^ c : Nat) : Int) = sz s (m * 2 ^ (k + c)) := by
  unfold Ieee.signed sz
  cases s
  · simp only [Nat.shiftLeft_eq, Bool.false_eq_true, if_false, ← Int.natCast_mul]
    rw [Nat.mul_assoc, ← Nat.pow_add]
  · simp only [Nat.shiftLeft_eq, if_true, Int.neg_mul, ← Int.natCast_mul]
    rw [Nat.mul_assoc, ← Nat.pow_add]

theorem cmp_scale {x y : Int} {c : Nat} (hc : 0 < c) : compare x y = compare (x * (c : Int)) (y * (c : Int)) := by
  have h : (0 : Int) < (c : Int) := by omega
  refine cmp_congr ⟨fun k => Int.mul_lt_mul_of_pos_right k h, fun k => Int.lt_of_mul_lt_mul_right k (by omega)⟩ ⟨fun k => by rw [k], fun k => Int.eq_of_mul_eq_mul_right (by omega) k⟩

theorem cmp_sz (s t : Bool) (r u : Nat) : compare (sz s (M r)) (sz t (M u)) = compare (sz s r) (sz t u) := by
  have h1 := @M_lt_iff r u
  have h2 := @M_lt_iff u r
  have h0 := @M_lt_iff 0 r
  have h3 := @M_lt_iff 0 u
  rw [M_zero] at h0 h3
  apply cmp_congr
  · unfold sz; cases s <;> cases t <;> simp only [Bool.false_eq_true, if_false, if_true] <;> omega
  · unfold sz; cases s <;> cases t <;> simp only [Bool.false_eq_true, if_false, if_true] <;> omega

theorem order_numbers (s t : Bool) (m n : Nat) (i j : Int) (hi : 0 ≤ i + 1074) (hj : 0 ≤ j + 1074) :
    Ieee.Datum.order (.number s m i) (.number t n j) = some (compare (sz s (m * 2 ^ (i + 1074).toNat)) (sz t (n * 2 ^ (j + 1074).toNat))) := by
  simp only [Ieee.Datum.order]
  generalize hb : min i j = b
  have hb0 : 0 ≤ b + 1074 := by omega
  rw [cmp_scale (Nat.two_pow_pos (b + 1074).toNat), signed_scale, signed_scale]
  rw [show (i - b).toNat + (b + 1074).toNat = (i + 1074).toNat by omega, show (j - b).toNat + (b + 1074).toNat = (j + 1074).toNat by omega]

/-- How two words stand to one another. -/
theorem order_eq {a b : Int} (ha : U64 a) (hb : U64 b) :
    FloatKind.f64.format.order a.toNat b.toNat = if nanB a then none else if nanB b then none else some (compare (sv a) (sv b)) := by
  show Ieee.double.order a.toNat b.toNat = _
  obtain ⟨x, rfl⟩ := Int.eq_ofNat_of_zero_le ha.1
  obtain ⟨y, rfl⟩ := Int.eq_ofNat_of_zero_le hb.1
  have hx : x < 18446744073709551616 := by have := ha.2; omega
  have hy : y < 18446744073709551616 := by have := hb.2; omega
  clear ha hb
  have mg : ∀ z : Nat, z < 18446744073709551616 → mag (z : Int) = ((z % 9223372036854775808 : Nat) : Int) := by
    intro z hz; unfold mag; split <;> omega
  have sg : ∀ z : Nat, z < 18446744073709551616 → sv (z : Int) = sz (z / 9223372036854775808 % 2 == 1) (z % 9223372036854775808) := by
    intro z hz
    unfold sv sz
    by_cases h : 9223372036854775808 ≤ z
    · have e : (z / 9223372036854775808 % 2 == 1) = true := by rw [beq_iff_eq]; omega
      rw [e, if_pos (by omega), if_pos rfl]; omega
    · have e : (z / 9223372036854775808 % 2 == 1) = false := by rw [beq_eq_false_iff_ne]; omega
      rw [e, if_neg (by omega)]; simp only [Bool.false_eq_true, if_false]; omega
  unfold nanB Ieee.Format.order
  rw [mg x hx, mg y hy, sg x hx, sg y hy]
  simp only [Int.toNat_natCast, decide_eq_true_eq]
  rcases Nat.lt_trichotomy (x % 9223372036854775808) 9218868437227405312 with hx1 | hx1 | hx1
  · obtain ⟨m, i, hi, em, ex⟩ := read_number x hx1
    rw [ex, if_neg (by omega)]
    generalize (x / 9223372036854775808 % 2 == 1) = s
    generalize x % 9223372036854775808 = r at *
    rcases Nat.lt_trichotomy (y % 9223372036854775808) 9218868437227405312 with hy1 | hy1 | hy1
    · obtain ⟨n, j, hj, en, ey⟩ := read_number y hy1
      rw [ey, if_neg (by omega), order_numbers _ _ _ _ _ _ hi hj, em, en, cmp_sz]
    · rw [read_inf y hy1, if_neg (by omega), hy1]
      generalize (y / 9223372036854775808 % 2 == 1) = t
      simp only [Ieee.Datum.order, Option.some.injEq]
      cases t
      · exact (cmp_congr (x' := 0) (y' := 1) (by unfold sz; cases s <;> simp <;> omega) (by unfold sz; cases s <;> simp <;> omega)).symm
      · exact (cmp_congr (x' := 1) (y' := 0) (by unfold sz; cases s <;> simp <;> omega) (by unfold sz; cases s <;> simp <;> omega)).symm
    · obtain ⟨f, ey⟩ := read_nan y hy1
      rw [ey, if_pos (by omega)]
      rfl
  · rw [read_inf x hx1, if_neg (by omega), hx1]
    generalize (x / 9223372036854775808 % 2 == 1) = s
    rcases Nat.lt_trichotomy (y % 9223372036854775808) 9218868437227405312 with hy1 | hy1 | hy1
    · obtain ⟨n, j, hj, en, ey⟩ := read_number y hy1
      rw [ey, if_neg (by omega)]
      generalize (y / 9223372036854775808 % 2 == 1) = t
      generalize y % 9223372036854775808 = u at *
      simp only [Ieee.Datum.order, Option.some.injEq]
      cases s
      · exact (cmp_congr (x' := 1) (y' := 0) (by unfold sz; cases t <;> simp <;> omega) (by unfold sz; cases t <;> simp <;> omega)).symm
      · exact (cmp_congr (x' := 0) (y' := 1) (by unfold sz; cases t <;> simp <;> omega) (by unfold sz; cases t <;> simp <;> omega)).symm
    · rw [read_inf y hy1, if_neg (by omega), hy1]
      generalize (y / 9223372036854775808 % 2 == 1) = t
      cases s <;> cases t <;> decide
    · obtain ⟨f, ey⟩ := read_nan y hy1
      rw [ey, if_pos (by omega)]
      rfl
  · obtain ⟨f, ex⟩ := read_nan x hx1
    rw [ex, if_pos (by omega)]
    rfl

theorem cmp_lt (x y : Int) : (compare x y == .lt) = decide (x < y) := by
  simp only [compare, compareOfLessAndEq]; by_cases h : x < y <;> by_cases h2 : x = y <;> simp [h, h2]
theorem cmp_gt (x y : Int) : (compare x y == .gt) = decide (y < x) := by
  simp only [compare, compareOfLessAndEq]; by_cases h : x < y <;> by_cases h2 : x = y <;> simp [h, h2] <;> omega
theorem cmp_eq (x y : Int) : (compare x y == .eq) = decide (x = y) := by
  simp only [compare, compareOfLessAndEq]; by_cases h : x < y <;> by_cases h2 : x = y <;> simp [h, h2] <;> omega

theorem lt_test {a b : Int} (ha : U64 a) (hb : U64 b) : (FloatKind.f64.format.order a.toNat b.toNat == some .lt) = lessB a b := by
  rw [order_eq ha hb]
  unfold lessB
  cases nanB a <;> cases nanB b <;> simp [cmp_lt]
theorem gt_test {a b : Int} (ha : U64 a) (hb : U64 b) : (FloatKind.f64.format.order a.toNat b.toNat == some .gt) = lessB b a := by
  rw [order_eq ha hb]
  unfold lessB
  cases nanB a <;> cases nanB b <;> simp [cmp_gt]
theorem eq_test {a b : Int} (ha : U64 a) (hb : U64 b) : (FloatKind.f64.format.order a.toNat b.toNat == some .eq) = equalB a b := by
  rw [order_eq ha hb]
  unfold equalB
  cases nanB a <;> cases nanB b <;> simp [cmp_eq]
theorem ne_test {a b : Int} (ha : U64 a) (hb : U64 b) : (FloatKind.f64.format.order a.toNat b.toNat != some .eq) = !equalB a b := by
  unfold bne; rw [eq_test ha hb]
theorem equalB_self (a : Int) : equalB a a = !nanB a := by
  unfold equalB; cases nanB a <;> simp

end Go.Proofs.YtgbajhenmamjjaaGreatDoor.Flo

/-
  What the small functions of layer 1 answer, as plain functions of integers.
-/
namespace Go.Proofs.YtgbajhenmamjjaaGreatDoor.Flo
set_option maxRecDepth 100000

def kindZ (a : Int) : Int := if 9218868437227405312 < mag a then 4 else if mag a = 0 then 0 else if mag a = 9218868437227405312 then 3 else if mag a < 4503599627370496 then 1 else 2
def belowB (a : Int) : Bool := decide (9223372036854775808 ≤ a)
def canonZ (a : Int) : Int := if nanB a then 9221120237041090560 else a
def negZ (a : Int) : Int := if nanB a then 9221120237041090560 else if 9223372036854775808 ≤ a then a - 9223372036854775808 else a + 9223372036854775808
def absZ (a : Int) : Int := if nanB a then 9221120237041090560 else mag a
def beforeB (a b : Int) : Bool := if nanB a then false else if nanB b then true else if sv a = sv b then belowB a && !belowB b else decide (sv a < sv b)

theorem u64_toNat {a : Int} (h : U64 a) : a.toNat < 18446744073709551616 := by have := h.1; have := h.2; omega

theorem and_sign (a : Int) (h : U64 a) : bits .and .u64 a 9223372036854775808 = if 9223372036854775808 ≤ a then 9223372036854775808 else 0 := by
  obtain ⟨h0, h1⟩ := h
  rw [u64_and a _ h0 h1 (by decide) (by decide)]
  have e : (9223372036854775808 : Int).toNat = 2 ^ 63 := by decide
  rw [e, nat_bit 63 a.toNat]
  have : a.toNat / 2 ^ 63 = if 9223372036854775808 ≤ a then 1 else 0 := by
    split <;> omega
  rw [this]
  split <;> decide

theorem xor_sign (a : Int) (h : U64 a) : bits .xor .u64 a 9223372036854775808 = if 9223372036854775808 ≤ a then a - 9223372036854775808 else a + 9223372036854775808 := by
  obtain ⟨h0, h1⟩ := h
  rw [u64_xor a _ h0 h1 (by decide) (by decide)]
  have e : (9223372036854775808 : Int).toNat = 2 ^ 63 := by decide
  rw [e]
  obtain ⟨x, rfl⟩ := Int.eq_ofNat_of_zero_le h0
  simp only [Int.toNat_natCast]
  have hx : x < 2 ^ 64 := by omega
  have key : x ^^^ 2 ^ 63 = if 2 ^ 63 ≤ x then x - 2 ^ 63 else x + 2 ^ 63 := by
    split
    · rename_i hge
      apply Nat.eq_of_testBit_eq
      intro i
      obtain ⟨y, rfl⟩ := Nat.exists_eq_add_of_le hge
      have hy : y < 2 ^ 63 := by omega
      rw [Nat.add_sub_cancel_left, Nat.testBit_xor, Nat.testBit_two_pow]
      by_cases hi : 63 = i
      · subst hi
        rw [Nat.testBit_two_pow_add_eq, Nat.testBit_lt_two_pow hy]
        simp
      · rw [show decide (63 = i) = false from decide_eq_false hi, Bool.xor_false]
        rcases Nat.lt_or_gt_of_ne hi with h | h
        · rw [Nat.testBit_lt_two_pow (i := i) (Nat.lt_of_lt_of_le hx (Nat.pow_le_pow_right (by decide) h)), Nat.testBit_lt_two_pow (Nat.lt_of_lt_of_le hy (Nat.pow_le_pow_right (by decide) (by omega)))]
        · rw [Nat.testBit_two_pow_add_gt h]
    · rename_i hlt
      apply Nat.eq_of_testBit_eq
      intro i
      have hy : x < 2 ^ 63 := by omega
      rw [Nat.add_comm, Nat.testBit_xor, Nat.testBit_two_pow]
      by_cases hi : 63 = i
      · subst hi
        rw [Nat.testBit_two_pow_add_eq, Nat.testBit_lt_two_pow hy]
        simp
      · rw [show decide (63 = i) = false from decide_eq_false hi, Bool.xor_false]
        rcases Nat.lt_or_gt_of_ne hi with h | h
        · rw [Nat.testBit_lt_two_pow (Nat.lt_of_lt_of_le hy (Nat.pow_le_pow_right (by decide) (by omega))), Nat.testBit_lt_two_pow (i := i) (Nat.lt_of_lt_of_le (show 2 ^ 63 + x < 2 ^ 64 by omega) (Nat.pow_le_pow_right (by decide) h))]
        · rw [Nat.testBit_two_pow_add_gt h]
  rw [key]
  split <;> split <;> omega

theorem andNot_sign (a : Int) (h : U64 a) : bits .andNot .u64 a 9223372036854775808 = mag a := by
  obtain ⟨h0, h1⟩ := h
  rw [u64_andNot a _ h0 h1 (by decide) (by decide)]
  have e : 18446744073709551615 - (9223372036854775808 : Int).toNat = 2 ^ 63 - 1 := by decide
  rw [e, Nat.and_two_pow_sub_one_eq_mod]
  unfold mag
  split <;> omega

theorem negZ_u64 {a : Int} (h : U64 a) : U64 (negZ a) := by
  obtain ⟨h0, h1⟩ := h
  unfold negZ U64
  split
  · decide
  · split <;> omega
theorem mag_u64 {a : Int} (h : U64 a) : U64 (mag a) := by
  obtain ⟨h0, h1⟩ := h
  unfold mag U64
  split <;> omega
theorem absZ_u64 {a : Int} (h : U64 a) : U64 (absZ a) := by
  unfold absZ
  split
  · exact ⟨by decide, by decide⟩
  · exact mag_u64 h

end Go.Proofs.YtgbajhenmamjjaaGreatDoor.Flo

/-
  Plain mathematics of rounding: the nearest number, in units of 2 to the power -1374.
-/
namespace Go.Proofs.YtgbajhenmamjjaaGreatDoor.Flo
set_option maxRecDepth 100000

/-- v by 2 ^ d, to the nearest, ties to even. -/
def rne (v d : Nat) : Nat := v / 2 ^ d + (if 2 ^ d < 2 * (v % 2 ^ d) ∨ (2 ^ d = 2 * (v % 2 ^ d) ∧ v / 2 ^ d % 2 = 1) then 1 else 0)
def lowest (g v : Nat) : Nat := if v < 2 ^ (g + 53) then g else v.log2 - 52
/-- The rung nearest to v units of 2 to the power (-1074 - g). -/
def rung (g v : Nat) : Nat := min ((lowest g v - g) * 4503599627370496 + rne v (lowest g v)) 9218868437227405312

theorem rne_mono {v u : Nat} (d : Nat) (h : v ≤ u) : rne v d ≤ rne u d := by
  have hp : 0 < 2 ^ d := Nat.two_pow_pos d
  have hq : v / 2 ^ d ≤ u / 2 ^ d := Nat.div_le_div_right h
  have ev := Nat.div_add_mod v (2 ^ d)
  have eu := Nat.div_add_mod u (2 ^ d)
  unfold rne
  generalize v / 2 ^ d = q at *
  generalize u / 2 ^ d = s at *
  generalize v % 2 ^ d = r at *
  generalize u % 2 ^ d = t at *
  by_cases e : q = s
  · subst e
    have hr : r ≤ t := by omega
    split <;> split <;> omega
  · split <;> split <;> omega

theorem rne_le {v d : Nat} (h : v < 2 ^ (d + 53)) : rne v d ≤ 9007199254740992 := by
  have : v / 2 ^ d < 2 ^ 53 := (Nat.div_lt_iff_lt_mul (Nat.two_pow_pos d)).2 (by rw [← Nat.pow_add, Nat.add_comm]; exact h)
  unfold rne
  split <;> omega
theorem rne_ge {v d : Nat} (h : 2 ^ (d + 52) ≤ v) : 4503599627370496 ≤ rne v d := by
  have : 2 ^ 52 ≤ v / 2 ^ d := (Nat.le_div_iff_mul_le (Nat.two_pow_pos d)).2 (by rw [← Nat.pow_add, Nat.add_comm]; exact h)
  unfold rne
  split <;> omega

theorem rne_scale (v d s : Nat) : rne (v * 2 ^ s) (d + s) = rne v d := by
  have hs : 0 < 2 ^ s := Nat.two_pow_pos s
  unfold rne
  rw [Nat.pow_add, Nat.mul_div_mul_right _ _ hs, Nat.mul_mod_mul_right]
  have e1 : 2 ^ d * 2 ^ s < 2 * (v % 2 ^ d * 2 ^ s) ↔ 2 ^ d < 2 * (v % 2 ^ d) := by
    rw [← Nat.mul_assoc]
    exact Nat.mul_lt_mul_right hs
  have e2 : 2 ^ d * 2 ^ s = 2 * (v % 2 ^ d * 2 ^ s) ↔ 2 ^ d = 2 * (v % 2 ^ d) := by
    rw [← Nat.mul_assoc]
    exact ⟨fun k => Nat.eq_of_mul_eq_mul_right hs k, fun k => congrArg (· * 2 ^ s) k⟩
  simp only [e1, e2]
theorem rne_exact (v d : Nat) : rne (v * 2 ^ d) d = v := by
  have h := rne_scale v 0 d
  rw [Nat.zero_add] at h
  rw [h]
  unfold rne
  simp [Nat.mod_one]
theorem rne_small {v d : Nat} (h : 2 * v < 2 ^ d) : rne v d = 0 := by
  unfold rne
  rw [Nat.div_eq_of_lt (by omega), Nat.mod_eq_of_lt (by omega), if_neg (by omega)]

theorem log2_bounds {v : Nat} (h : v ≠ 0) : 2 ^ v.log2 ≤ v ∧ v < 2 ^ (v.log2 + 1) := ⟨Nat.log2_self_le h, Nat.lt_log2_self⟩
theorem log2_of {v k : Nat} (h1 : 2 ^ k ≤ v) (h2 : v < 2 ^ (k + 1)) : v.log2 = k :=
  (Nat.log2_eq_iff (by have := Nat.two_pow_pos k; omega)).2 ⟨h1, h2⟩

theorem lowest_low {g v : Nat} (h : v < 2 ^ (g + 53)) : lowest g v = g := if_pos h
theorem lowest_high {g v d : Nat} (hd : g < d) (h1 : 2 ^ (d + 52) ≤ v) (h2 : v < 2 ^ (d + 53)) : lowest g v = d := by
  have h3 : 2 ^ (g + 53) ≤ 2 ^ (d + 52) := Nat.pow_le_pow_right (by decide) (by omega)
  unfold lowest
  rw [if_neg (by omega), log2_of h1 h2]
  omega

/-- Where the lowest digit that is kept lies. -/
theorem lowest_spec (g v : Nat) : g ≤ lowest g v ∧ v < 2 ^ (lowest g v + 53) ∧ (g < lowest g v → 2 ^ (lowest g v + 52) ≤ v) := by
  unfold lowest
  split
  · rename_i h
    exact ⟨Nat.le_refl _, h, fun k => absurd k (Nat.lt_irrefl _)⟩
  · rename_i h
    have hv : v ≠ 0 := by intro e; subst e; exact h (Nat.two_pow_pos _)
    obtain ⟨b1, b2⟩ := log2_bounds hv
    have hl : g + 53 ≤ v.log2 := by
      rcases Nat.lt_or_ge v.log2 (g + 53) with k | k
      · exfalso; exact h (Nat.lt_of_lt_of_le b2 (Nat.pow_le_pow_right (by decide) k))
      · exact k
    refine ⟨by omega, ?_, fun _ => ?_⟩
    · rw [show v.log2 - 52 + 53 = v.log2 + 1 by omega]; exact b2
    · rw [show v.log2 - 52 + 52 = v.log2 by omega]; exact b1

theorem ladder (g l m a b : Nat) (h1 : l = m → a ≤ b) (h2 : l < m → a ≤ 9007199254740992 ∧ 4503599627370496 ≤ b) (h3 : l ≤ m) (h4 : g ≤ l) :
    min ((l - g) * 4503599627370496 + a) 9218868437227405312 ≤ min ((m - g) * 4503599627370496 + b) 9218868437227405312 := by
  rcases Nat.lt_or_ge l m with k | k
  · obtain ⟨k1, k2⟩ := h2 k
    omega
  · have e : l = m := by omega
    have := h1 e
    subst e
    omega
theorem rung_mono (g : Nat) {v u : Nat} (h : v ≤ u) : rung g v ≤ rung g u := by
  obtain ⟨a1, a2, a3⟩ := lowest_spec g v
  obtain ⟨b1, b2, b3⟩ := lowest_spec g u
  unfold rung
  refine ladder g _ _ _ _ (fun k => ?_) (fun k => ⟨rne_le a2, rne_ge (b3 (Nat.lt_of_le_of_lt a1 k))⟩) ?_ a1
  · rw [k]
    exact rne_mono _ h
  · rcases Nat.lt_or_ge (lowest g u) (lowest g v) with k | k
    · exfalso
      have h1 := a3 (Nat.lt_of_le_of_lt b1 k)
      have h2 : 2 ^ (lowest g u + 53) ≤ 2 ^ (lowest g v + 52) := Nat.pow_le_pow_right (by decide) (by generalize lowest g u = l at k ⊢; generalize lowest g v = m at k ⊢; omega)
      exact absurd (Nat.lt_of_lt_of_le b2 (Nat.le_trans h2 (Nat.le_trans h1 h))) (Nat.lt_irrefl _)
    · exact k
theorem rung_le (g v : Nat) : rung g v ≤ 9218868437227405312 := Nat.min_le_right _ _
/-- What lies far below the least number. -/
theorem rung_tiny {g v : Nat} (h : 2 * v ≤ 2 ^ g) : rung g v = 0 := by
  have hp : 2 ^ g < 2 ^ (g + 53) := Nat.pow_lt_pow_right (by decide) (by omega)
  have h0 := Nat.two_pow_pos g
  have e : lowest g v = g := lowest_low (by omega)
  unfold rung
  rw [e]
  have : rne v g = 0 := by
    unfold rne
    rw [Nat.div_eq_of_lt (by omega), Nat.mod_eq_of_lt (by omega)]
    simp only [Nat.zero_mod]
    rw [if_neg (by omega)]
  rw [this]
  omega
/-- What is too great. -/
theorem rung_huge {g v : Nat} (h : 2 ^ (g + 2098) ≤ v) : rung g v = 9218868437227405312 := by
  have e : rung g (2 ^ (g + 2098)) = 9218868437227405312 := by
    have l : lowest g (2 ^ (g + 2098)) = g + 2046 := lowest_high (by omega) (Nat.le_refl _) (Nat.pow_lt_pow_right (by decide) (by omega))
    have r : rne (2 ^ (g + 2098)) (g + 2046) = 4503599627370496 := by
      rw [show 2 ^ (g + 2098) = 4503599627370496 * 2 ^ (g + 2046) from by rw [show g + 2098 = 52 + (g + 2046) by omega, Nat.pow_add], rne_exact]
    unfold rung
    rw [l, r]
    omega
  have h1 := rung_mono g h
  have h2 := rung_le g v
  omega
/-- Units that are finer by a power of two. -/
theorem rung_scale (g v s : Nat) : rung (g + s) (v * 2 ^ s) = rung g v := by
  obtain ⟨a1, a2, a3⟩ := lowest_spec g v
  have e : lowest (g + s) (v * 2 ^ s) = lowest g v + s := by
    have hs := Nat.two_pow_pos s
    have l2 : v * 2 ^ s < 2 ^ (lowest g v + s + 53) := by
      rw [show lowest g v + s + 53 = lowest g v + 53 + s by omega, Nat.pow_add]; exact Nat.mul_lt_mul_of_pos_right a2 hs
    rcases Nat.lt_or_ge g (lowest g v) with k | k
    · refine lowest_high (by omega) ?_ l2
      rw [show lowest g v + s + 52 = lowest g v + 52 + s by omega, Nat.pow_add]; exact Nat.mul_le_mul_right _ (a3 k)
    · have : lowest g v = g := by omega
      rw [this] at l2 ⊢
      exact lowest_low l2
  unfold rung
  rw [e, rne_scale, show lowest g v + s - (g + s) = lowest g v - g by omega]

/-! The length of a number in bits. -/
theorem bitLen_log : ∀ x : Nat, x ≠ 0 → x < 2 ^ 64 → Lib.bitLen x = x.log2 + 1 := by
  intro x
  induction x using Nat.strongRecOn with
  | _ x ih =>
    intro h0 h1
    rw [Lib.bitLen_half x h0 h1, Nat.log2_def]
    by_cases h : 2 ≤ x
    · rw [if_pos h, ih (x / 2) (by omega) (by omega) (by omega)]
      omega
    · have : x = 1 := by omega
      subst this
      decide
theorem bitLen_bounds {x : Nat} (h0 : x ≠ 0) (h1 : x < 18446744073709551616) : 1 ≤ Lib.bitLen x ∧ Lib.bitLen x ≤ 64 ∧ 2 ^ (Lib.bitLen x - 1) ≤ x ∧ x < 2 ^ Lib.bitLen x := by
  have e := bitLen_log x h0 (by omega)
  obtain ⟨b1, b2⟩ := log2_bounds h0
  have : x.log2 < 64 := (Nat.log2_lt h0).2 (by omega)
  rw [e]
  exact ⟨by omega, by omega, by simpa using b1, b2⟩

/-! What the code reckons. -/
def roundedN (f d : Nat) (more : Bool) : Nat := if 64 < d then 0 else f / 2 ^ d + (if 2 ^ (d - 1) < f % 2 ^ d ∨ (f % 2 ^ d = 2 ^ (d - 1) ∧ (more = true ∨ f / 2 ^ d % 2 = 1)) then 1 else 0)

theorem roundedN_false {f d : Nat} (hf : f < 2 ^ 64) (hd : 1 ≤ d) : roundedN f d false = rne f d := by
  unfold roundedN
  split
  · rename_i h
    refine (rne_small ?_).symm
    have : 2 ^ 65 ≤ 2 ^ d := Nat.pow_le_pow_right (by decide) h
    omega
  · obtain ⟨k, rfl⟩ := Nat.exists_eq_add_of_le hd
    unfold rne
    rw [show 1 + k - 1 = k by omega, Nat.add_comm 1 k]
    have e : 2 ^ (k + 1) = 2 * 2 ^ k := Nat.pow_succ'
    simp only [Bool.false_eq_true, false_or]
    have i1 : (2 ^ k < f % 2 ^ (k + 1)) ↔ 2 ^ (k + 1) < 2 * (f % 2 ^ (k + 1)) := by omega
    have i2 : (f % 2 ^ (k + 1) = 2 ^ k) ↔ 2 ^ (k + 1) = 2 * (f % 2 ^ (k + 1)) := by omega
    simp only [i1, i2]
theorem roundedN_true {f d : Nat} (hf : f < 2 ^ 64) (hd : 1 ≤ d) : roundedN f d true = rne (2 * f + 1) (d + 1) := by
  unfold roundedN
  split
  · rename_i h
    refine (rne_small ?_).symm
    have : 2 ^ 66 ≤ 2 ^ (d + 1) := Nat.pow_le_pow_right (by decide) (by omega)
    omega
  · obtain ⟨k, rfl⟩ := Nat.exists_eq_add_of_le hd
    unfold rne
    rw [show 1 + k - 1 = k by omega, Nat.add_comm 1 k]
    have e : 2 ^ (k + 1) = 2 * 2 ^ k := Nat.pow_succ'
    have e2 : 2 ^ (k + 1 + 1) = 2 * 2 ^ (k + 1) := Nat.pow_succ'
    have q : (2 * f + 1) / 2 ^ (k + 1 + 1) = f / 2 ^ (k + 1) := by
      rw [e2, ← Nat.div_div_eq_div_mul, show (2 * f + 1) / 2 = f by omega]
    have r : (2 * f + 1) % 2 ^ (k + 1 + 1) = 2 * (f % 2 ^ (k + 1)) + 1 := by
      have h1 := Nat.div_add_mod (2 * f + 1) (2 ^ (k + 1 + 1))
      have h2 := Nat.div_add_mod f (2 ^ (k + 1))
      rw [q, e2, Nat.mul_assoc] at h1
      rw [e2]
      omega
    rw [q, r]
    simp only [true_or, and_true]
    have i : (2 ^ k < f % 2 ^ (k + 1) ∨ f % 2 ^ (k + 1) = 2 ^ k) ↔ (2 ^ (k + 1 + 1) < 2 * (2 * (f % 2 ^ (k + 1)) + 1) ∨ (2 ^ (k + 1 + 1) = 2 * (2 * (f % 2 ^ (k + 1)) + 1) ∧ f / 2 ^ (k + 1) % 2 = 1)) := by
      have : 0 < 2 ^ k := Nat.two_pow_pos k
      generalize f / 2 ^ (k + 1) % 2 = z
      omega
    simp only [i]

end Go.Proofs.YtgbajhenmamjjaaGreatDoor.Flo

/-
  The walks of layer 1's small functions: what each call answers; the world is as it was.
-/
namespace Go.Proofs.YtgbajhenmamjjaaGreatDoor
set_option maxRecDepth 100000
open Go.RowKit Flo

theorem frombits_run (a : Int) (w : World) : (callFunc 39 #[.int .u64 a]).run Tryz.prog w = .ok (.value (.float .f64 a.toNat)) w :=
  run_callFunc_extern (e := Extern.MathFloatBits.float64frombits) Tryz.func39 (by kernel_rfl) (by kernel_rfl) (by kernel_rfl) (by kernel_rfl) _ w

theorem float_any (a : Int) (w : World) : Calls Tryz.prog 28 #[.int .u64 a] w fun e w' => e = .returned (.float .f64 a.toNat) ∧ w' = w := by
  have hf := frombits_run a
  go_enter Tryz.func28, Tryz.ntmps28
  go_wp2
  go_ret
  exact ⟨rfl, rfl⟩

theorem isNaN_any (a : Int) (w : World) (h : U64 a) : Calls Tryz.prog 29 #[.int .u64 a] w fun e w' => e = .returned (.bool (nanB a)) ∧ w' = w := by
  have ht := ne_test h h
  rw [equalB_self, Bool.not_not] at ht
  rw [← ht]
  clear ht
  go_enter Tryz.func29, Tryz.ntmps29
  go_wp2_with (go_at_call 28; refine (float_any _ _).mono ?_; rintro e w' ⟨rfl, rfl⟩)
  go_ret
  exact ⟨rfl, rfl⟩

theorem below_any (a : Int) (w : World) (h : U64 a) : Calls Tryz.prog 40 #[.int .u64 a] w fun e w' => e = .returned (.bool (belowB a)) ∧ w' = w := by
  have ht := and_sign a h
  have e : belowB a = (bits .and .u64 a 9223372036854775808 != 0) := by
    rw [ht]; unfold belowB; split <;> simp_all
  rw [e]
  clear ht e
  go_enter Tryz.func40, Tryz.ntmps40
  go_wp2
  go_ret
  exact ⟨rfl, rfl⟩

theorem equal_any (a b : Int) (w : World) (ha : U64 a) (hb : U64 b) : Calls Tryz.prog 27 #[.int .u64 a, .int .u64 b] w fun e w' => e = .returned (.bool (equalB a b)) ∧ w' = w := by
  rw [← eq_test ha hb]
  go_enter Tryz.func27, Tryz.ntmps27
  go_wp2_with (go_at_call 28; refine (float_any _ _).mono ?_; rintro e w' ⟨rfl, rfl⟩)
  go_ret
  exact ⟨rfl, rfl⟩

theorem canon_any (a : Int) (w : World) (h : U64 a) : Calls Tryz.prog 20 #[.int .u64 a] w fun e w' => e = .returned (.int .u64 (canonZ a)) ∧ w' = w := by
  cases hn : nanB a
  · have e : canonZ a = a := by unfold canonZ; rw [hn]; rfl
    rw [e]
    go_enter Tryz.func20, Tryz.ntmps20
    go_wp2_with (go_at_call 29; refine (isNaN_any _ _ h).mono ?_; rintro e w' ⟨rfl, rfl⟩)
    go_ret
    exact ⟨rfl, rfl⟩
  · have e : canonZ a = 9221120237041090560 := by unfold canonZ; rw [hn]; rfl
    rw [e]
    go_enter Tryz.func20, Tryz.ntmps20
    go_wp2_with (go_at_call 29; refine (isNaN_any _ _ h).mono ?_; rintro e w' ⟨rfl, rfl⟩)
    go_ret
    exact ⟨rfl, rfl⟩

theorem neg_any (a : Int) (w : World) (h : U64 a) : Calls Tryz.prog 60 #[.int .u64 a] w fun e w' => e = .returned (.int .u64 (negZ a)) ∧ w' = w := by
  cases hn : nanB a
  · have e : negZ a = bits .xor .u64 a 9223372036854775808 := by unfold negZ; rw [hn, xor_sign a h]; rfl
    rw [e]
    clear e
    go_enter Tryz.func60, Tryz.ntmps60
    go_wp2_with (go_at_call 29; refine (isNaN_any _ _ h).mono ?_; rintro e w' ⟨rfl, rfl⟩)
    go_ret
    exact ⟨rfl, rfl⟩
  · have e : negZ a = 9221120237041090560 := by unfold negZ; rw [hn]; rfl
    rw [e]
    go_enter Tryz.func60, Tryz.ntmps60
    go_wp2_with (go_at_call 29; refine (isNaN_any _ _ h).mono ?_; rintro e w' ⟨rfl, rfl⟩)
    go_ret
    exact ⟨rfl, rfl⟩

theorem abs_any (a : Int) (w : World) (h : U64 a) : Calls Tryz.prog 17 #[.int .u64 a] w fun e w' => e = .returned (.int .u64 (absZ a)) ∧ w' = w := by
  cases hn : nanB a
  · have e : absZ a = bits .andNot .u64 a 9223372036854775808 := by unfold absZ; rw [hn, andNot_sign a h]; rfl
    rw [e]
    clear e
    go_enter Tryz.func17, Tryz.ntmps17
    go_wp2_with (go_at_call 29; refine (isNaN_any _ _ h).mono ?_; rintro e w' ⟨rfl, rfl⟩)
    go_ret
    exact ⟨rfl, rfl⟩
  · have e : absZ a = 9221120237041090560 := by unfold absZ; rw [hn]; rfl
    rw [e]
    go_enter Tryz.func17, Tryz.ntmps17
    go_wp2_with (go_at_call 29; refine (isNaN_any _ _ h).mono ?_; rintro e w' ⟨rfl, rfl⟩)
    go_ret
    exact ⟨rfl, rfl⟩

end Go.Proofs.YtgbajhenmamjjaaGreatDoor

/-
  The walks of Kind and Before.
-/
namespace Go.Proofs.YtgbajhenmamjjaaGreatDoor
set_option maxRecDepth 100000
open Go.RowKit Flo

theorem kind_tests {a : Int} (h : U64 a) :
    (FloatKind.f64.format.order a.toNat a.toNat != some .eq) = nanB a ∧
    (FloatKind.f64.format.order a.toNat 0 == some .eq) = equalB a 0 ∧
    (FloatKind.f64.format.order a.toNat 18442240474082181119 == some .lt) = lessB a 18442240474082181119 ∧
    (FloatKind.f64.format.order a.toNat 9218868437227405311 == some .gt) = lessB 9218868437227405311 a ∧
    (FloatKind.f64.format.order a.toNat 9227875636482146304 == some .gt) = lessB 9227875636482146304 a ∧
    (FloatKind.f64.format.order a.toNat 4503599627370496 == some .lt) = lessB a 4503599627370496 := by
  refine ⟨?_, ?_, ?_, ?_, ?_, ?_⟩
  · rw [ne_test h h, equalB_self, Bool.not_not]
  · exact eq_test h (b := 0) ⟨by decide, by decide⟩
  · exact lt_test h (b := 18442240474082181119) ⟨by decide, by decide⟩
  · exact gt_test h (b := 9218868437227405311) ⟨by decide, by decide⟩
  · exact gt_test h (b := 9227875636482146304) ⟨by decide, by decide⟩
  · exact lt_test h (b := 4503599627370496) ⟨by decide, by decide⟩

set_option maxHeartbeats 400000 in
theorem kind_any (a : Int) (w : World) (h : U64 a) : Calls Tryz.prog 16 #[.int .u64 a] w fun e w' => e = .returned (.int .i64 (kindZ a)) ∧ w' = w := by
  obtain ⟨t1, t2, t3, t4, t5, t6⟩ := kind_tests h
  have n0 : nanB a = decide (9218868437227405312 < mag a) := rfl
  obtain ⟨h0, h1⟩ := h
  by_cases c1 : 9218868437227405312 < mag a
  · have e : kindZ a = 4 := by unfold kindZ; rw [if_pos c1]
    rw [n0, decide_eq_true c1] at t1
    rw [e]
    clear e t2 t3 t4 t5 t6 n0 c1
    go_enter Tryz.func16, Tryz.ntmps16
    go_wp2_with (go_at_call 28; refine (float_any _ _).mono ?_; rintro e w' ⟨rfl, rfl⟩)
    go_ret
    exact ⟨rfl, rfl⟩
  · rw [n0, decide_eq_false c1] at t1
    rw [decide_eq_false c1] at n0
    by_cases c2 : mag a = 0
    · have e : kindZ a = 0 := by unfold kindZ; rw [if_neg c1, if_pos c2]
      have q : equalB a 0 = true := by
        unfold equalB; rw [n0]; unfold nanB mag at *; unfold sv; simp; omega
      rw [q] at t2
      rw [e]
      clear e t3 t4 t5 t6 n0 c1 c2 q
      go_enter Tryz.func16, Tryz.ntmps16
      go_wp2_with (go_at_call 28; refine (float_any _ _).mono ?_; rintro e w' ⟨rfl, rfl⟩)
      go_ret
      exact ⟨rfl, rfl⟩
    · have q : equalB a 0 = false := by
        unfold equalB; rw [n0]; unfold nanB mag at *; unfold sv; simp; omega
      rw [q] at t2
      by_cases c3 : mag a = 9218868437227405312
      · have e : kindZ a = 3 := by unfold kindZ; rw [if_neg c1, if_neg c2, if_pos c3]
        rw [e]
        by_cases c4 : 9223372036854775808 ≤ a
        · have q3 : lessB a 18442240474082181119 = true := by
            unfold lessB; rw [n0]; unfold nanB mag at *; unfold sv; simp; omega
          rw [q3] at t3
          clear e t4 t5 t6 n0 c1 c2 c3 c4 q q3
          go_enter Tryz.func16, Tryz.ntmps16
          go_wp2_with (go_at_call 28; refine (float_any _ _).mono ?_; rintro e w' ⟨rfl, rfl⟩)
          go_ret
          exact ⟨rfl, rfl⟩
        · have q3 : lessB a 18442240474082181119 = false := by
            unfold lessB; rw [n0]; unfold nanB mag at *; unfold sv; simp; omega
          have q4 : lessB 9218868437227405311 a = true := by
            unfold lessB; rw [n0]; unfold nanB mag at *; unfold sv; simp; omega
          rw [q3] at t3
          rw [q4] at t4
          clear e t5 t6 n0 c1 c2 c3 c4 q q3 q4
          go_enter Tryz.func16, Tryz.ntmps16
          go_wp2_with (go_at_call 28; refine (float_any _ _).mono ?_; rintro e w' ⟨rfl, rfl⟩)
          go_ret
          exact ⟨rfl, rfl⟩
      · have q3 : lessB a 18442240474082181119 = false := by
          unfold lessB; rw [n0]; unfold nanB mag at *; unfold sv; simp; omega
        have q4 : lessB 9218868437227405311 a = false := by
          unfold lessB; rw [n0]; unfold nanB mag at *; unfold sv; simp; omega
        rw [q3] at t3
        rw [q4] at t4
        by_cases c4 : mag a < 4503599627370496
        · have e : kindZ a = 1 := by unfold kindZ; rw [if_neg c1, if_neg c2, if_neg c3, if_pos c4]
          have q5 : lessB 9227875636482146304 a = true := by
            unfold lessB; rw [n0]; unfold nanB mag at *; unfold sv; simp; omega
          have q6 : lessB a 4503599627370496 = true := by
            unfold lessB; rw [n0]; unfold nanB mag at *; unfold sv; simp; omega
          rw [q5] at t5
          rw [q6] at t6
          rw [e]
          clear e n0 c1 c2 c3 c4 q q3 q4 q5 q6
          go_enter Tryz.func16, Tryz.ntmps16
          go_wp2_with (go_at_call 28; refine (float_any _ _).mono ?_; rintro e w' ⟨rfl, rfl⟩)
          go_ret
          exact ⟨rfl, rfl⟩
        · have e : kindZ a = 2 := by unfold kindZ; rw [if_neg c1, if_neg c2, if_neg c3, if_neg c4]
          rw [e]
          by_cases c5 : 9223372036854775808 ≤ a
          · have q5 : lessB 9227875636482146304 a = false := by
              unfold lessB; rw [n0]; unfold nanB mag at *; unfold sv; simp; omega
            rw [q5] at t5
            clear e t6 n0 c1 c2 c3 c4 c5 q q3 q4 q5
            go_enter Tryz.func16, Tryz.ntmps16
            go_wp2_with (go_at_call 28; refine (float_any _ _).mono ?_; rintro e w' ⟨rfl, rfl⟩)
            go_ret
            exact ⟨rfl, rfl⟩
          · have q5 : lessB 9227875636482146304 a = true := by
              unfold lessB; rw [n0]; unfold nanB mag at *; unfold sv; simp; omega
            have q6 : lessB a 4503599627370496 = false := by
              unfold lessB; rw [n0]; unfold nanB mag at *; unfold sv; simp; omega
            rw [q5] at t5
            rw [q6] at t6
            clear e n0 c1 c2 c3 c4 c5 q q3 q4 q5 q6
            go_enter Tryz.func16, Tryz.ntmps16
            go_wp2_with (go_at_call 28; refine (float_any _ _).mono ?_; rintro e w' ⟨rfl, rfl⟩)
            go_ret
            exact ⟨rfl, rfl⟩

end Go.Proofs.YtgbajhenmamjjaaGreatDoor

/-
  math/bits.Len64, walked.
-/
namespace Go.Proofs.YtgbajhenmamjjaaGreatDoor
set_option maxRecDepth 100000
open Go.RowKit Flo

theorem len8_get : ∀ n : Fin 256, Lib.len8tab[n.val]!.toNat = Lib.bitLen n.val := by decide +kernel
theorem len8_any (i : Nat) (h : i < Lib.len8tab.size) : Lib.len8tab[i].toNat = Lib.bitLen i := by
  have e : Lib.len8tab.size = 256 := by decide +kernel
  have := len8_get ⟨i, by omega⟩
  rw [← this, getElem!_pos]

theorem len_close (x k : Nat) (c : Int) (hx : x < 18446744073709551616) (h2 : x / 2 ^ k < 256) (h : k = 0 ∨ 2 ^ k ≤ x) (hk : k ≤ 56) (i : Nat) (hi : i < Lib.len8tab.size) (ei : i = x / 2 ^ k) (hc : c = k) :
    wrap64 (c + wrap64 (Lib.len8tab[i].toNat : Int)) = (Lib.bitLen x : Int) := by
  subst ei
  subst hc
  rw [len8_any]
  have l8 := Lib.bitLen_le8 ⟨x / 2 ^ k, h2⟩
  have s : Lib.bitLen x = k + Lib.bitLen (x / 2 ^ k) := by
    rcases h with h | h
    · subst h; simp
    · exact Lib.bitLen_shift k x h hx
  simp only at l8
  unfold wrap64
  omega

set_option maxRecDepth 100000 in
set_option maxHeartbeats 1000000 in
theorem len64_any (x : Int) (w : World) (h : U64 x) : Calls Tryz.prog 67 #[.int .u64 x] w fun e w' => e = .returned (.int .i64 (Lib.bitLen x.toNat)) ∧ w' = w := by
  obtain ⟨h0, h1⟩ := h
  have hs := Lib.len8tab_size
  go_enter Tryz.func67, Tryz.ntmps67
  go_wp2
  all_goals (go_ret; refine ⟨congrArg Ending.returned (congrArg (Value.int IntKind.i64) ?_), rfl⟩)
  all_goals first
    | exact len_close x.toNat 56 _ (by omega) (by omega) (by omega) (by omega) _ _ (by omega) rfl
    | exact len_close x.toNat 48 _ (by omega) (by omega) (by omega) (by omega) _ _ (by omega) rfl
    | exact len_close x.toNat 40 _ (by omega) (by omega) (by omega) (by omega) _ _ (by omega) rfl
    | exact len_close x.toNat 32 _ (by omega) (by omega) (by omega) (by omega) _ _ (by omega) rfl
    | exact len_close x.toNat 24 _ (by omega) (by omega) (by omega) (by omega) _ _ (by omega) rfl
    | exact len_close x.toNat 16 _ (by omega) (by omega) (by omega) (by omega) _ _ (by omega) rfl
    | exact len_close x.toNat 8 _ (by omega) (by omega) (by omega) (by omega) _ _ (by omega) rfl
    | exact len_close x.toNat 0 _ (by omega) (by omega) (by omega) (by omega) _ _ (by omega) rfl
    | (have k := len_close x.toNat 0 0 (by omega) (by omega) (by omega) (by omega) x.toNat (by omega) (by omega) rfl; rwa [Int.zero_add] at k)

end Go.Proofs.YtgbajhenmamjjaaGreatDoor
