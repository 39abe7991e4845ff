/-
  Plain mathematics of 64-bit numbers: how the words of the double format are ordered. No Go in sight.
-/
import Ieee.Arith
import Derived.Laws.BitsAllLaws
namespace Go.Proofs.YtcblknghkgihcaaDoor.Flo
set_option maxRecDepth 100000

/-- The size of a word, without its sign. -/
def mag (a : Int) : Int := if 9223372036854775808 ≤ a then a - 9223372036854775808 else a
/-- A word as a place on one line: below nought with the sign. -/
def sv (a : Int) : Int := if 9223372036854775808 ≤ a then 9223372036854775808 - a else a
def U64 (a : Int) : Prop := 0 ≤ a ∧ a < 18446744073709551616
def nanB (a : Int) : Bool := decide (9218868437227405312 < mag a)
def lessB (a b : Int) : Bool := !nanB a && (!nanB b && decide (sv a < sv b))
def equalB (a b : Int) : Bool := !nanB a && (!nanB b && decide (sv a = sv b))

theorem cmp_congr {x y x' y' : Int} (h1 : x < y ↔ x' < y') (h2 : x = y ↔ x' = y') : compare x y = compare x' y' := by
  simp only [compare, compareOfLessAndEq, h1, h2]

/-- What a rung stands for, in units of the least one. -/
def M (r : Nat) : Nat := if r < 4503599627370496 then r else (4503599627370496 + r % 4503599627370496) * 2 ^ (r / 4503599627370496 - 1)

theorem M_mono {r s : Nat} (h : r < s) : M r < M s := by
  unfold M
  by_cases h1 : r < 4503599627370496
  · by_cases h2 : s < 4503599627370496
    · simp only [h1, h2, if_true]; exact h
    · simp only [h1, h2, if_true, if_false]
      have hp : 0 < 2 ^ (s / 4503599627370496 - 1) := Nat.two_pow_pos _
      calc r < 4503599627370496 := h1
        _ ≤ (4503599627370496 + s % 4503599627370496) * 1 := by omega
        _ ≤ _ := Nat.mul_le_mul_left _ hp
  · have h2 : ¬ s < 4503599627370496 := by omega
    simp only [h1, h2, if_false]
    have hq : r / 4503599627370496 ≤ s / 4503599627370496 := Nat.div_le_div_right (by omega)
    by_cases he : r / 4503599627370496 = s / 4503599627370496
    · rw [he]
      exact Nat.mul_lt_mul_of_pos_right (by omega) (Nat.two_pow_pos _)
    · have e : 2 ^ (r / 4503599627370496) = 2 * 2 ^ (r / 4503599627370496 - 1) := by
        rw [← Nat.pow_succ']; congr 1; omega
      have hle : 2 ^ (r / 4503599627370496) ≤ 2 ^ (s / 4503599627370496 - 1) := Nat.pow_le_pow_right (by decide) (by omega)
      calc (4503599627370496 + r % 4503599627370496) * 2 ^ (r / 4503599627370496 - 1)
          < (2 * 4503599627370496) * 2 ^ (r / 4503599627370496 - 1) := Nat.mul_lt_mul_of_pos_right (by omega) (Nat.two_pow_pos _)
        _ = 4503599627370496 * 2 ^ (r / 4503599627370496) := by rw [e, Nat.mul_comm 2 4503599627370496, Nat.mul_assoc]
        _ ≤ 4503599627370496 * 2 ^ (s / 4503599627370496 - 1) := Nat.mul_le_mul_left _ hle
        _ ≤ _ := Nat.mul_le_mul_right _ (by omega)

theorem M_lt_iff {r s : Nat} : M r < M s ↔ r < s := by
  constructor
  · intro h
    by_cases h1 : r < s
    · exact h1
    · exfalso
      by_cases h2 : r = s
      · subst h2; omega
      · have := M_mono (r := s) (s := r) (by omega); omega
  · exact M_mono
theorem M_inj {r s : Nat} : M r = M s ↔ r = s := by
  constructor
  · intro h
    have h1 := @M_lt_iff r s
    have h2 := @M_lt_iff s r
    omega
  · intro h; rw [h]
theorem M_zero : M 0 = 0 := by decide

/-- A rung below infinity is read as a number that stands for what M says. -/
theorem read_number (a : Nat) (hr : a % 9223372036854775808 < 9218868437227405312) :
    ∃ m p, 0 ≤ p + 1074 ∧ m * 2 ^ (p + 1074).toNat = M (a % 9223372036854775808) ∧ Ieee.double.read a = .number (a / 9223372036854775808 % 2 == 1) m p := by
  have e1 : Ieee.double.signWeight = 9223372036854775808 := by decide
  have e2 : Ieee.double.binade = 4503599627370496 := by decide
  have e3 : Ieee.double.infRung = 9218868437227405312 := by decide
  have e4 : Ieee.double.leastPlace = -1074 := by decide
  unfold Ieee.Format.read
  simp only [e1, e2, e3, e4]
  generalize a % 9223372036854775808 = r at *
  unfold M
  by_cases h1 : r < 4503599627370496
  · simp only [h1, if_true]
    exact ⟨r, -1074, by omega, by simp, rfl⟩
  · simp only [h1, hr, if_true, if_false]
    refine ⟨_, _, ?_, ?_, rfl⟩
    · omega
    · congr 2; omega

theorem read_inf (a : Nat) (hr : a % 9223372036854775808 = 9218868437227405312) :
    Ieee.double.read a = .infinity (a / 9223372036854775808 % 2 == 1) := by
  have e1 : Ieee.double.signWeight = 9223372036854775808 := by decide
  have e2 : Ieee.double.binade = 4503599627370496 := by decide
  have e3 : Ieee.double.infRung = 9218868437227405312 := by decide
  unfold Ieee.Format.read
  simp only [e1, e2, e3, hr]
  simp

theorem read_nan (a : Nat) (hr : 9218868437227405312 < a % 9223372036854775808) :
    ∃ f, Ieee.double.read a = .nan (a / 9223372036854775808 % 2 == 1) f := by
  have e1 : Ieee.double.signWeight = 9223372036854775808 := by decide
  have e2 : Ieee.double.binade = 4503599627370496 := by decide
  have e3 : Ieee.double.infRung = 9218868437227405312 := by decide
  unfold Ieee.Format.read
  simp only [e1, e2, e3]
  generalize a % 9223372036854775808 = r at *
  exact ⟨r - 9218868437227405312, by rw [if_neg (by omega), if_neg (by omega), if_neg (by omega)]⟩

/-- The number of a sign and a size. -/
def sz (s : Bool) (n : Nat) : Int := if s then -(n : Int) else n

theorem signed_scale (s : Bool) (m k c : Nat) : Ieee.signed s m k * ((2 ^ c : Nat) : Int) = sz s (m * 2 ^ (k + c)) := by
  unfold Ieee.signed sz
  cases s
  · simp only [Nat.shiftLeft_eq, Bool.false_eq_true, if_false, ← Int.natCast_mul]
    rw [Nat.mul_assoc, ← Nat.pow_add]
  · simp only [Nat.shiftLeft_eq, if_true, Int.neg_mul, ← Int.natCast_mul]
    rw [Nat.mul_assoc, ← Nat.pow_add]

theorem cmp_scale {x y : Int} {c : Nat} (hc : 0 < c) : compare x y = compare (x * (c : Int)) (y * (c : Int)) := by
  have h : (0 : Int) < (c : Int) := by omega
  refine cmp_congr ⟨fun k => Int.mul_lt_mul_of_pos_right k h, fun k => Int.lt_of_mul_lt_mul_right k (by omega)⟩ ⟨fun k => by rw [k], fun k => Int.eq_of_mul_eq_mul_right (by omega) k⟩

theorem cmp_sz (s t : Bool) (r u : Nat) : compare (sz s (M r)) (sz t (M u)) = compare (sz s r) (sz t u) := by
  have h1 := @M_lt_iff r u
  have h2 := @M_lt_iff u r
  have h0 := @M_lt_iff 0 r
  have h3 := @M_lt_iff 0 u
  rw [M_zero] at h0 h3
  apply cmp_congr
  · unfold sz; cases s <;> cases t <;> simp only [Bool.false_eq_true, if_false, if_true] <;> omega
  · unfold sz; cases s <;> cases t <;> simp only [Bool.false_eq_true, if_false, if_true] <;> omega

theorem order_numbers (s t : Bool) (m n : Nat) (i j : Int) (hi : 0 ≤ i + 1074) (hj : 0 ≤ j + 1074) :
    Ieee.Datum.order (.number s m i) (.number t n j) = some (compare (sz s (m * 2 ^ (i + 1074).toNat)) (sz t (n * 2 ^ (j + 1074).toNat))) := by
  simp only [Ieee.Datum.order]
  generalize hb : min i j = b
  have hb0 : 0 ≤ b + 1074 := by omega
  rw [cmp_scale (Nat.two_pow_pos (b + 1074).toNat), signed_scale, signed_scale]
  rw [show (i - b).toNat + (b + 1074).toNat = (i + 1074).toNat by omega, show (j - b).toNat + (b + 1074).toNat = (j + 1074).toNat by omega]

/-- How two words stand to one another. -/
theorem order_eq {a b : Int} (ha : U64 a) (hb : U64 b) :
    FloatKind.f64.format.order a.toNat b.toNat = if nanB a then none else if nanB b then none else some (compare (sv a) (sv b)) := by
  show Ieee.double.order a.toNat b.toNat = _
  obtain ⟨x, rfl⟩ := Int.eq_ofNat_of_zero_le ha.1
  obtain ⟨y, rfl⟩ := Int.eq_ofNat_of_zero_le hb.1
  have hx : x < 18446744073709551616 := by have := ha.2; omega
  have hy : y < 18446744073709551616 := by have := hb.2; omega
  clear ha hb
  have mg : ∀ z : Nat, z < 18446744073709551616 → mag (z : Int) = ((z % 9223372036854775808 : Nat) : Int) := by
    intro z hz; unfold mag; split <;> omega
  have sg : ∀ z : Nat, z < 18446744073709551616 → sv (z : Int) = sz (z / 9223372036854775808 % 2 == 1) (z % 9223372036854775808) := by
    intro z hz
    unfold sv sz
    by_cases h : 9223372036854775808 ≤ z
    · have e : (z / 9223372036854775808 % 2 == 1) = true := by rw [beq_iff_eq]; omega
      rw [e, if_pos (by omega), if_pos rfl]; omega
    · have e : (z / 9223372036854775808 % 2 == 1) = false := by rw [beq_eq_false_iff_ne]; omega
      rw [e, if_neg (by omega)]; simp only [Bool.false_eq_true, if_false]; omega
  unfold nanB Ieee.Format.order
  rw [mg x hx, mg y hy, sg x hx, sg y hy]
  simp only [Int.toNat_natCast, decide_eq_true_eq]
  rcases Nat.lt_trichotomy (x % 9223372036854775808) 9218868437227405312 with hx1 | hx1 | hx1
  · obtain ⟨m, i, hi, em, ex⟩ := read_number x hx1
    rw [ex, if_neg (by omega)]
    generalize (x / 9223372036854775808 % 2 == 1) = s
    generalize x % 9223372036854775808 = r at *
    rcases Nat.lt_trichotomy (y % 9223372036854775808) 9218868437227405312 with hy1 | hy1 | hy1
    · obtain ⟨n, j, hj, en, ey⟩ := read_number y hy1
      rw [ey, if_neg (by omega), order_numbers _ _ _ _ _ _ hi hj, em, en, cmp_sz]
    · rw [read_inf y hy1, if_neg (by omega), hy1]
      generalize (y / 9223372036854775808 % 2 == 1) = t
      simp only [Ieee.Datum.order, Option.some.injEq]
      cases t
      · exact (cmp_congr (x' := 0) (y' := 1) (by unfold sz; cases s <;> simp <;> omega) (by unfold sz; cases s <;> simp <;> omega)).symm
      · exact (cmp_congr (x' := 1) (y' := 0) (by unfold sz; cases s <;> simp <;> omega) (by unfold sz; cases s <;> simp <;> omega)).symm
    · obtain ⟨f, ey⟩ := read_nan y hy1
      rw [ey, if_pos (by omega)]
      rfl
  · rw [read_inf x hx1, if_neg (by omega), hx1]
    generalize (x / 9223372036854775808 % 2 == 1) = s
    rcases Nat.lt_trichotomy (y % 9223372036854775808) 9218868437227405312 with hy1 | hy1 | hy1
    · obtain ⟨n, j, hj, en, ey⟩ := read_number y hy1
      rw [ey, if_neg (by omega)]
      generalize (y / 9223372036854775808 % 2 == 1) = t
      generalize y % 9223372036854775808 = u at *
      simp only [Ieee.Datum.order, Option.some.injEq]
      cases s
      · exact (cmp_congr (x' := 1) (y' := 0) (by unfold sz; cases t <;> simp <;> omega) (by unfold sz; cases t <;> simp <;> omega)).symm
      · exact (cmp_congr (x' := 0) (y' := 1) (by unfold sz; cases t <;> simp <;> omega) (by unfold sz; cases t <;> simp <;> omega)).symm
    · rw [read_inf y hy1, if_neg (by omega), hy1]
      generalize (y / 9223372036854775808 % 2 == 1) = t
      cases s <;> cases t <;> decide
    · obtain ⟨f, ey⟩ := read_nan y hy1
      rw [ey, if_pos (by omega)]
      rfl
  · obtain ⟨f, ex⟩ := read_nan x hx1
    rw [ex, if_pos (by omega)]
    rfl

theorem cmp_lt (x y : Int) : (compare x y == .lt) = decide (x < y) := by
  simp only [compare, compareOfLessAndEq]; by_cases h : x < y <;> by_cases h2 : x = y <;> simp [h, h2]
theorem cmp_gt (x y : Int) : (compare x y == .gt) = decide (y < x) := by
  simp only [compare, compareOfLessAndEq]; by_cases h : x < y <;> by_cases h2 : x = y <;> simp [h, h2] <;> omega
theorem cmp_eq (x y : Int) : (compare x y == .eq) = decide (x = y) := by
  simp only [compare, compareOfLessAndEq]; by_cases h : x < y <;> by_cases h2 : x = y <;> simp [h, h2] <;> omega

theorem lt_test {a b : Int} (ha : U64 a) (hb : U64 b) : (FloatKind.f64.format.order a.toNat b.toNat == some .lt) = lessB a b := by
  rw [order_eq ha hb]
  unfold lessB
  cases nanB a <;> cases nanB b <;> simp [cmp_lt]
theorem gt_test {a b : Int} (ha : U64 a) (hb : U64 b) : (FloatKind.f64.format.order a.toNat b.toNat == some .gt) = lessB b a := by
  rw [order_eq ha hb]
  unfold lessB
  cases nanB a <;> cases nanB b <;> simp [cmp_gt]
theorem eq_test {a b : Int} (ha : U64 a) (hb : U64 b) : (FloatKind.f64.format.order a.toNat b.toNat == some .eq) = equalB a b := by
  rw [order_eq ha hb]
  unfold equalB
  cases nanB a <;> cases nanB b <;> simp [cmp_eq]
theorem ne_test {a b : Int} (ha : U64 a) (hb : U64 b) : (FloatKind.f64.format.order a.toNat b.toNat != some .eq) = !equalB a b := by
  unfold bne; rw [eq_test ha hb]
theorem equalB_self (a : Int) : equalB a a = !nanB a := by
  unfold equalB; cases nanB a <;> simp

end Go.Proofs.YtcblknghkgihcaaDoor.Flo
