/-
  Flo, FloSpec, FloRound, FloRung, Dig, DigWalk
-/
import Ieee.Arith
import Derived.Laws.BitsAllLaws
import Derived.Lib.BitFns
import Derived.Test.YthmocdabakkfhaaGreatDoorRows
import Derived.WalkKit
import Derived.WalkSpells
import Derived.WalkLawsBesides
import Derived.Deep.Light

/-
  Plain mathematics of 64-bit numbers: how the words of the double format are ordered. No Go in sight.
-/
namespace Go.Proofs.YthmocdabakkfhaaGreatDoor.Flo
set_option maxRecDepth 100000

/-- The size of a word, without its sign. -/
def mag (a : Int) : Int := if 9223372036854775808 ≤ a then a - 9223372036854775808 else a
/-- A word as a place on one line: below nought with the sign. -/
def sv (a : Int) : Int := if 9223372036854775808 ≤ a then 9223372036854775808 - a else a
def U64 (a : Int) : Prop := 0 ≤ a ∧ a < 18446744073709551616
def nanB (a : Int) : Bool := decide (9218868437227405312 < mag a)
def lessB (a b : Int) : Bool := !nanB a && (!nanB b && decide (sv a < sv b))
def equalB (a b : Int) : Bool := !nanB a && (!nanB b && decide (sv a = sv b))

theorem cmp_congr {x y x' y' : Int} (h1 : x < y ↔ x' < y') (h2 : x = y ↔ x' = y') : compare x y = compare x' y' := by
  simp only [compare, compareOfLessAndEq, h1, h2]

/-- What a rung stands for, in units of the least one. -/
def M (r : Nat) : Nat := if r < 4503599627370496 then r else (4503599627370496 + r % 4503599627370496) * 2 ^ (r / 4503599627370496 - 1)

theorem M_mono {r s : Nat} (h : r < s) : M r < M s := by
  unfold M
  by_cases h1 : r < 4503599627370496
  · by_cases h2 : s < 4503599627370496
    · simp only [h1, h2, if_true]; exact h
    · simp only [h1, h2, if_true, if_false]
      have hp : 0 < 2 ^ (s / 4503599627370496 - 1) := Nat.two_pow_pos _
      calc r < 4503599627370496 := h1
        _ ≤ (4503599627370496 + s % 4503599627370496) * 1 := by omega
        _ ≤ _ := Nat.mul_le_mul_left _ hp
  · have h2 : ¬ s < 4503599627370496 := by omega
    simp only [h1, h2, if_false]
    have hq : r / 4503599627370496 ≤ s / 4503599627370496 := Nat.div_le_div_right (by omega)
    by_cases he : r / 4503599627370496 = s / 4503599627370496
    · rw [he]
      exact Nat.mul_lt_mul_of_pos_right (by omega) (Nat.two_pow_pos _)
    · have e : 2 ^ (r / 4503599627370496) = 2 * 2 ^ (r / 4503599627370496 - 1) := by
        rw [← Nat.pow_succ']; congr 1; omega
      have hle : 2 ^ (r / 4503599627370496) ≤ 2 ^ (s / 4503599627370496 - 1) := Nat.pow_le_pow_right (by decide) (by omega)
      calc (4503599627370496 + r % 4503599627370496) * 2 ^ (r / 4503599627370496 - 1)
          < (2 * 4503599627370496) * 2 ^ (r / 4503599627370496 - 1) := Nat.mul_lt_mul_of_pos_right (by omega) (Nat.two_pow_pos _)
        _ = 4503599627370496 * 2 ^ (r / 4503599627370496) := by rw [e, Nat.mul_comm 2 4503599627370496, Nat.mul_assoc]
        _ ≤ 4503599627370496 * 2 ^ (s / 4503599627370496 - 1) := Nat.mul_le_mul_left _ hle
        _ ≤ _ := Nat.mul_le_mul_right _ (by omega)

theorem M_lt_iff {r s : Nat} : M r < M s ↔ r < s := by
  constructor
  · intro h
    by_cases h1 : r < s
    · exact h1
    · exfalso
      by_cases h2 : r = s
      · subst h2; omega
      · have := M_mono (r := s) (s := r) (by omega); omega
  · exact M_mono
theorem M_inj {r s : Nat} : M r = M s ↔ r = s := by
  constructor
  · intro h
    have h1 := @M_lt_iff r s
    have h2 := @M_lt_iff s r
    omega
  · intro h; rw [h]
theorem M_zero : M 0 = 0 := by decide

/-- A rung below infinity is read as a number that stands for what M says. -/
theorem read_number (a : Nat) (hr : a % 9223372036854775808 < 9218868437227405312) :
    ∃ m p, 0 ≤ p + 1074 ∧ m * 2 ^ (p + 1074).toNat = M (a % 9223372036854775808) ∧ Ieee.double.read a = .number (a / 9223372036854775808 % 2 == 1) m p := by
  have e1 : Ieee.double.signWeight = 9223372036854775808 := by decide
  have e2 : Ieee.double.binade = 4503599627370496 := by decide
  have e3 : Ieee.double.infRung = 9218868437227405312 := by decide
  have e4 : Ieee.double.leastPlace = -1074 := by decide
  unfold Ieee.Format.read
  simp only [e1, e2, e3, e4]
  generalize a % 9223372036854775808 = r at *
  unfold M
  by_cases h1 : r < 4503599627370496
  · simp only [h1, if_true]
    exact ⟨r, -1074, by omega, by simp, rfl⟩
  · simp only [h1, hr, if_true, if_false]
    refine ⟨_, _, ?_, ?_, rfl⟩
    · omega
    · congr 2; omega

theorem read_inf (a : Nat) (hr : a % 9223372036854775808 = 9218868437227405312) :
    Ieee.double.read a = .infinity (a / 9223372036854775808 % 2 == 1) := by
  have e1 : Ieee.double.signWeight = 9223372036854775808 := by decide
  have e2 : Ieee.double.binade = 4503599627370496 := by decide
  have e3 : Ieee.double.infRung = 9218868437227405312 := by decide
  unfold Ieee.Format.read
  simp only [e1, e2, e3, hr]
  simp

theorem read_nan (a : Nat) (hr : 9218868437227405312 < a % 9223372036854775808) :
    ∃ f, Ieee.double.read a = .nan (a / 9223372036854775808 % 2 == 1) f := by
  have e1 : Ieee.double.signWeight = 9223372036854775808 := by decide
  have e2 : Ieee.double.binade = 4503599627370496 := by decide
  have e3 : Ieee.double.infRung = 9218868437227405312 := by decide
  unfold Ieee.Format.read
  simp only [e1, e2, e3]
  generalize a % 9223372036854775808 = r at *
  exact ⟨r - 9218868437227405312, by rw [if_neg (by omega), if_neg (by omega), if_neg (by omega)]⟩

/-- The number of a sign and a size. -/
def sz (s : Bool) (n : Nat) : Int := if s then -(n : Int) else n

theorem signed_scale (s : Bool) (m k c : Nat) : Ieee.signed s m k * ((2 ^ c : Nat) : Int) = sz s (m * 2 ^ (k + c)) := by
  unfold Ieee.signed sz
  cases s
  · simp only [Nat.shiftLeft_eq, Bool.false_eq_true, if_false, ← Int.natCast_mul]
    rw [Nat.mul_assoc, ← Nat.pow_add]
  · simp only [Nat.shiftLeft_eq, if_true, Int.neg_mul, ← Int.natCast_mul]
    rw [Nat.mul_assoc, ← Nat.pow_add]

theorem cmp_scale {x y : Int} {c : Nat} (hc : 0 < c) : compare x y = compare (x * (c : Int)) (y * (c : Int)) := by
  have h : (0 : Int) < (c : Int) := by omega
  refine cmp_congr ⟨fun k => Int.mul_lt_mul_of_pos_right k h, fun k => Int.lt_of_mul_lt_mul_right k (by omega)⟩ ⟨fun k => by rw [k], fun k => Int.eq_of_mul_eq_mul_right (by omega) k⟩

theorem cmp_sz (s t : Bool) (r u : Nat) : compare (sz s (M r)) (sz t (M u)) = compare (sz s r) (sz t u) := by
  have h1 := @M_lt_iff r u
  have h2 := @M_lt_iff u r
  have h0 := @M_lt_iff 0 r
  have h3 := @M_lt_iff 0 u
  rw [M_zero] at h0 h3
  apply cmp_congr
  · unfold sz; cases s <;> cases t <;> simp only [Bool.false_eq_true, if_false, if_true] <;> omega
  · unfold sz; cases s <;> cases t <;> simp only [Bool.false_eq_true, if_false, if_true] <;> omega

theorem order_numbers (s t : Bool) (m n : Nat) (i j : Int) (hi : 0 ≤ i + 1074) (hj : 0 ≤ j + 1074) :
    Ieee.Datum.order (.number s m i) (.number t n j) = some (compare (sz s (m * 2 ^ (i + 1074).toNat)) (sz t (n * 2 ^ (j + 1074).toNat))) := by
  simp only [Ieee.Datum.order]
  generalize hb : min i j = b
  have hb0 : 0 ≤ b + 1074 := by omega
  rw [cmp_scale (Nat.two_pow_pos (b + 1074).toNat), signed_scale, signed_scale]
  rw [show (i - b).toNat + (b + 1074).toNat = (i + 1074).toNat by omega, show (j - b).toNat + (b + 1074).toNat = (j + 1074).toNat by omega]

/-- How two words stand to one another. -/
theorem order_eq {a b : Int} (ha : U64 a) (hb : U64 b) :
    FloatKind.f64.format.order a.toNat b.toNat = if nanB a then none else if nanB b then none else some (compare (sv a) (sv b)) := by
  show Ieee.double.order a.toNat b.toNat = _
  obtain ⟨x, rfl⟩ := Int.eq_ofNat_of_zero_le ha.1
  obtain ⟨y, rfl⟩ := Int.eq_ofNat_of_zero_le hb.1
  have hx : x < 18446744073709551616 := by have := ha.2; omega
  have hy : y < 18446744073709551616 := by have := hb.2; omega
  clear ha hb
  have mg : ∀ z : Nat, z < 18446744073709551616 → mag (z : Int) = ((z % 9223372036854775808 : Nat) : Int) := by
    intro z hz; unfold mag; split <;> omega
  have sg : ∀ z : Nat, z < 18446744073709551616 → sv (z : Int) = sz (z / 9223372036854775808 % 2 == 1) (z % 9223372036854775808) := by
    intro z hz
    unfold sv sz
    by_cases h : 9223372036854775808 ≤ z
    · have e : (z / 9223372036854775808 % 2 == 1) = true := by rw [beq_iff_eq]; omega
      rw [e, if_pos (by omega), if_pos rfl]; omega
    · have e : (z / 9223372036854775808 % 2 == 1) = false := by rw [beq_eq_false_iff_ne]; omega
      rw [e, if_neg (by omega)]; simp only [Bool.false_eq_true, if_false]; omega
  unfold nanB Ieee.Format.order
  rw [mg x hx, mg y hy, sg x hx, sg y hy]
  simp only [Int.toNat_natCast, decide_eq_true_eq]
  rcases Nat.lt_trichotomy (x % 9223372036854775808) 9218868437227405312 with hx1 | hx1 | hx1
  · obtain ⟨m, i, hi, em, ex⟩ := read_number x hx1
    rw [ex, if_neg (by omega)]
    generalize (x / 9223372036854775808 % 2 == 1) = s
    generalize x % 9223372036854775808 = r at *
    rcases Nat.lt_trichotomy (y % 9223372036854775808) 9218868437227405312 with hy1 | hy1 | hy1
    · obtain ⟨n, j, hj, en, ey⟩ := read_number y hy1
      rw [ey, if_neg (by omega), order_numbers _ _ _ _ _ _ hi hj, em, en, cmp_sz]
    · rw [read_inf y hy1, if_neg (by omega), hy1]
      generalize (y / 9223372036854775808 % 2 == 1) = t
      simp only [Ieee.Datum.order, Option.some.injEq]
      cases t
      · exact (cmp_congr (x' := 0) (y' := 1) (by unfold sz; cases s <;> simp <;> omega) (by unfold sz; cases s <;> simp <;> omega)).symm
      · exact (cmp_congr (x' := 1) (y' := 0) (by unfold sz; cases s <;> simp <;> omega) (by unfold sz; cases s <;> simp <;> omega)).symm
    · obtain ⟨f, ey⟩ := read_nan y hy1
      rw [ey, if_pos (by omega)]
      rfl
  · rw [read_inf x hx1, if_neg (by omega), hx1]
    generalize (x / 9223372036854775808 % 2 == 1) = s
    rcases Nat.lt_trichotomy (y % 9223372036854775808) 9218868437227405312 with hy1 | hy1 | hy1
    · obtain ⟨n, j, hj, en, ey⟩ := read_number y hy1
      rw [ey, if_neg (by omega)]
      generalize (y / 9223372036854775808 % 2 == 1) = t
      generalize y % 9223372036854775808 = u at *
      simp only [Ieee.Datum.order, Option.some.injEq]
      cases s
      · exact (cmp_congr (x' := 1) (y' := 0) (by unfold sz; cases t <;> simp <;> omega) (by unfold sz; cases t <;> simp <;> omega)).symm
      · exact (cmp_congr (x' := 0) (y' := 1) (by unfold sz; cases t <;> simp <;> omega) (by unfold sz; cases t <;> simp <;> omega)).symm
    · rw [read_inf y hy1, if_neg (by omega), hy1]
      generalize (y / 9223372036854775808 % 2 == 1) = t
      cases s <;> cases t <;> decide
    · obtain ⟨f, ey⟩ := read_nan y hy1
      rw [ey, if_pos (by omega)]
      rfl
  · obtain ⟨f, ex⟩ := read_nan x hx1
    rw [ex, if_pos (by omega)]
    rfl

theorem cmp_lt (x y : Int) : (compare x y == .lt) = decide (x < y) := by
  simp only [compare, compareOfLessAndEq]; by_cases h : x < y <;> by_cases h2 : x = y <;> simp [h, h2]
theorem cmp_gt (x y : Int) : (compare x y == .gt) = decide (y < x) := by
  simp only [compare, compareOfLessAndEq]; by_cases h : x < y <;> by_cases h2 : x = y <;> simp [h, h2] <;> omega
theorem cmp_eq (x y : Int) : (compare x y == .eq) = decide (x = y) := by
  simp only [compare, compareOfLessAndEq]; by_cases h : x < y <;> by_cases h2 : x = y <;> simp [h, h2] <;> omega

theorem lt_test {a b : Int} (ha : U64 a) (hb : U64 b) : (FloatKind.f64.format.order a.toNat b.toNat == some .lt) = lessB a b := by
  rw [order_eq ha hb]
  unfold lessB
  cases nanB a <;> cases nanB b <;> simp [cmp_lt]
theorem gt_test {a b : Int} (ha : U64 a) (hb : U64 b) : (FloatKind.f64.format.order a.toNat b.toNat == some .gt) = lessB b a := by
  rw [order_eq ha hb]
  unfold lessB
  cases nanB a <;> cases nanB b <;> simp [cmp_gt]
theorem eq_test {a b : Int} (ha : U64 a) (hb : U64 b) : (FloatKind.f64.format.order a.toNat b.toNat == some .eq) = equalB a b := by
  rw [order_eq ha hb]
  unfold equalB
  cases nanB a <;> cases nanB b <;> simp [cmp_eq]
theorem ne_test {a b : Int} (ha : U64 a) (hb : U64 b) : (FloatKind.f64.format.order a.toNat b.toNat != some .eq) = !equalB a b := by
  unfold bne; rw [eq_test ha hb]
theorem equalB_self (a : Int) : equalB a a = !nanB a := by
  unfold equalB; cases nanB a <;> simp

end Go.Proofs.YthmocdabakkfhaaGreatDoor.Flo

/-
  What the small functions of layer 1 answer, as plain functions of integers.
-/
namespace Go.Proofs.YthmocdabakkfhaaGreatDoor.Flo
set_option maxRecDepth 100000

def kindZ (a : Int) : Int := if 9218868437227405312 < mag a then 4 else if mag a = 0 then 0 else if mag a = 9218868437227405312 then 3 else if mag a < 4503599627370496 then 1 else 2
def belowB (a : Int) : Bool := decide (9223372036854775808 ≤ a)
def canonZ (a : Int) : Int := if nanB a then 9221120237041090560 else a
def negZ (a : Int) : Int := if nanB a then 9221120237041090560 else if 9223372036854775808 ≤ a then a - 9223372036854775808 else a + 9223372036854775808
def absZ (a : Int) : Int := if nanB a then 9221120237041090560 else mag a
def beforeB (a b : Int) : Bool := if nanB a then false else if nanB b then true else if sv a = sv b then belowB a && !belowB b else decide (sv a < sv b)

theorem u64_toNat {a : Int} (h : U64 a) : a.toNat < 18446744073709551616 := by have := h.1; have := h.2; omega

theorem andNot_sign (a : Int) (h : U64 a) : bits .andNot .u64 a 9223372036854775808 = mag a := by
  obtain ⟨h0, h1⟩ := h
  rw [u64_andNot a _ h0 h1 (by decide) (by decide)]
  have e : 18446744073709551615 - (9223372036854775808 : Int).toNat = 2 ^ 63 - 1 := by decide
  rw [e, Nat.and_two_pow_sub_one_eq_mod]
  unfold mag
  split <;> omega

end Go.Proofs.YthmocdabakkfhaaGreatDoor.Flo

/-
  Plain mathematics of rounding: the nearest number, in units of 2 to the power -1374.
-/
namespace Go.Proofs.YthmocdabakkfhaaGreatDoor.Flo
set_option maxRecDepth 100000

/-- v by 2 ^ d, to the nearest, ties to even. -/
def rne (v d : Nat) : Nat := v / 2 ^ d + (if 2 ^ d < 2 * (v % 2 ^ d) ∨ (2 ^ d = 2 * (v % 2 ^ d) ∧ v / 2 ^ d % 2 = 1) then 1 else 0)
def lowest (g v : Nat) : Nat := if v < 2 ^ (g + 53) then g else v.log2 - 52
/-- The rung nearest to v units of 2 to the power (-1074 - g). -/
def rung (g v : Nat) : Nat := min ((lowest g v - g) * 4503599627370496 + rne v (lowest g v)) 9218868437227405312

theorem rne_mono {v u : Nat} (d : Nat) (h : v ≤ u) : rne v d ≤ rne u d := by
  have hp : 0 < 2 ^ d := Nat.two_pow_pos d
  have hq : v / 2 ^ d ≤ u / 2 ^ d := Nat.div_le_div_right h
  have ev := Nat.div_add_mod v (2 ^ d)
  have eu := Nat.div_add_mod u (2 ^ d)
  unfold rne
  generalize v / 2 ^ d = q at *
  generalize u / 2 ^ d = s at *
  generalize v % 2 ^ d = r at *
  generalize u % 2 ^ d = t at *
  by_cases e : q = s
  · subst e
    have hr : r ≤ t := by omega
    split <;> split <;> omega
  · split <;> split <;> omega

theorem rne_le {v d : Nat} (h : v < 2 ^ (d + 53)) : rne v d ≤ 9007199254740992 := by
  have : v / 2 ^ d < 2 ^ 53 := (Nat.div_lt_iff_lt_mul (Nat.two_pow_pos d)).2 (by rw [← Nat.pow_add, Nat.add_comm]; exact h)
  unfold rne
  split <;> omega
theorem rne_ge {v d : Nat} (h : 2 ^ (d + 52) ≤ v) : 4503599627370496 ≤ rne v d := by
  have : 2 ^ 52 ≤ v / 2 ^ d := (Nat.le_div_iff_mul_le (Nat.two_pow_pos d)).2 (by rw [← Nat.pow_add, Nat.add_comm]; exact h)
  unfold rne
  split <;> omega

theorem rne_scale (v d s : Nat) : rne (v * 2 ^ s) (d + s) = rne v d := by
  have hs : 0 < 2 ^ s := Nat.two_pow_pos s
  unfold rne
  rw [Nat.pow_add, Nat.mul_div_mul_right _ _ hs, Nat.mul_mod_mul_right]
  have e1 : 2 ^ d * 2 ^ s < 2 * (v % 2 ^ d * 2 ^ s) ↔ 2 ^ d < 2 * (v % 2 ^ d) := by
    rw [← Nat.mul_assoc]
    exact Nat.mul_lt_mul_right hs
  have e2 : 2 ^ d * 2 ^ s = 2 * (v % 2 ^ d * 2 ^ s) ↔ 2 ^ d = 2 * (v % 2 ^ d) := by
    rw [← Nat.mul_assoc]
    exact ⟨fun k => Nat.eq_of_mul_eq_mul_right hs k, fun k => congrArg (· * 2 ^ s) k⟩
  simp only [e1, e2]
theorem rne_exact (v d : Nat) : rne (v * 2 ^ d) d = v := by
  have h := rne_scale v 0 d
  rw [Nat.zero_add] at h
  rw [h]
  unfold rne
  simp [Nat.mod_one]
theorem rne_small {v d : Nat} (h : 2 * v < 2 ^ d) : rne v d = 0 := by
  unfold rne
  rw [Nat.div_eq_of_lt (by omega), Nat.mod_eq_of_lt (by omega), if_neg (by omega)]

theorem log2_bounds {v : Nat} (h : v ≠ 0) : 2 ^ v.log2 ≤ v ∧ v < 2 ^ (v.log2 + 1) := ⟨Nat.log2_self_le h, Nat.lt_log2_self⟩
theorem log2_of {v k : Nat} (h1 : 2 ^ k ≤ v) (h2 : v < 2 ^ (k + 1)) : v.log2 = k :=
  (Nat.log2_eq_iff (by have := Nat.two_pow_pos k; omega)).2 ⟨h1, h2⟩

theorem lowest_low {g v : Nat} (h : v < 2 ^ (g + 53)) : lowest g v = g := if_pos h
theorem lowest_high {g v d : Nat} (hd : g < d) (h1 : 2 ^ (d + 52) ≤ v) (h2 : v < 2 ^ (d + 53)) : lowest g v = d := by
  have h3 : 2 ^ (g + 53) ≤ 2 ^ (d + 52) := Nat.pow_le_pow_right (by decide) (by omega)
  unfold lowest
  rw [if_neg (by omega), log2_of h1 h2]
  omega

/-- Where the lowest digit that is kept lies. -/
theorem lowest_spec (g v : Nat) : g ≤ lowest g v ∧ v < 2 ^ (lowest g v + 53) ∧ (g < lowest g v → 2 ^ (lowest g v + 52) ≤ v) := by
  unfold lowest
  split
  · rename_i h
    exact ⟨Nat.le_refl _, h, fun k => absurd k (Nat.lt_irrefl _)⟩
  · rename_i h
    have hv : v ≠ 0 := by intro e; subst e; exact h (Nat.two_pow_pos _)
    obtain ⟨b1, b2⟩ := log2_bounds hv
    have hl : g + 53 ≤ v.log2 := by
      rcases Nat.lt_or_ge v.log2 (g + 53) with k | k
      · exfalso; exact h (Nat.lt_of_lt_of_le b2 (Nat.pow_le_pow_right (by decide) k))
      · exact k
    refine ⟨by omega, ?_, fun _ => ?_⟩
    · rw [show v.log2 - 52 + 53 = v.log2 + 1 by omega]; exact b2
    · rw [show v.log2 - 52 + 52 = v.log2 by omega]; exact b1

theorem ladder (g l m a b : Nat) (h1 : l = m → a ≤ b) (h2 : l < m → a ≤ 9007199254740992 ∧ 4503599627370496 ≤ b) (h3 : l ≤ m) (h4 : g ≤ l) :
    min ((l - g) * 4503599627370496 + a) 9218868437227405312 ≤ min ((m - g) * 4503599627370496 + b) 9218868437227405312 := by
  rcases Nat.lt_or_ge l m with k | k
  · obtain ⟨k1, k2⟩ := h2 k
    omega
  · have e : l = m := by omega
    have := h1 e
    subst e
    omega
theorem rung_mono (g : Nat) {v u : Nat} (h : v ≤ u) : rung g v ≤ rung g u := by
  obtain ⟨a1, a2, a3⟩ := lowest_spec g v
  obtain ⟨b1, b2, b3⟩ := lowest_spec g u
  unfold rung
  refine ladder g _ _ _ _ (fun k => ?_) (fun k => ⟨rne_le a2, rne_ge (b3 (Nat.lt_of_le_of_lt a1 k))⟩) ?_ a1
  · rw [k]
    exact rne_mono _ h
  · rcases Nat.lt_or_ge (lowest g u) (lowest g v) with k | k
    · exfalso
      have h1 := a3 (Nat.lt_of_le_of_lt b1 k)
      have h2 : 2 ^ (lowest g u + 53) ≤ 2 ^ (lowest g v + 52) := Nat.pow_le_pow_right (by decide) (by generalize lowest g u = l at k ⊢; generalize lowest g v = m at k ⊢; omega)
      exact absurd (Nat.lt_of_lt_of_le b2 (Nat.le_trans h2 (Nat.le_trans h1 h))) (Nat.lt_irrefl _)
    · exact k
theorem rung_le (g v : Nat) : rung g v ≤ 9218868437227405312 := Nat.min_le_right _ _
/-- What lies far below the least number. -/
theorem rung_tiny {g v : Nat} (h : 2 * v ≤ 2 ^ g) : rung g v = 0 := by
  have hp : 2 ^ g < 2 ^ (g + 53) := Nat.pow_lt_pow_right (by decide) (by omega)
  have h0 := Nat.two_pow_pos g
  have e : lowest g v = g := lowest_low (by omega)
  unfold rung
  rw [e]
  have : rne v g = 0 := by
    unfold rne
    rw [Nat.div_eq_of_lt (by omega), Nat.mod_eq_of_lt (by omega)]
    simp only [Nat.zero_mod]
    rw [if_neg (by omega)]
  rw [this]
  omega
/-- What is too great. -/
theorem rung_huge {g v : Nat} (h : 2 ^ (g + 2098) ≤ v) : rung g v = 9218868437227405312 := by
  have e : rung g (2 ^ (g + 2098)) = 9218868437227405312 := by
    have l : lowest g (2 ^ (g + 2098)) = g + 2046 := lowest_high (by omega) (Nat.le_refl _) (Nat.pow_lt_pow_right (by decide) (by omega))
    have r : rne (2 ^ (g + 2098)) (g + 2046) = 4503599627370496 := by
      rw [show 2 ^ (g + 2098) = 4503599627370496 * 2 ^ (g + 2046) from by rw [show g + 2098 = 52 + (g + 2046) by omega, Nat.pow_add], rne_exact]
    unfold rung
    rw [l, r]
    omega
  have h1 := rung_mono g h
  have h2 := rung_le g v
  omega
/-- Units that are finer by a power of two. -/
theorem rung_scale (g v s : Nat) : rung (g + s) (v * 2 ^ s) = rung g v := by
  obtain ⟨a1, a2, a3⟩ := lowest_spec g v
  have e : lowest (g + s) (v * 2 ^ s) = lowest g v + s := by
    have hs := Nat.two_pow_pos s
    have l2 : v * 2 ^ s < 2 ^ (lowest g v + s + 53) := by
      rw [show lowest g v + s + 53 = lowest g v + 53 + s by omega, Nat.pow_add]; exact Nat.mul_lt_mul_of_pos_right a2 hs
    rcases Nat.lt_or_ge g (lowest g v) with k | k
    · refine lowest_high (by omega) ?_ l2
      rw [show lowest g v + s + 52 = lowest g v + 52 + s by omega, Nat.pow_add]; exact Nat.mul_le_mul_right _ (a3 k)
    · have : lowest g v = g := by omega
      rw [this] at l2 ⊢
      exact lowest_low l2
  unfold rung
  rw [e, rne_scale, show lowest g v + s - (g + s) = lowest g v - g by omega]

/-! The length of a number in bits. -/
/-! What the code reckons. -/
def roundedN (f d : Nat) (more : Bool) : Nat := if 64 < d then 0 else f / 2 ^ d + (if 2 ^ (d - 1) < f % 2 ^ d ∨ (f % 2 ^ d = 2 ^ (d - 1) ∧ (more = true ∨ f / 2 ^ d % 2 = 1)) then 1 else 0)

end Go.Proofs.YthmocdabakkfhaaGreatDoor.Flo

/-
  Plain mathematics: the rung of a whole number times a power of two.
-/
namespace Go.Proofs.YthmocdabakkfhaaGreatDoor.Flo
set_option maxRecDepth 100000

/-- How many places below the least number's place the units lie. -/
def G : Nat := 300
theorem scaled_lt {n L E : Nat} (h : n < 2 ^ L) : n * 2 ^ E < 2 ^ (L + E) := by
  rw [Nat.pow_add]; exact Nat.mul_lt_mul_of_pos_right h (Nat.two_pow_pos E)
theorem scaled_ge {n L E : Nat} (h : 2 ^ L ≤ n) : 2 ^ (L + E) ≤ n * 2 ^ E := by
  rw [Nat.pow_add]; exact Nat.mul_le_mul_right _ h

theorem rne_up {n E d : Nat} (h : d ≤ E) : rne (n * 2 ^ E) d = n * 2 ^ (E - d) := by
  have e : n * 2 ^ E = n * 2 ^ (E - d) * 2 ^ d := by rw [Nat.mul_assoc, ← Nat.pow_add, show E - d + d = E by omega]
  rw [e, rne_exact]
theorem rne_down {n E d : Nat} (h : E ≤ d) : rne (n * 2 ^ E) d = rne n (d - E) := by
  have e := rne_scale n (d - E) E
  rw [show d - E + E = d by omega] at e
  exact e

theorem low_a {g n L E : Nat} (h : n < 2 ^ L) (hc : L + E ≤ g + 53) : lowest g (n * 2 ^ E) = g :=
  lowest_low (Nat.lt_of_lt_of_le (scaled_lt h) (Nat.pow_le_pow_right (by decide) hc))
theorem low_b {g n L E : Nat} (h0 : 2 ^ L ≤ n) (h : n < 2 ^ (L + 1)) (hc : g + 53 ≤ L + 1 + E) : lowest g (n * 2 ^ E) = L + 1 + E - 53 := by
  rcases Nat.lt_or_ge (g + 53) (L + 1 + E) with k | k
  · refine lowest_high (by omega) ?_ ?_
    · rw [show L + 1 + E - 53 + 52 = L + E by omega]; exact scaled_ge h0
    · rw [show L + 1 + E - 53 + 53 = L + 1 + E by omega]; exact scaled_lt h
  · rw [low_a h (by omega)]; omega

/-- The four ways, in the code's own words. -/
theorem rung_a0 {g n L E : Nat} (h0 : 2 ^ L ≤ n) (h : n < 2 ^ (L + 1)) (hc : g + 53 ≤ L + 1 + E) (hl : L + 1 ≤ 53) :
    rung g (n * 2 ^ E) = min ((L + 1 + E - 53 - g) * 4503599627370496 + n * 2 ^ (53 - (L + 1))) 9218868437227405312 := by
  unfold rung
  rw [low_b h0 h hc, rne_up (by omega), show E - (L + 1 + E - 53) = 53 - (L + 1) by omega]
theorem rung_a1 {g n L E : Nat} (h0 : 2 ^ L ≤ n) (h : n < 2 ^ (L + 1)) (hc : g + 53 ≤ L + 1 + E) (hl : 53 ≤ L + 1) :
    rung g (n * 2 ^ E) = min ((L + 1 + E - 53 - g) * 4503599627370496 + rne n (L + 1 - 53)) 9218868437227405312 := by
  unfold rung
  rw [low_b h0 h hc, rne_down (by omega), show L + 1 + E - 53 - E = L + 1 - 53 by omega]
theorem rung_b0 {g n L E : Nat} (h : n < 2 ^ L) (hc : L + E ≤ g + 53) (hl : g ≤ E) :
    rung g (n * 2 ^ E) = min (n * 2 ^ (E - g)) 9218868437227405312 := by
  unfold rung
  rw [low_a h hc, rne_up hl, Nat.sub_self, Nat.zero_mul, Nat.zero_add]
theorem rung_b1 {g n L E : Nat} (h : n < 2 ^ L) (hc : L + E ≤ g + 53) (hl : E ≤ g) :
    rung g (n * 2 ^ E) = min (rne n (g - E)) 9218868437227405312 := by
  unfold rung
  rw [low_a h hc, rne_down hl, Nat.sub_self, Nat.zero_mul, Nat.zero_add]

end Go.Proofs.YthmocdabakkfhaaGreatDoor.Flo

/-
  Plain mathematics of digits of 16 bits. No Go in sight.
-/
namespace Go.Proofs.YthmocdabakkfhaaGreatDoor.Dg
set_option maxRecDepth 100000

/-- What digits stand for, the lowest first. -/
def val : List Nat → Nat
  | [] => 0
  | d :: r => d + 65536 * val r
def dig (n i : Nat) : Nat := n / 65536 ^ i % 65536
/-- How many digits a number has. -/
def dlen (n : Nat) : Nat := if n = 0 then 0 else n.log2 / 16 + 1
def Small16 (ds : List Nat) : Prop := ∀ d ∈ ds, d < 65536

theorem dig_lt (n i : Nat) : dig n i < 65536 := Nat.mod_lt _ (by decide)
theorem dig_zero (i : Nat) : dig 0 i = 0 := by unfold dig; simp
theorem pow16 (k : Nat) : 65536 ^ k = 2 ^ (16 * k) := by rw [Nat.pow_mul]

theorem val_dig : ∀ (ds : List Nat) (i : Nat), Small16 ds → ds.getD i 0 = dig (val ds) i := by
  intro ds
  induction ds with
  | nil => intro i _; simp [val, dig_zero]
  | cons d r ih =>
    intro i hs
    have hd : d < 65536 := hs d (by simp)
    cases i with
    | zero => simp only [List.getD_cons_zero, val, dig, Nat.pow_zero, Nat.div_one]; omega
    | succ i =>
      rw [List.getD_cons_succ, ih i (fun x hx => hs x (by simp [hx]))]
      show dig (val r) i = dig (d + 65536 * val r) (i + 1)
      unfold dig
      rw [Nat.pow_succ', ← Nat.div_div_eq_div_mul, show (d + 65536 * val r) / 65536 = val r by omega]
theorem val_getElem {ds : List Nat} {i : Nat} (hs : Small16 ds) (h : i < ds.length) : ds[i] = dig (val ds) i := by
  rw [← val_dig ds i hs, List.getD_eq_getElem?_getD, List.getElem?_eq_getElem h]; rfl
theorem val_lt : ∀ (ds : List Nat), Small16 ds → val ds < 65536 ^ ds.length := by
  intro ds
  induction ds with
  | nil => intro _; simp [val]
  | cons d r ih =>
    intro hs
    have hd : d < 65536 := hs d (by simp)
    have := ih (fun x hx => hs x (by simp [hx]))
    rw [List.length_cons, Nat.pow_succ']
    unfold val
    omega
theorem val_append : ∀ (xs ys : List Nat), val (xs ++ ys) = val xs + 65536 ^ xs.length * val ys := by
  intro xs ys
  induction xs with
  | nil => simp [val]
  | cons d r ih =>
    rw [List.cons_append, val, val, ih, List.length_cons, Nat.pow_succ', Nat.mul_add, Nat.mul_assoc, Nat.add_assoc]
theorem val_snoc (xs : List Nat) (d : Nat) : val (xs ++ [d]) = val xs + 65536 ^ xs.length * d := by
  rw [val_append]; simp [val]
theorem val_take (ds : List Nat) (k : Nat) (hs : Small16 ds) (hk : k ≤ ds.length) : val (ds.take k) = val ds % 65536 ^ k := by
  have h := val_append (ds.take k) (ds.drop k)
  rw [List.take_append_drop, List.length_take, Nat.min_eq_left hk] at h
  have hl := val_lt (ds.take k) (fun x hx => hs x (List.mem_of_mem_take hx))
  rw [List.length_take, Nat.min_eq_left hk] at hl
  rw [h, Nat.add_mul_mod_self_left, Nat.mod_eq_of_lt hl]
theorem small_take {ds : List Nat} (k : Nat) (hs : Small16 ds) : Small16 (ds.take k) := fun x hx => hs x (List.mem_of_mem_take hx)
theorem small_snoc {ds : List Nat} {d : Nat} (hs : Small16 ds) (hd : d < 65536) : Small16 (ds ++ [d]) := by
  intro x hx
  rcases List.mem_append.1 hx with h | h
  · exact hs x h
  · simp at h; omega
theorem val_replicate (k : Nat) : val (List.replicate k 0) = 0 := by
  induction k with
  | zero => rfl
  | succ k ih => rw [List.replicate_succ, val, ih]
theorem small_replicate (k : Nat) : Small16 (List.replicate k 0) := by
  intro x hx
  rw [List.eq_of_mem_replicate hx]; decide

/-! Digits by their number. -/
theorem dig_step (n i : Nat) : n % 65536 ^ (i + 1) = n % 65536 ^ i + 65536 ^ i * dig n i := by
  unfold dig
  rw [Nat.pow_succ, Nat.mod_mul]
theorem dig_ge {n i : Nat} (h : n < 65536 ^ i) : dig n i = 0 := by
  unfold dig; rw [Nat.div_eq_of_lt h]
theorem lt_of_dig {n i : Nat} (h : n < 65536 ^ (i + 1)) (h0 : dig n i = 0) : n < 65536 ^ i := by
  have := dig_step n i
  rw [h0, Nat.mod_eq_of_lt h] at this
  rw [this]
  exact Nat.mod_lt _ (Nat.pow_pos (by decide))
theorem ge_of_dig {n i : Nat} (h0 : dig n i ≠ 0) : 65536 ^ i ≤ n := by
  rcases Nat.lt_or_ge n (65536 ^ i) with h | h
  · exact absurd (dig_ge h) h0
  · exact h

theorem dlen_ge {n k : Nat} (h : 65536 ^ k ≤ n) : k < dlen n := by
  have hn : n ≠ 0 := by have : 0 < 65536 ^ k := Nat.pow_pos (by decide); omega
  unfold dlen
  rw [if_neg hn]
  rw [pow16] at h
  have := (Nat.le_log2 hn).2 h
  omega
theorem dlen_le {n k : Nat} (h : n < 65536 ^ k) : dlen n ≤ k := by
  unfold dlen
  split
  · omega
  · rename_i hn
    rw [pow16] at h
    have := (Nat.log2_lt hn).2 h
    omega
theorem dlen_eq {n k : Nat} (h : n < 65536 ^ k) (h2 : k = 0 ∨ dig n (k - 1) ≠ 0) : k = dlen n := by
  have h1 := dlen_le h
  rcases h2 with h2 | h2
  · omega
  · rcases Nat.eq_zero_or_pos k with k0 | k0
    · omega
    · have := dlen_ge (ge_of_dig h2); omega
end Go.Proofs.YthmocdabakkfhaaGreatDoor.Dg

/-
  Digits in memory, and the walks of the reference's smallest functions over them: at, most, Trim.
-/
namespace Go.Proofs.YthmocdabakkfhaaGreatDoor
set_option maxRecDepth 100000
open Go.RowKit Dg

theorem infoU : (Tryz.prog.info? 34).map (fun i => (i.zero, i.size, i.bytes)) = some (some (.int .u64 0), 1, 8) := by kernel_rfl

def cells (ds : List Nat) : List Value := ds.map fun (d : Nat) => Value.int .u64 (d : Int)
/-- The slice v holds digits of the number n, l of them. -/
def D (w : World) (v : Value) (n l : Nat) : Prop :=
  ∃ (ds : List Nat) (g cap : Nat), v = .slice (some ⟨g, 0, none⟩) l cap ∧ ds.length = l ∧ Small16 ds ∧ val ds = n ∧ w.ownsRow 0 34 1 v l (cells ds)

theorem ownsRow_below {w w' : World} {B e s n : Nat} {v : Value} {xs : List Value} (h : w.ownsRow 0 e s v n xs) (hb : Below B w w') (hB : w.heap.size ≤ B) : w'.ownsRow 0 e s v n xs := by
  refine ⟨h.1, ?_⟩
  rcases h.2 with hn | ⟨g, cap, cur, rfl, h0, hg, rest⟩
  · exact .inl hn
  · refine .inr ⟨g, cap, cur, rfl, h0, ?_, rest⟩
    rw [hb.block g (Nat.lt_of_lt_of_le (Array.getElem?_eq_some_iff.1 hg).1 hB)]
    exact hg
theorem D.below {w w' : World} {v : Value} {n l : Nat} (h : D w v n l) (hb : Below w.heap.size w w') : D w' v n l := by
  obtain ⟨ds, g, cap, h1, h2, h3, h4, h5⟩ := h
  exact ⟨ds, g, cap, h1, h2, h3, h4, ownsRow_below h5 hb (Nat.le_refl _)⟩
theorem D.lt {w : World} {v : Value} {n l : Nat} (h : D w v n l) : n < 65536 ^ l := by
  obtain ⟨ds, g, cap, h1, h2, h3, h4, h5⟩ := h
  rw [← h4, ← h2]; exact val_lt ds h3
/-- What a walk wants to know of it. -/
theorem D.shape {w : World} {v : Value} {n l : Nat} (h : D w v n l) : ∃ g cap, v = .slice (some ⟨g, 0, none⟩) l cap ∧ g < w.heap.size ∧ l ≤ cap ∧ cap ≤ maxLen ∧ ∀ i, i < l → w.cell? ⟨g, i, none⟩ = some (.int .u64 (dig n i : Nat)) := by
  obtain ⟨ds, g, cap, rfl, h2, h3, h4, h5⟩ := h
  have hb := h5.lt g rfl
  refine ⟨g, cap, rfl, hb.2, ?_, ?_, ?_⟩
  · rcases h5.2 with ⟨k, _⟩ | ⟨g', cap', cur, e, _, _, r1, r2, _⟩
    · simp at k
    · simp at e; omega
  · rcases h5.2 with ⟨k, _⟩ | ⟨g', cap', cur, e, _, _, r1, r2, _⟩
    · simp at k
    · simp at e; rw [e.2]; exact r2
  · intro i hi
    have hi2 : i < ds.length := by omega
    rw [h5.cellAt i (by omega), cells, List.getElem?_map, List.getElem?_eq_getElem hi2, val_getElem h3 hi2, h4]
    rfl

theorem at_any (v : Value) (n l : Nat) (i : Int) (w : World) (hD : D w v n l) (h0 : 0 ≤ i) :
    Calls Tryz.prog 93 #[v, .int .i64 i] w fun e w' => e = .returned (.int .u64 (dig n i.toNat : Nat)) ∧ w' = w := by
  obtain ⟨g, cap, rfl, hg, hlc, hcm, hcell⟩ := hD.shape
  have hlt := hD.lt
  unfold maxLen at hcm
  obtain ⟨k, rfl⟩ := Int.eq_ofNat_of_zero_le h0
  rw [Int.toNat_natCast]
  by_cases c : k < l
  · have hc := hcell k c
    clear hcell hlt
    generalize dig n k = d at *
    go_enter Tryz.func93, Tryz.ntmps93
    go_wp2
    go_ret
    exact ⟨rfl, rfl⟩
  · have hz : dig n k = 0 := dig_ge (Nat.lt_of_lt_of_le hlt (Nat.pow_le_pow_right (by decide) (by omega)))
    rw [hz]
    clear hcell hlt hz
    go_enter Tryz.func93, Tryz.ntmps93
    go_wp2
    go_ret
    exact ⟨rfl, rfl⟩

/-- The slice of no digits. -/
theorem D_empty (w : World) : D (w.alloc (.cells #[] 34)) (.slice (some ⟨w.heap.size, 0, none⟩) 0 0) 0 0 :=
  ⟨[], w.heap.size, 0, rfl, rfl, by intro x hx; simp at hx, rfl, World.ownsRow_made w #[] 0 (Nat.zero_le _) (by decide) rfl⟩

theorem cells_take (ds : List Nat) (k : Nat) : cells (ds.take k) = (cells ds).take k := by unfold cells; rw [List.map_take]
theorem cells_length (ds : List Nat) : (cells ds).length = ds.length := by unfold cells; simp
theorem cells_one (ds : List Nat) : ∀ u ∈ cells ds, u.oneCell' = true := by
  intro u hu
  unfold cells at hu
  obtain ⟨d, _, rfl⟩ := List.mem_map.1 hu
  rfl
/-- A made row, seen as digits. -/
theorem D.of_own {w : World} {v : Value} {ds : List Nat} {l : Nat} (h : w.ownsRow 0 34 1 v l (cells ds)) (hn : v ≠ .slice none 0 0) (hs : Small16 ds) : D w v (val ds) l := by
  have hl : ds.length = l := by have := h.1; rw [cells_length] at this; omega
  rcases h.2 with ⟨k, _⟩ | ⟨g, cap, cur, e, _⟩
  · exact absurd k hn
  · exact ⟨ds, g, cap, e, hl, hs, rfl, h⟩

theorem news_of_own {w : World} {g l cap k : Nat} {ds : List Nat} (h : w.ownsRow 0 34 1 (.slice (some ⟨g, 0, none⟩) l cap) l (cells ds)) (o : Obj) :
    ∀ j u, (cells (ds.take k))[j]? = some u → (w.alloc o).cell? ((⟨g, 0, none⟩ : Addr).add j) = some u := by
  intro j u hu
  refine (h.alloc o).cells (g := g) rfl j u ?_
  rw [cells_take, List.getElem?_take] at hu
  split at hu
  · exact hu
  · cases hu

theorem D.of_own_pos {w : World} {v : Value} {ds : List Nat} {l : Nat} (h : w.ownsRow 0 34 1 v l (cells ds)) (hn : 0 < l) (hs : Small16 ds) : D w v (val ds) l := by
  refine D.of_own h ?_ hs
  intro e
  rcases h.2 with ⟨_, k⟩ | ⟨g, cap, cur, e', _⟩
  · omega
  · rw [e] at e'; cases e'
/-- Behind an append onto a slice that was just made. -/
theorem below_fresh {w w1 : World} {o : Obj} {n c : Nat} (h : (w.alloc o).grownBy w1 (Value.ownBlock (.slice (some ⟨w.heap.size, 0, none⟩) n c))) : Below w.heap.size w w1 :=
  ((Below.refl w.heap.size w).alloc (Nat.le_refl _) o).grown h (by simp) (by intro k hk; simp [Value.ownBlock] at hk; omega)
theorem trim_close {w w1 : World} {v' : Value} {ds : List Nat} {n k : Nat} {o : Obj} (hown : w1.ownsRow 0 34 1 v' (k + 1) (cells (ds.take (k + 1))))
    (hgrow : (w.alloc o).grownBy w1 (Value.ownBlock (.slice (some ⟨w.heap.size, 0, none⟩) 0 0))) (hs : Small16 (ds.take (k + 1))) (hv : val (ds.take (k + 1)) = n ∧ k + 1 = dlen n) :
    D w1 v' n (dlen n) ∧ Below w.heap.size w w1 := by
  have hd := D.of_own_pos hown (by omega) hs
  rw [hv.1, hv.2] at hd
  exact ⟨hd, below_fresh hgrow⟩

set_option maxHeartbeats 400000 in
theorem trim_any (v : Value) (n l : Nat) (w : World) (hD : D w v n l) (hl : l ≤ 1073741824) :
    Calls Tryz.prog 91 #[v] w fun e w' => ∃ v', e = .returned v' ∧ D w' v' n (dlen n) ∧ Below w.heap.size w w' := by
  have hsh := hD.shape
  have hlt := hD.lt
  obtain ⟨ds, g, cap, rfl, hlen, hsm, hval, hown⟩ := hD
  obtain ⟨g', cap', hv', hg, hlc, hcm, hcell⟩ := hsh
  obtain ⟨rfl, rfl⟩ : g = g' ∧ cap = cap' := by simpa using hv'
  clear hv'
  unfold maxLen at hcm
  obtain ⟨i0, hi, hz0, hz1, hz2⟩ := info_parts infoU
  go_enter Tryz.func91, Tryz.ntmps91
  go_wp2
  go_loop [3] (fun t => ∃ k : Nat, k ≤ l ∧ t = .int .i64 k ∧ n < 65536 ^ k) (fun t => (intOf t).toNat)
  case atStart => exact ⟨l, Nat.le_refl _, rfl, hlt⟩
  case round =>
    obtain ⟨k, hk, rfl, hn⟩ := hrel
    cases k with
    | zero =>
      have hz : n = 0 := by simpa using hn
      clear hcell
      go_wp2
      go_ret
      refine ⟨_, rfl, ?_, (Below.refl _ _).alloc (Nat.le_refl _) _⟩
      exact D_empty w
    | succ k =>
      have hc := hcell k (by omega)
      clear hcell
      by_cases c : dig n k = 0
      · rw [c] at hc
        go_wp2
        go_round
        case rel => exact ⟨k, by omega, by go_num, lt_of_dig hn c⟩
        case measure => simp [intOf]
      · have hcz : (((dig n k : Nat) : Int) == 0) = false := by rw [beq_eq_false_iff_ne]; omega
        have hds : (cells (ds.take (k + 1))).length = (k + 1) * 1 := by rw [cells_length, List.length_take]; omega
        have HN : Hid (∀ j u, (cells (ds.take (k + 1)))[j]? = some u → (w.alloc (.cells #[] 34)).cell? ((⟨g, 0, none⟩ : Addr).add j) = some u) := news_of_own hown _
        have hm : (w.alloc (.cells #[] 34)).ownsRow 0 34 1 (.slice (some ⟨w.heap.size, 0, none⟩) 0 0) 0 [] := World.ownsRow_made w #[] 0 (Nat.zero_le _) (by decide) rfl
        have h1 := cells_one (ds.take (k + 1))
        have hv : val (ds.take (k + 1)) = n := by rw [val_take ds (k + 1) hsm (by omega), hval, Nat.mod_eq_of_lt hn]
        have hlast : k + 1 = dlen n := dlen_eq hn (Or.inr (by simpa using c))
        have HV : Hid (val (ds.take (k + 1)) = n ∧ k + 1 = dlen n) := ⟨hv, hlast⟩
        have hs := small_take (k + 1) hsm
        clear hv hlast
        go_wp2_with (at_builtin; refine wpList_append_own _ rfl _ _ 63 rfl 0 34 i0 (.int .u64 0) 1 8 Tryz.underlying63 hi hz0 hz1 hz2 rfl (by decide) _ 0 [] rfl hm ⟨g, 0, none⟩ (k + 1) cap (cells (ds.take (k + 1))) rfl hds HN.out h1 (by unfold maxLen; omega) (by omega) (by simp) ?_)
        intro v' w1 hown' hgrow _
        have R := trim_close hown' hgrow hs HV.out
        clear hown' hgrow
        go_wp2
        go_ret
        exact ⟨_, rfl, R⟩

end Go.Proofs.YthmocdabakkfhaaGreatDoor
