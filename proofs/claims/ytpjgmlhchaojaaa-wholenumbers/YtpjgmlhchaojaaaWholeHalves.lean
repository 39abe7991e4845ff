/-
  The reference's halves: the whole part of a number, whether there is a rest, how it stands to a half.
-/
import Derived.Test.YtpjgmlhchaojaaaWholeMath
namespace Go.Proofs.Ytpjgmlhchaojaaa
open Go.RowKit Dg Flo

theorem cmp_scale {n m c : Nat} (hc : 0 < c) : cmpZ (n * c) (m * c) = cmpZ n m := by
  unfold cmpZ
  by_cases h1 : n < m
  · rw [if_pos h1, if_pos (Nat.mul_lt_mul_of_pos_right h1 hc)]
  · rw [if_neg h1, if_neg (by have := Nat.mul_le_mul_right c (Nat.le_of_not_lt h1); omega)]
    by_cases h2 : n = m
    · rw [h2]; simp
    · rw [if_neg h2, if_neg (by intro h; exact h2 (Nat.mul_right_cancel hc h))]

theorem down_nat (v : Value) (n l k W : Nat) (K : Int) (lost : Bool) (w : World) (hK : K = (k : Int)) (hW : n / 2 ^ k = W) (hl' : decide (n % 2 ^ k ≠ 0) = lost) (hD : D w v n l) (hl : l ≤ 268435456) (hk : k ≤ 1073741824) :
    Calls Try.prog 48 #[v, .int .i64 K] w fun e w' => ∃ v', e = .returned (.tuple #[v', .bool lost]) ∧ D w' v' W (dlen W) ∧ Below w.heap.size w w' := by
  rw [hK, ← hW, ← hl']; exact down_any v n l k w hD hl hk

theorem halves_up (a E : Int) (f i : Nat) (w : World) (ha : U64 a) (p2 : pexp a = E) (p3 : pfrac a = (f : Int)) (hf : f < 9007199254740992) (hE1 : 0 ≤ E) (hE2 : E ≤ 971) (hi : E = (i : Int)) :
    Calls Try.prog 34 #[.int .u64 a] w fun e w' => ∃ v', e = .returned (.tuple #[v', .bool false, .int .i64 (-1)]) ∧ D w' v' (f * 2 ^ i) (dlen (f * 2 ^ i)) ∧ Below w.heap.size w w' := by
  have P1 := fun w => refParts_any a w ha
  rw [p2, p3] at P1
  have HP1 : Hid _ := P1
  have HI : Hid (E = (i : Int)) := hi
  clear P1 p2 p3 hi
  go_enter Try.func34, Try.ntmps34
  go_wp2_with fail
  refine (HP1.out _).mono ?_
  rintro e w' ⟨rfl, hw'⟩
  rw [hw']
  clear hw' w'
  go_wp2_with fail
  refine (digits_any f _ (by omega)).mono ?_
  rintro e w1 ⟨v1, rfl, hd1, hb1⟩
  go_wp2_with fail
  refine (up_nat _ f 4 i _ _ HI.out hd1 (by decide) (by have := HI.out; omega)).mono ?_
  rintro e w2 ⟨v2, rfl, hd2, hb2⟩
  replace hb2 := hb1.trans (hb2.mono hb1.size)
  clear hd1 hb1
  go_wp2
  go_ret3
  exact ⟨v2, rfl, hd2, hb2⟩

theorem halves_down (a E : Int) (f k : Nat) (w : World) (ha : U64 a) (p2 : pexp a = E) (p3 : pfrac a = (f : Int)) (hf : f < 9007199254740992) (hE1 : -1074 ≤ E) (hE2 : E < 0) (hk : E = -(k : Int)) :
    Calls Try.prog 34 #[.int .u64 a] w fun e w' => ∃ v', e = .returned (.tuple #[v', .bool (decide (f % 2 ^ k ≠ 0)), .int .i64 (cmpZ (2 * (f % 2 ^ k)) (2 ^ k))]) ∧ D w' v' (f / 2 ^ k) (dlen (f / 2 ^ k)) ∧ Below w.heap.size w w' := by
  have P1 := fun w => refParts_any a w ha
  rw [p2, p3] at P1
  have HP1 : Hid _ := P1
  have HK : Hid (E = -(k : Int)) := hk
  have k1 : k ≤ 1074 := by omega
  have f53 : f < 2 ^ 53 := by omega
  have l1 : dlen (f / 2 ^ k) ≤ 1001 := Nat.le_trans (dlen_mono (Nat.div_le_self _ _)) (dlen_pow f53 (by decide))
  have e1 : f / 2 ^ k * 2 ^ k ≤ f := Nat.div_mul_le_self _ _
  have l2 : dlen (f / 2 ^ k * 2 ^ k) ≤ 1001 := Nat.le_trans (dlen_mono e1) (dlen_pow f53 (by decide))
  have e2 : f - f / 2 ^ k * 2 ^ k = f % 2 ^ k := by
    have := Nat.div_add_mod f (2 ^ k)
    rw [Nat.mul_comm] at this
    omega
  have l3 : dlen (f % 2 ^ k) ≤ 1001 := Nat.le_trans (dlen_mono (Nat.mod_le _ _)) (dlen_pow f53 (by decide))
  have l4 : dlen (f % 2 ^ k * 2 ^ 1) ≤ 1001 := Nat.le_trans (dlen_mono (m := 2 ^ 54) (by have := Nat.mod_le f (2 ^ k); omega)) (by decide)
  have l5 : dlen (1 * 2 ^ k) ≤ 1001 := dlen_pow (K := k + 1) (by rw [Nat.one_mul, Nat.pow_succ]; have := Nat.two_pow_pos k; omega) (by omega)
  have e3 : f % 2 ^ k * 2 ^ 1 = 2 * (f % 2 ^ k) := by rw [Nat.pow_one, Nat.mul_comm]
  have e4 : 1 * 2 ^ k = 2 ^ k := Nat.one_mul _
  clear P1 p2 p3 hk
  rw [e3] at l4
  rw [e4] at l5
  have HL : Hid (decide (f % 2 ^ k ≠ 0) = decide (f % 2 ^ k ≠ 0)) := rfl
  generalize hLL : decide (f % 2 ^ k ≠ 0) = lost at *
  have HLL : Hid (decide (f % 2 ^ k ≠ 0) = lost) := hLL
  have HC : Hid (cmpZ (2 * (f % 2 ^ k)) (2 ^ k) = cmpZ (2 * (f % 2 ^ k)) (2 ^ k)) := rfl
  generalize hCC : cmpZ (2 * (f % 2 ^ k)) (2 ^ k) = C at *
  have HCC : Hid (cmpZ (2 * (f % 2 ^ k)) (2 ^ k) = C) := hCC
  clear HL HC hLL hCC
  have HW : Hid (∃ W, f / 2 ^ k = W) := ⟨_, rfl⟩
  obtain ⟨W, hW⟩ := HW.out
  obtain ⟨R, hR⟩ : ∃ R, f % 2 ^ k = R := ⟨_, rfl⟩
  obtain ⟨P, hP⟩ : ∃ P, 2 ^ k = P := ⟨_, rfl⟩
  have E1 : Hid (W * 2 ^ k ≤ f) := by rw [← hW]; exact e1
  have E2 : Hid (f - W * 2 ^ k = R) := by rw [← hW, ← hR]; exact e2
  have E3 : Hid (R * 2 ^ 1 = 2 * R) := by rw [← hR]; exact e3
  have HCP : Hid (cmpZ (2 * R) (1 * 2 ^ k) = C) := by rw [← hR, Nat.one_mul]; exact HCC.out
  have HWE : Hid (f / 2 ^ k = W) := hW
  rw [hW] at l1 l2 ⊢
  rw [hR] at l3 l4
  have L5 : Hid (dlen (1 * 2 ^ k) ≤ 1001) := by rw [Nat.one_mul]; exact l5
  have L2 : Hid (dlen (W * 2 ^ k) ≤ 1001) := l2
  clear e1 e2 e3 e4 HCC HW hW hR hP P l5 l2
  go_enter Try.func34, Try.ntmps34
  go_wp2_with fail
  refine (HP1.out _).mono ?_
  rintro e w' ⟨rfl, hw'⟩
  rw [hw']
  clear hw' w'
  go_wp2_with fail
  refine (digits_any f _ (by omega)).mono ?_
  rintro e w1 ⟨v1, rfl, hd1, hb1⟩
  go_wp2_with fail
  refine (down_nat _ f 4 k W _ lost _ (by have := HK.out; omega) HWE.out HLL.out hd1 (by decide) (by omega)).mono ?_
  rintro e w2 ⟨v2, rfl, hd2, hb2⟩
  replace hb2 := hb1.trans (hb2.mono hb1.size)
  clear hd1 hb1
  go_wp2_with fail
  refine (digits_any f _ (by omega)).mono ?_
  rintro e w3 ⟨v3, rfl, hd3, hb3⟩
  have hd4 := hd2.below hb3
  replace hb3 := hb2.trans (hb3.mono hb2.size)
  clear hd2 hb2
  go_wp2_with fail
  refine (up_nat _ W _ k _ _ (by have := HK.out; omega) hd4 (by omega) (by omega)).mono ?_
  rintro e w4 ⟨v4, rfl, hd5, hb4⟩
  have hd6 := hd3.below hb4
  have hd7 := hd4.below hb4
  replace hb4 := hb3.trans (hb4.mono hb3.size)
  clear hd3 hd4 hb3
  go_wp2_with fail
  refine (minus_any _ _ f 4 (W * 2 ^ k) _ _ hd6 hd5 (by decide) E1.out).mono ?_
  rintro e w5 ⟨v5, rfl, hd8, hb5⟩
  rw [E2.out] at hd8
  have hd9 := hd7.below hb5
  replace hb5 := hb4.trans (hb5.mono hb4.size)
  clear hd5 hd6 hd7 hb4
  go_wp2_with fail
  refine (up_nat _ R _ 1 _ _ rfl hd8 (by omega) (by decide)).mono ?_
  rintro e w6 ⟨v6, rfl, hd10, hb6⟩
  rw [E3.out] at hd10
  have hd11 := hd9.below hb6
  replace hb6 := hb5.trans (hb6.mono hb5.size)
  clear hd8 hd9 hb5
  have hx1 := hd10.below ((Below.refl w6.heap.size w6).alloc (Nat.le_refl _) (.cells #[.int .u64 ((1 : Nat) : Int)] 22))
  have hx2 := hd11.below ((Below.refl w6.heap.size w6).alloc (Nat.le_refl _) (.cells #[.int .u64 ((1 : Nat) : Int)] 22))
  have hx3 := D_one w6 1 (by decide)
  have hb7 : Below w.heap.size w (w6.alloc (.cells #[.int .u64 ((1 : Nat) : Int)] 22)) := hb6.alloc hb6.size _
  clear hd10 hd11 hb6
  go_wp2_with fail
  refine (up_nat _ 1 1 k _ _ (by have := HK.out; omega) hx3 (by decide) (by omega)).mono ?_
  rintro e w7 ⟨v7, rfl, hd12, hb8⟩
  have hd13 := hx1.below hb8
  have hd14 := hx2.below hb8
  replace hb8 := hb7.trans (hb8.mono hb7.size)
  clear hx1 hx2 hx3 hb7
  go_wp2_with fail
  refine (cmp_any _ _ _ _ _ _ _ hd13 hd12 (by omega) (by have := L5.out; omega)).mono ?_
  rintro e w' ⟨rfl, hw'⟩
  rw [hw']
  clear hw' w'
  rw [HCP.out]
  go_wp2
  go_ret3
  exact ⟨v2, rfl, hd14, hb8⟩

/-- halves of any finite number. -/
theorem halves_any (a : Int) (w : World) (ha : U64 a) (h : mag a < 9218868437227405312) :
    Calls Try.prog 34 #[.int .u64 a] w fun e w' => ∃ v', e = .returned (.tuple #[v', .bool (decide (MZ a % UN ≠ 0)), .int .i64 (cmpZ (2 * (MZ a % UN)) UN)]) ∧ D w' v' (MZ a / UN) (dlen (MZ a / UN)) ∧ Below w.heap.size w w' := by
  obtain ⟨f, f1, f2, f3, f4, f5⟩ := parts_fin ha h
  by_cases c : 0 ≤ pexp a
  · obtain ⟨i, hi⟩ := Int.eq_ofNat_of_zero_le c
    have k := halves_up a (pexp a) f i w ha rfl f1 f2 c f4 hi
    have e : MZ a = f * 2 ^ i * UN := by
      have ex : (pexp a + 1074).toNat = i + OP := by rw [OP_eq]; omega
      rw [← f5, UN_eq, Nat.mul_assoc, ← Nat.pow_add, ex]
    have e1 : MZ a % UN = 0 := by rw [e]; exact Nat.mul_mod_left _ _
    have e2 : MZ a / UN = f * 2 ^ i := by rw [e]; exact Nat.mul_div_cancel _ UN_pos
    have e3 : cmpZ (2 * 0) UN = -1 := by
      unfold cmpZ; rw [if_pos UN_pos]
    rw [e1, e2, e3]
    exact k
  · obtain ⟨j, hj⟩ := Int.eq_ofNat_of_zero_le (show 0 ≤ -pexp a by omega)
    have k := halves_down a (pexp a) f j w ha rfl f1 f2 f3 (by omega) (by omega)
    have hU : UN = 2 ^ j * 2 ^ (OP - j) := by
      have : j ≤ OP := by rw [OP_eq]; omega
      rw [UN_eq, ← Nat.pow_add, show j + (OP - j) = OP by omega]
    have e : MZ a = f * 2 ^ (OP - j) := by
      have ex : (pexp a + 1074).toNat = OP - j := by rw [OP_eq]; omega
      rw [← f5, ex]
    have hp := Nat.two_pow_pos (OP - j)
    have e1 : MZ a % UN = f % 2 ^ j * 2 ^ (OP - j) := by rw [e, hU]; exact Nat.mul_mod_mul_right _ _ _
    have e2 : MZ a / UN = f / 2 ^ j := by rw [e, hU]; exact Nat.mul_div_mul_right _ _ hp
    have e3 : cmpZ (2 * (MZ a % UN)) UN = cmpZ (2 * (f % 2 ^ j)) (2 ^ j) := by
      rw [e1, hU, ← Nat.mul_assoc]; exact cmp_scale hp
    have e4 : decide (MZ a % UN ≠ 0) = decide (f % 2 ^ j ≠ 0) := by
      rw [e1]
      by_cases z : f % 2 ^ j = 0
      · rw [z]; simp
      · rw [decide_eq_true z, decide_eq_true]
        exact Nat.ne_of_gt (Nat.mul_pos (by omega) hp)
    rw [e2, e3, e4]
    exact k

end Go.Proofs.Ytpjgmlhchaojaaa
