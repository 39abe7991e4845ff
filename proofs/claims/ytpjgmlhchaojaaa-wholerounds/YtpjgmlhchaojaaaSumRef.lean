/-
  The reference of layer 2: Exact, the sum without rounding.
-/
import Derived.Test.YtpjgmlhchaojaaaSumWalk
import Derived.Test.YtpjgmlhchaojaaaFloRef2
import Derived.Test.YtpjgmlhchaojaaaDigMinus
namespace Go.Proofs.Ytpjgmlhchaojaaa
open Go.RowKit Dg Flo

theorem kind_fin {a : Int} (hm : mag a < 9218868437227405312) (h0 : 0 ≤ mag a) : (mag a = 0 ∧ kindZ a = 0) ∨ (0 < mag a ∧ mag a < 4503599627370496 ∧ kindZ a = 1) ∨ (4503599627370496 ≤ mag a ∧ kindZ a = 2) := by
  unfold kindZ
  rw [if_neg (by omega)]
  by_cases c1 : mag a = 0
  · rw [if_pos c1]; exact Or.inl ⟨c1, rfl⟩
  · rw [if_neg c1, if_neg (by omega)]
    by_cases c2 : mag a < 4503599627370496
    · rw [if_pos c2]; exact Or.inr (Or.inl ⟨by omega, c2, rfl⟩)
    · rw [if_neg c2]; exact Or.inr (Or.inr ⟨by omega, rfl⟩)
theorem kind_inf {a : Int} (hm : mag a = 9218868437227405312) : kindZ a = 3 := by
  unfold kindZ; rw [hm]; rfl
theorem kind_nan4 {a : Int} (hm : 9218868437227405312 < mag a) : kindZ a = 4 := by
  unfold kindZ; rw [if_pos hm]

theorem parts_fin {a : Int} (h : U64 a) (hm : mag a < 9218868437227405312) :
    ∃ f : Nat, pfrac a = (f : Int) ∧ f < 9007199254740992 ∧ -1074 ≤ pexp a ∧ pexp a ≤ 971 ∧ f * 2 ^ (pexp a + 1074).toNat = MZ a := by
  obtain ⟨g1, g2, g3, g4, g5⟩ := mag_parts h
  have g6 := mag_range h
  unfold pexp pfrac MZ
  rcases kind_fin hm g6.1 with ⟨k1, k⟩ | ⟨k1, k2, k⟩ | ⟨k1, k⟩
  · rw [k]
    refine ⟨0, by simp, by omega, by simp, by simp, ?_⟩
    rw [k1, Nat.zero_mul]
    exact M_zero.symm
  · rw [k]
    refine ⟨(frac a).toNat, by simp; omega, by omega, by simp, by simp, ?_⟩
    have e : expo a = 0 := by omega
    rw [if_pos rfl]
    unfold M
    rw [if_pos (show (mag a).toNat < 4503599627370496 by omega)]
    rw [show ((-1074 : Int) + 1074).toNat = 0 by omega, Nat.pow_zero, Nat.mul_one]
    omega
  · rw [k]
    refine ⟨(frac a).toNat + 4503599627370496, by simp; omega, by omega, by simp; omega, by simp; omega, ?_⟩
    rw [if_neg (by decide), if_pos rfl]
    unfold M
    rw [if_neg (show ¬ (mag a).toNat < 4503599627370496 by omega)]
    have e1 : (mag a).toNat % 4503599627370496 = (frac a).toNat := by omega
    have e2 : (mag a).toNat / 4503599627370496 = (expo a).toNat := by omega
    rw [e1, e2, show (expo a - 1075 + 1074).toNat = (expo a).toNat - 1 by omega, Nat.add_comm]

theorem dlen_pow {n K k : Nat} (h : n < 2 ^ K) (hK : K ≤ 16 * k) : dlen n ≤ k := by
  refine dlen_le (Nat.lt_of_lt_of_le h ?_)
  rw [pow16]
  exact Nat.pow_le_pow_right (by decide) (by omega)

theorem up_nat (v : Value) (n l k : Nat) (K : Int) (w : World) (hK : K = (k : Int)) (hD : D w v n l) (hl : l ≤ 134217728) (hk : k ≤ 1073741824) :
    Calls Try.prog 49 #[v, .int .i64 K] w fun e w' => ∃ v', e = .returned v' ∧ D w' v' (n * 2 ^ k) (dlen (n * 2 ^ k)) ∧ Below w.heap.size w w' := by
  rw [hK]; exact up_any v n l k w hD hl hk

theorem sz_add (s : Bool) (x y : Nat) : sz s x + sz s y = sz s (x + y) := by unfold sz; cases s <;> simp <;> omega
theorem sz_sub {s t : Bool} {x y : Nat} (h : s ≠ t) (hx : y ≤ x) : sz s x + sz t y = sz s (x - y) := by
  unfold sz; cases s <;> cases t <;> simp at * <;> omega
theorem sz_sub2 {s t : Bool} {x y : Nat} (h : s ≠ t) (hx : x ≤ y) : sz s x + sz t y = sz t (y - x) := by
  unfold sz; cases s <;> cases t <;> simp at * <;> omega

/-- How sign and size of a sum come of those of the two. -/
def ExactP (n o ng : Bool) (X Y N : Nat) : Prop := (n = o ∧ ng = n ∧ N = X + Y) ∨ (n ≠ o ∧ ng = n ∧ Y ≤ X ∧ N = X - Y) ∨ (n ≠ o ∧ ng = o ∧ X ≤ Y ∧ N = Y - X)

set_option maxHeartbeats 2000000 in
/-- What the two are, in units of the lesser exponent. -/
theorem exact_walk (a b E G' low : Int) (n o : Bool) (f h i j : Nat) (w : World) (ha : U64 a) (hb : U64 b)
    (p1 : belowB a = n) (p2 : pexp a = E) (p3 : pfrac a = (f : Int)) (q1 : belowB b = o) (q2 : pexp b = G') (q3 : pfrac b = (h : Int)) (hf : f < 9007199254740992) (hh : h < 9007199254740992)
    (hE1 : -1074 ≤ E) (hE2 : E ≤ 971) (hG1 : -1074 ≤ G') (hG2 : G' ≤ 971) (hlow : low = min E G') (hi : E - low = (i : Int)) (hj : G' - low = (j : Int)) :
    Calls Try.prog 78 #[.int .u64 a, .int .u64 b] w fun e w' => ∃ (v : Value) (N l : Nat) (ng : Bool), e = .returned (.tuple #[.bool ng, .int .i64 low, v]) ∧ D w' v N l ∧ l ≤ 1048576 ∧ Below w.heap.size w w' ∧
      ExactP n o ng (f * 2 ^ i) (h * 2 ^ j) N := by
  have P1 := fun w => refParts_any a w ha
  rw [p1, p2, p3] at P1
  have P2 := fun w => refParts_any b w hb
  rw [q1, q2, q3] at P2
  have b1 : f * 2 ^ i < 2 ^ (53 + i) := scaled_lt (by omega)
  have b2 : h * 2 ^ j < 2 ^ (53 + j) := scaled_lt (by omega)
  have i1 : i ≤ 2045 := by omega
  have j1 : j ≤ 2045 := by omega
  have l1 : dlen (f * 2 ^ i) ≤ 1001 := dlen_pow b1 (by omega)
  have l2 : dlen (h * 2 ^ j) ≤ 1001 := dlen_pow b2 (by omega)
  have l3 : dlen (f * 2 ^ i + h * 2 ^ j) ≤ 1001 := by
    have h1 : 2 ^ (53 + i) ≤ 2 ^ (53 + max i j) := Nat.pow_le_pow_right (by decide) (by omega)
    have h2 : 2 ^ (53 + j) ≤ 2 ^ (53 + max i j) := Nat.pow_le_pow_right (by decide) (by omega)
    have h3 : 2 ^ (53 + max i j + 1) = 2 * 2 ^ (53 + max i j) := Nat.pow_succ'
    refine dlen_pow (K := 53 + max i j + 1) ?_ (by omega)
    omega
  clear b1 b2
  have HP1 : Hid _ := P1
  have HP2 : Hid _ := P2
  have HI : Hid (E - low = (i : Int)) := hi
  have HJ : Hid (G' - low = (j : Int)) := hj
  have HL : Hid (low = min E G') := hlow
  clear P1 P2 p1 p2 p3 q1 q2 q3 hi hj hlow
  generalize hX : f * 2 ^ i = X at *
  generalize hY : h * 2 ^ j = Y at *
  have HX : Hid (f * 2 ^ i = X) := hX
  have HY : Hid (h * 2 ^ j = Y) := hY
  clear hX hY
  have cs : (G' < E ∧ low = G') ∨ (¬ G' < E ∧ low = E) := by have := HL.out; omega
  rcases cs with ⟨c, rfl⟩ | ⟨c, rfl⟩
  all_goals
    by_cases cx : Y ≤ X
    all_goals
      cases n <;> cases o
      all_goals
        go_enter Try.func78, Try.ntmps78
        go_wp2_with fail
        refine (HP1.out _).mono ?_
        rintro e w' ⟨rfl, hw'⟩
        rw [hw']
        clear hw' w'
        go_wp2_with fail
        refine (HP2.out _).mono ?_
        rintro e w' ⟨rfl, hw'⟩
        rw [hw']
        clear hw' w'
        go_wp2_with fail
        refine (digits_any f _ (by omega)).mono ?_
        rintro e w1 ⟨v1, rfl, hd1, hb1⟩
        go_wp2_with fail
        refine (up_nat _ f 4 i _ _ (by have := HI.out; omega) hd1 (by decide) (by omega)).mono ?_
        rintro e w2 ⟨v2, rfl, hd2, hb2⟩
        rw [HX.out] at hd2
        have hb3 := hb1.trans (hb2.mono hb1.size)
        clear hd1 hb1 hb2
        go_wp2_with fail
        refine (digits_any h _ (by omega)).mono ?_
        rintro e w3 ⟨v3, rfl, hd3, hb4⟩
        have hb5 := hb3.trans (hb4.mono hb3.size)
        have hd4 := hd2.below hb4
        clear hd2 hb3 hb4
        go_wp2_with fail
        refine (up_nat _ h 4 j _ _ (by have := HJ.out; omega) hd3 (by decide) (by omega)).mono ?_
        rintro e w4 ⟨v4, rfl, hd5, hb6⟩
        rw [HY.out] at hd5
        have hd6 := hd4.below hb6
        have hb7 := hb5.trans (hb6.mono hb5.size)
        clear hd3 hd4 hb5 hb6
        go_wp2_with fail
        first
        | refine (sum_any _ _ _ _ _ _ _ hd6 hd5 (by omega) (by omega)).mono ?_
          rintro e w5 ⟨v5, rfl, hd7, hb8⟩
          go_wp2
          go_ret3
          exact ⟨_, _, _, _, rfl, hd7, by omega, hb7.trans (hb8.mono hb7.size), Or.inl ⟨rfl, rfl, rfl⟩⟩
        | refine (cmp_any _ _ _ _ _ _ _ hd6 hd5 (by omega) (by omega)).mono ?_
          rintro e w' ⟨rfl, hw'⟩
          rw [hw']
          clear hw' w'
          have hc : decide (0 ≤ cmpZ X Y) = true := by unfold cmpZ; rw [if_neg (by omega)]; split <;> simp
          generalize cmpZ X Y = C at *
          go_wp2_with fail
          refine (minus_any _ _ _ _ _ _ _ hd6 hd5 (by omega) cx).mono ?_
          rintro e w5 ⟨v5, rfl, hd7, hb8⟩
          have hz : dlen (X - Y) ≤ dlen X := dlen_mono (by omega)
          go_wp2
          go_ret3
          exact ⟨_, _, _, _, rfl, hd7, by omega, hb7.trans (hb8.mono hb7.size), Or.inr (Or.inl ⟨by decide, rfl, cx, rfl⟩)⟩
        | refine (cmp_any _ _ _ _ _ _ _ hd6 hd5 (by omega) (by omega)).mono ?_
          rintro e w' ⟨rfl, hw'⟩
          rw [hw']
          clear hw' w'
          have hc : decide (0 ≤ cmpZ X Y) = false := by unfold cmpZ; rw [if_pos (by omega)]; simp
          generalize cmpZ X Y = C at *
          go_wp2_with fail
          refine (minus_any _ _ _ _ _ _ _ hd5 hd6 (by omega) (by omega)).mono ?_
          rintro e w5 ⟨v5, rfl, hd7, hb8⟩
          have hz : dlen (Y - X) ≤ dlen Y := dlen_mono (by omega)
          go_wp2
          go_ret3
          exact ⟨_, _, _, _, rfl, hd7, by omega, hb7.trans (hb8.mono hb7.size), Or.inr (Or.inr ⟨by decide, rfl, by omega, rfl⟩)⟩

end Go.Proofs.Ytpjgmlhchaojaaa
