/-
  The reference of layer 3: Rem and Mod.
-/
import Derived.Test.YtpgjibfggagbmaaQuoRef
namespace Go.Proofs.Ytpgjibfggagbmaa
open Go.RowKit Dg Flo

def remBad (a b : Int) : Bool := nanB a || (nanB b || (infB a || decide (mag b = 0)))
def remZ (a b : Int) : Int := if remBad a b then 9221120237041090560 else if infB b then a else sgn (belowB a) + (rung 0 (MZ a % MZ b) : Nat)
def modZ (a b : Int) : Int := if nanB (remZ a b) then remZ a b else if mag (remZ a b) = 0 then sgn (belowB b) else if belowB (remZ a b) = belowB b then remZ a b else addZ (remZ a b) b

theorem remZ_bad {a b : Int} (h : remBad a b = true) : remZ a b = 9221120237041090560 := by unfold remZ; rw [if_pos h]
theorem remZ_inf {a b : Int} (h : remBad a b = false) (hb : infB b = true) : remZ a b = a := by unfold remZ; rw [h, hb]; simp
theorem remZ_fin {a b : Int} (ka : mag a < 9218868437227405312) (kb : mag b < 9218868437227405312) (zb : mag b ≠ 0) : remZ a b = sgn (belowB a) + (rung 0 (MZ a % MZ b) : Nat) := by
  unfold remZ remBad
  rw [fin_nan ka, fin_nan kb, fin_inf ka, fin_inf kb, decide_eq_false zb]
  generalize rung 0 (MZ a % MZ b) = R
  simp
theorem sgn_u64 (s : Bool) {r : Nat} (h : r ≤ 9218868437227405312) : U64 (sgn s + (r : Int)) := by unfold U64 sgn; cases s <;> simp <;> omega
theorem remZ_u64 {a b : Int} (ha : U64 a) : U64 (remZ a b) := by
  unfold remZ
  split
  · exact ⟨by decide, by decide⟩
  · split
    · exact ha
    · exact sgn_u64 _ (rung_le _ _)
theorem modZ_u64 {a b : Int} (ha : U64 a) (hb : U64 b) : U64 (modZ a b) := by
  have h := remZ_u64 (b := b) ha
  unfold modZ
  split
  · exact h
  · split
    · unfold U64 sgn; cases belowB b <;> simp
    · split
      · exact h
      · exact addZ_u64 h hb

set_option maxHeartbeats 2000000 in
theorem refRem_fin (a b E G' low : Int) (n o : Bool) (f h i j : Nat) (w : World) (ha : U64 a) (hb : U64 b) (a1 : (kindZ a == 4) = false) (a2 : (kindZ a == 3) = false) (b1 : (kindZ b == 4) = false) (b2 : (kindZ b == 3) = false) (b3 : (kindZ b == 0) = false)
    (p1 : belowB a = n) (p2 : pexp a = E) (p3 : pfrac a = (f : Int)) (q1 : belowB b = o) (q2 : pexp b = G') (q3 : pfrac b = (h : Int)) (hf : f < 9007199254740992) (hh : h < 9007199254740992) (hh0 : 0 < h)
    (hE1 : -1074 ≤ E) (hE2 : E ≤ 971) (hG1 : -1074 ≤ G') (hG2 : G' ≤ 971) (hlow : low = min E G') (hi : E - low = (i : Int)) (hj : G' - low = (j : Int)) :
    Calls Try.prog 14 #[.int .u64 a, .int .u64 b] w fun e w' => e = .returned (.int .u64 (sgn n + (rung 0 ((f * 2 ^ i) % (h * 2 ^ j) * 2 ^ (low + 1074).toNat) : Nat))) ∧ Below w.heap.size w w' := by
  have P1 := fun w => refParts_any a w ha
  rw [p1, p2, p3] at P1
  have P2 := fun w => refParts_any b w hb
  rw [q1, q2, q3] at P2
  have HP1 : Hid _ := P1
  have HP2 : Hid _ := P2
  have i1 : i ≤ 2045 := by omega
  have j1 : j ≤ 2045 := by omega
  have l1 : dlen (f * 2 ^ i) ≤ 1001 := dlen_pow (scaled_lt (L := 53) (by omega)) (by omega)
  have l2 : dlen (h * 2 ^ j) ≤ 1001 := dlen_pow (scaled_lt (L := 53) (by omega)) (by omega)
  have hY0 : 0 < h * 2 ^ j := Nat.mul_pos hh0 (Nat.two_pow_pos _)
  have l3 : dlen ((f * 2 ^ i) % (h * 2 ^ j)) ≤ 1001 := Nat.le_trans (dlen_mono (Nat.mod_le _ _)) l1
  have HR : Hid (∀ v l w, D w v ((f * 2 ^ i) % (h * 2 ^ j)) l → l ≤ 1048576 → Calls Try.prog 31 #[.bool n, .int .i64 low, v, .bool false] w fun e w' => e = .returned (.int .u64 (sgn n + (rung 0 ((f * 2 ^ i) % (h * 2 ^ j) * 2 ^ (low + 1074).toNat) : Nat))) ∧ Below w.heap.size w w') := by
    intro v l w hD hl
    exact round_one v _ l low n w hD hl (by omega) (by omega)
  generalize sgn n + ((rung 0 ((f * 2 ^ i) % (h * 2 ^ j) * 2 ^ (low + 1074).toNat) : Nat) : Int) = R at *
  have HI : Hid (E - low = (i : Int)) := hi
  have HJ : Hid (G' - low = (j : Int)) := hj
  have cs : (G' < E ∧ low = G') ∨ (¬ G' < E ∧ low = E) := by omega
  clear P1 P2 p1 p2 p3 q1 q2 q3 hi hj hlow
  generalize hX : f * 2 ^ i = X at *
  generalize hY : h * 2 ^ j = Y at *
  have HX : Hid (f * 2 ^ i = X) := hX
  have HY : Hid (h * 2 ^ j = Y) := hY
  clear hX hY
  rcases cs with ⟨c, rfl⟩ | ⟨c, rfl⟩
  all_goals
    go_enter Try.func14, Try.ntmps14
    go_wp2_with fail
    refine (refKind_any _ _ ha).mono ?_
    rintro e w' ⟨rfl, hw'⟩
    rw [hw']
    clear hw' w'
    go_wp2_with fail
    refine (refKind_any _ _ hb).mono ?_
    rintro e w' ⟨rfl, hw'⟩
    rw [hw']
    clear hw' w'
    go_wp2_with fail
    refine (HP1.out _).mono ?_
    rintro e w' ⟨rfl, hw'⟩
    rw [hw']
    clear hw' w'
    go_wp2_with fail
    refine (HP2.out _).mono ?_
    rintro e w' ⟨rfl, hw'⟩
    rw [hw']
    clear hw' w'
    go_wp2_with fail
    refine (digits_any f _ (by omega)).mono ?_
    rintro e w1 ⟨v1, rfl, hd1, hb1⟩
    go_wp2_with fail
    refine (up_nat _ f 4 i _ _ (by have := HI.out; omega) hd1 (by decide) (by omega)).mono ?_
    rintro e w2 ⟨v2, rfl, hd2, hb2⟩
    rw [HX.out] at hd2
    replace hb2 := hb1.trans (hb2.mono hb1.size)
    clear hd1 hb1
    go_wp2_with fail
    refine (digits_any h _ (by omega)).mono ?_
    rintro e w3 ⟨v3, rfl, hd3, hb3⟩
    have hd4 := hd2.below hb3
    replace hb3 := hb2.trans (hb3.mono hb2.size)
    clear hd2 hb2
    go_wp2_with fail
    refine (up_nat _ h 4 j _ _ (by have := HJ.out; omega) hd3 (by decide) (by omega)).mono ?_
    rintro e w4 ⟨v4, rfl, hd5, hb4⟩
    rw [HY.out] at hd5
    have hd6 := hd4.below hb4
    replace hb4 := hb3.trans (hb4.mono hb3.size)
    clear hd3 hd4 hb3
    go_wp2_with fail
    refine (divide_any _ _ _ _ _ _ _ hd6 hd5 (by omega) (by omega) hY0).mono ?_
    rintro e w5 ⟨v5, v6, rfl, hd7, hd8, hb5⟩
    replace hb5 := hb4.trans (hb5.mono hb4.size)
    clear hd5 hd6 hd7 hb4
    go_wp2_with fail
    refine (HR.out _ _ _ hd8 (by omega)).mono ?_
    rintro e w6 ⟨rfl, hb6⟩
    go_wp2
    go_ret
    exact ⟨rfl, hb5.trans (hb6.mono hb5.size)⟩

set_option maxHeartbeats 2000000 in
theorem refRem_any (a b : Int) (w : World) (ha : U64 a) (hb : U64 b) :
    Calls Try.prog 14 #[.int .u64 a, .int .u64 b] w fun e w' => e = .returned (.int .u64 (remZ a b)) ∧ Below w.heap.size w w' := by
  by_cases fin : mag a < 9218868437227405312 ∧ mag b < 9218868437227405312 ∧ mag b ≠ 0
  · obtain ⟨ka, kb, zb⟩ := fin
    obtain ⟨a1, a2⟩ := kind_lt3 ha ka
    obtain ⟨b1, b2⟩ := kind_lt3 hb kb
    obtain ⟨f, f1, f2, f3, f4, f5⟩ := parts_fin ha ka
    obtain ⟨h, h1, h2, h3, h4, h5⟩ := parts_fin hb kb
    have hh := fin_pos hb kb zb h5
    obtain ⟨i, hi⟩ : ∃ i : Nat, pexp a - min (pexp a) (pexp b) = (i : Int) := ⟨(pexp a - min (pexp a) (pexp b)).toNat, by omega⟩
    obtain ⟨j, hj⟩ : ∃ j : Nat, pexp b - min (pexp a) (pexp b) = (j : Int) := ⟨(pexp b - min (pexp a) (pexp b)).toNat, by omega⟩
    have k := refRem_fin a b (pexp a) (pexp b) (min (pexp a) (pexp b)) (belowB a) (belowB b) f h i j w ha hb a1 a2 b1 b2 (kind_z0 zb) rfl rfl f1 rfl rfl h1 f2 h2 (by omega) f3 f4 h3 h4 rfl hi hj
    have e : (f * 2 ^ i) % (h * 2 ^ j) * 2 ^ (min (pexp a) (pexp b) + 1074).toNat = MZ a % MZ b := by
      rw [← Nat.mul_mod_mul_right, ← f5, ← h5, Nat.mul_assoc, Nat.mul_assoc, ← Nat.pow_add, ← Nat.pow_add]
      rw [show i + (min (pexp a) (pexp b) + 1074).toNat = (pexp a + 1074).toNat by omega, show j + (min (pexp a) (pexp b) + 1074).toNat = (pexp b + 1074).toNat by omega]
    rw [e, ← remZ_fin ka kb zb] at k
    exact k
  · obtain ⟨R, hR⟩ : ∃ R, R = remZ a b := ⟨_, rfl⟩
    rw [← hR]
    have HN : Hid (∀ w, R = 9221120237041090560 → Calls Try.prog 22 #[] w fun e w' => e = .returned (.int .u64 R) ∧ w' = w) := by
      intro w h2; rw [h2]; exact refNan_any w
    have cs : (kindZ a = 4 ∧ R = 9221120237041090560) ∨ ((kindZ a == 4) = false ∧ kindZ b = 4 ∧ R = 9221120237041090560) ∨ (kindZ a = 3 ∧ (kindZ b == 4) = false ∧ R = 9221120237041090560) ∨ (((kindZ a == 4) = false ∧ (kindZ a == 3) = false) ∧ kindZ b = 0 ∧ R = 9221120237041090560) ∨
        (((kindZ a == 4) = false ∧ (kindZ a == 3) = false) ∧ kindZ b = 3 ∧ R = a) := by
      rw [hR]
      rcases kindsZ a with ka | ka | ka
      · rcases kindsZ b with kb | kb | kb
        · by_cases zb : mag b = 0
          · exact Or.inr (Or.inr (Or.inr (Or.inl ⟨kind_lt3 ha ka, kind_zero0 zb, remZ_bad (by unfold remBad; rw [zb]; simp)⟩)))
          · exact absurd ⟨ka, kb, zb⟩ fin
        · exact Or.inr (Or.inr (Or.inr (Or.inr ⟨kind_lt3 ha ka, kind_inf kb, remZ_inf (by unfold remBad; rw [fin_nan ka, inf_nan kb, fin_inf ka, kb]; decide) (inf_inf kb)⟩)))
        · exact Or.inr (Or.inl ⟨(kind_lt3 ha ka).1, kind_nan4 kb, remZ_bad (by unfold remBad; rw [nan_nan kb]; simp)⟩)
      · rcases kindsZ b with kb | kb | kb
        · exact Or.inr (Or.inr (Or.inl ⟨kind_inf ka, (kind_lt3 hb kb).1, remZ_bad (by unfold remBad; rw [inf_inf ka]; simp)⟩))
        · exact Or.inr (Or.inr (Or.inl ⟨kind_inf ka, by rw [kind_inf kb]; decide, remZ_bad (by unfold remBad; rw [inf_inf ka]; simp)⟩))
        · exact Or.inr (Or.inl ⟨by rw [kind_inf ka]; decide, kind_nan4 kb, remZ_bad (by unfold remBad; rw [nan_nan kb]; simp)⟩)
      · exact Or.inl ⟨kind_nan4 ka, remZ_bad (by unfold remBad; rw [nan_nan ka]; simp)⟩
    clear hR fin
    rcases cs with ⟨c1, r⟩ | ⟨c1, c2, r⟩ | ⟨c1, c2, r⟩ | ⟨⟨c1, c2⟩, c3, r⟩ | ⟨⟨c1, c2⟩, c3, r⟩
    case inr.inr.inr.inr =>
      subst r
      clear HN
      go_enter Try.func14, Try.ntmps14
      go_wp2_with (go_at_call 16; refine (refKind_any _ _ (by assumption)).mono ?_; rintro e w' ⟨rfl, rfl⟩)
      go_ret
      exact ⟨rfl, Below.refl _ _⟩
    all_goals
      have Hr : Hid _ := r
      clear r
      go_enter Try.func14, Try.ntmps14
      go_wp2_with (first | (go_at_call 16; refine (refKind_any _ _ (by assumption)).mono ?_; rintro e w' ⟨rfl, rfl⟩) | (go_at_call 22; refine (HN.out _ Hr.out).mono ?_; rintro e w' ⟨rfl, rfl⟩))
      go_ret
      exact ⟨rfl, Below.refl _ _⟩

set_option maxHeartbeats 2000000 in
theorem refMod_any (a b : Int) (w : World) (ha : U64 a) (hb : U64 b) :
    Calls Try.prog 15 #[.int .u64 a, .int .u64 b] w fun e w' => e = .returned (.int .u64 (modZ a b)) ∧ Below w.heap.size w w' := by
  have HR : Hid (∀ w, _) := fun w => refRem_any a b w ha hb
  have hu := remZ_u64 (b := b) ha
  unfold modZ
  generalize remZ a b = r at *
  cases hn : nanB r
  · have k4 : (kindZ r == 4) = false := by rw [kind_nan, hn]
    simp only [Bool.false_eq_true, if_false]
    by_cases hz : mag r = 0
    · have k0 := kind_zero0 hz
      rw [if_pos hz]
      have HS : Hid (∀ w, _) := fun w => sign_any (belowB b) w
      have HN : Hid (∀ w, _) := fun w => refNeg_any b w hb
      generalize sgn (belowB b) = S at *
      clear k4 hn hz
      go_enter Try.func15, Try.ntmps15
      go_wp2_with fail
      refine (HR.out _).mono ?_
      rintro e w1 ⟨rfl, hb1⟩
      go_wp2_with (first | (go_at_call 16; refine (refKind_any _ _ (by assumption)).mono ?_; rintro e w' ⟨rfl, rfl⟩) | (go_at_call 18; refine (HN.out _).mono ?_; rintro e w' ⟨rfl, rfl⟩) | (go_at_call 26; refine (HS.out _).mono ?_; rintro e w' ⟨rfl, rfl⟩))
      go_ret
      exact ⟨rfl, hb1⟩
    · have k0 := kind_z0 hz
      rw [if_neg hz]
      have HA : Hid (∀ w, _) := fun w => refAdd_any r b w hu hb
      have N1 : Hid (∀ w, _) := fun w => refNeg_any r w hu
      have N2 : Hid (∀ w, _) := fun w => refNeg_any b w hb
      generalize addZ r b = s at *
      generalize belowB r = x at *
      generalize belowB b = y at *
      clear hn hz
      cases x <;> cases y
      all_goals simp only [Bool.false_eq_true, if_false, if_true, reduceCtorEq]
      all_goals
        go_enter Try.func15, Try.ntmps15
        go_wp2_with fail
        refine (HR.out _).mono ?_
        rintro e w1 ⟨rfl, hb1⟩
        go_wp2_with fail
        refine (refKind_any _ _ hu).mono ?_
        rintro e w' ⟨rfl, hw'⟩
        rw [hw']
        clear hw' w'
        go_wp2_with fail
        refine (refKind_any _ _ hu).mono ?_
        rintro e w' ⟨rfl, hw'⟩
        rw [hw']
        clear hw' w'
        go_wp2_with fail
        refine (N1.out _).mono ?_
        rintro e w' ⟨rfl, hw'⟩
        rw [hw']
        clear hw' w'
        go_wp2_with fail
        refine (N2.out _).mono ?_
        rintro e w' ⟨rfl, hw'⟩
        rw [hw']
        clear hw' w'
        first
        | go_wp2_with fail
          refine (HA.out _).mono ?_
          rintro e w2 ⟨rfl, hb2⟩
          go_wp2
          go_ret
          exact ⟨rfl, hb1.trans (hb2.mono hb1.size)⟩
        | go_wp2
          go_ret
          exact ⟨rfl, hb1⟩
  · have k4 : (kindZ r == 4) = true := by rw [kind_nan, hn]
    simp only [if_true]
    clear hn
    go_enter Try.func15, Try.ntmps15
    go_wp2_with fail
    refine (HR.out _).mono ?_
    rintro e w1 ⟨rfl, hb1⟩
    go_wp2_with fail
    refine (refKind_any _ _ hu).mono ?_
    rintro e w' ⟨rfl, hw'⟩
    rw [hw']
    clear hw' w'
    go_wp2
    go_ret
    exact ⟨rfl, hb1⟩

end Go.Proofs.Ytpgjibfggagbmaa
