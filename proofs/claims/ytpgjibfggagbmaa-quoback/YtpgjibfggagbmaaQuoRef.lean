/-
  The reference of layer 3: Div, Rem, Mod.
-/
import Derived.Test.YtpgjibfggagbmaaQuoRoot
import Derived.Test.YtpgjibfggagbmaaSumRef3
import Derived.Test.YtpgjibfggagbmaaDigDivide
namespace Go.Proofs.Ytpgjibfggagbmaa
open Go.RowKit Dg Flo

theorem sign_any (neg : Bool) (w : World) : Calls Try.prog 26 #[.bool neg] w fun e w' => e = .returned (.int .u64 (sgn neg)) ∧ w' = w := refSign_any neg w

theorem stick_bool (f h k : Nat) : 2 * (f * 2 ^ k / h) + (decide (f * 2 ^ k % h ≠ 0)).toNat = stick f h k := by
  unfold stick
  by_cases c : f * 2 ^ k % h = 0
  · rw [if_pos c, c]; rfl
  · rw [if_neg c, decide_eq_true c]; rfl

/-- A quotient that the reference rounds. -/
theorem round_quo (v : Value) (f h l : Nat) (e g : Int) (s : Bool) (w : World) (hD : D w v (f * 2 ^ 128 / h) l) (hl : l ≤ 1048576) (hf0 : f ≠ 0) (hh0 : 0 < h) (hh : h < 9007199254740992)
    (e1 : -1074 ≤ e) (e2 : e ≤ 971) (g1 : -1074 ≤ g) (g2 : g ≤ 971) (hB : h * 2 ^ (g + 1074).toNat < 2 ^ TP) :
    Calls Try.prog 31 #[.bool s, .int .i64 (e - g - 128), v, .bool (decide (f * 2 ^ 128 % h ≠ 0))] w fun e' w' => e' = .returned (.int .u64 (sgn s + (quoR (f * 2 ^ (e + 1074).toNat) (h * 2 ^ (g + 1074).toNat) : Nat))) ∧ Below w.heap.size w w' := by
  have hq : 9007199254740992 ≤ f * 2 ^ 128 / h := by
    rw [Nat.le_div_iff_mul_le hh0]
    have h1 := Nat.le_mul_of_pos_left (2 ^ 128) (show 0 < f by omega)
    have h2 := Nat.mul_le_mul_left 9007199254740992 (show h ≤ 9007199254740992 by omega)
    have h3 : 9007199254740992 * 9007199254740992 ≤ 2 ^ 128 := by decide
    exact Nat.le_trans h2 (Nat.le_trans h3 h1)
  have k := round_any v (f * 2 ^ 128 / h) l 1200 (e - g - 128) (decide (f * 2 ^ 128 % h ≠ 0)) s w hD hl (by omega) (by omega) (by omega) (fun _ => hq)
  rw [stick_bool, quo_at (E := (e - g - 128 + 1073 + ((1200 : Nat) : Int)).toNat) (i := (e + 1074).toNat) (j := (g + 1074).toNat) hf0 hh0 hB hq (by omega)] at k
  exact k

theorem dlen_pos {n : Nat} : decide (0 < dlen n) = decide (n ≠ 0) := by
  unfold dlen
  by_cases c : n = 0
  · rw [if_pos c, c]; rfl
  · rw [if_neg c, decide_eq_true c]; exact decide_eq_true (by omega)

set_option maxHeartbeats 2000000 in
theorem refDiv_fin (a b E G' : Int) (n o : Bool) (f h : Nat) (w : World) (ha : U64 a) (hb : U64 b) (a1 : (kindZ a == 4) = false) (a2 : (kindZ a == 3) = false) (a3 : (kindZ a == 0) = false) (b1 : (kindZ b == 4) = false) (b2 : (kindZ b == 3) = false) (b3 : (kindZ b == 0) = false)
    (p1 : belowB a = n) (p2 : pexp a = E) (p3 : pfrac a = (f : Int)) (q1 : belowB b = o) (q2 : pexp b = G') (q3 : pfrac b = (h : Int)) (hf : f < 9007199254740992) (hh : h < 9007199254740992) (hf0 : f ≠ 0) (hh0 : 0 < h)
    (hE1 : -1074 ≤ E) (hE2 : E ≤ 971) (hG1 : -1074 ≤ G') (hG2 : G' ≤ 971) (hB : h * 2 ^ (G' + 1074).toNat < 2 ^ TP) :
    Calls Try.prog 10 #[.int .u64 a, .int .u64 b] w fun e w' => e = .returned (.int .u64 (sgn (n ^^ o) + (quoR (f * 2 ^ (E + 1074).toNat) (h * 2 ^ (G' + 1074).toNat) : Nat))) ∧ Below w.heap.size w w' := by
  have P1 := fun w => refParts_any a w ha
  rw [p1, p2, p3] at P1
  have P2 := fun w => refParts_any b w hb
  rw [q1, q2, q3] at P2
  have N1 := fun w => refNeg_any a w ha
  rw [p1] at N1
  have N2 := fun w => refNeg_any b w hb
  rw [q1] at N2
  have HP1 : Hid _ := P1
  have HP2 : Hid _ := P2
  have HN1 : Hid _ := N1
  have HN2 : Hid _ := N2
  have l3 : dlen (f * 2 ^ 128) ≤ 1001 := dlen_pow (scaled_lt (L := 53) (E := 128) (by omega)) (by omega)
  have l4 : dlen (f * 2 ^ 128 / h) ≤ 1001 := Nat.le_trans (dlen_mono (Nat.div_le_self _ _)) l3
  have HR : Hid (∀ v l w (X : Int) (M' : Bool), X = E - G' - 128 → M' = decide (f * 2 ^ 128 % h ≠ 0) → D w v (f * 2 ^ 128 / h) l → l ≤ 1048576 → Calls Try.prog 31 #[.bool (n ^^ o), .int .i64 X, v, .bool M'] w fun e w' => e = .returned (.int .u64 (sgn (n ^^ o) + (quoR (f * 2 ^ (E + 1074).toNat) (h * 2 ^ (G' + 1074).toNat) : Nat))) ∧ Below w.heap.size w w') := by
    intro v l w X M' hX hM hD hl
    rw [hX, hM]
    exact round_quo v f h l E G' (n ^^ o) w hD hl hf0 hh0 hh hE1 hE2 hG1 hG2 hB
  generalize sgn (n ^^ o) + ((quoR (f * 2 ^ (E + 1074).toNat) (h * 2 ^ (G' + 1074).toNat) : Nat) : Int) = R at *
  clear P1 P2 N1 N2 p1 p2 p3 q1 q2 q3 hB
  generalize hF : f * 2 ^ 128 = F at *
  have HF : Hid (f * 2 ^ 128 = F) := hF
  clear hF
  cases n <;> cases o
  all_goals
    go_enter Try.func10, Try.ntmps10
    go_wp2_with fail
    refine (refKind_any _ _ ha).mono ?_
    rintro e w' ⟨rfl, hw'⟩
    rw [hw']
    clear hw' w'
    go_wp2_with fail
    refine (refKind_any _ _ hb).mono ?_
    rintro e w' ⟨rfl, hw'⟩
    rw [hw']
    clear hw' w'
    go_wp2_with fail
    refine (HN1.out _).mono ?_
    rintro e w' ⟨rfl, hw'⟩
    rw [hw']
    clear hw' w'
    go_wp2_with fail
    refine (HN2.out _).mono ?_
    rintro e w' ⟨rfl, hw'⟩
    rw [hw']
    clear hw' w'
    go_wp2_with fail
    refine (HP1.out _).mono ?_
    rintro e w' ⟨rfl, hw'⟩
    rw [hw']
    clear hw' w'
    go_wp2_with fail
    refine (HP2.out _).mono ?_
    rintro e w' ⟨rfl, hw'⟩
    rw [hw']
    clear hw' w'
    go_wp2_with fail
    refine (digits_any f _ (by omega)).mono ?_
    rintro e w1 ⟨v1, rfl, hd1, hb1⟩
    go_wp2_with fail
    refine (up_nat _ f 4 128 _ _ (by rfl) hd1 (by decide) (by decide)).mono ?_
    rintro e w2 ⟨v2, rfl, hd2, hb2⟩
    rw [HF.out] at hd2
    replace hb2 := hb1.trans (hb2.mono hb1.size)
    clear hd1 hb1
    go_wp2_with fail
    refine (digits_any h _ (by omega)).mono ?_
    rintro e w3 ⟨v3, rfl, hd3, hb3⟩
    have hd4 := hd2.below hb3
    replace hb3 := hb2.trans (hb3.mono hb2.size)
    clear hd2 hb2
    go_wp2_with fail
    refine (divide_any _ _ _ _ _ _ _ hd4 hd3 (by omega) (by decide) hh0).mono ?_
    rintro e w4 ⟨v4, v5, rfl, hd5, hd6, hb4⟩
    replace hb4 := hb3.trans (hb4.mono hb3.size)
    obtain ⟨g6, cap6, rfl, -, -, -, -⟩ := hd6.shape
    clear hd3 hd4 hb3 hd6
    go_wp2_with fail
    refine (HR.out _ _ _ _ _ (by omega) dlen_pos hd5 (by omega)).mono ?_
    rintro e w5 ⟨rfl, hb5⟩
    go_wp2
    go_ret
    exact ⟨rfl, hb4.trans (hb5.mono hb4.size)⟩

theorem fin_pos {a : Int} (h : U64 a) (_hm : mag a < 9218868437227405312) (h0 : mag a ≠ 0) {f : Nat} (e : f * 2 ^ (pexp a + 1074).toNat = MZ a) : f ≠ 0 := by
  intro k
  rw [k, Nat.zero_mul] at e
  exact h0 ((MZ_null h).1 e.symm)

theorem divZ_nan1 {a b : Int} (h : nanB a = true) : divZ a b = 9221120237041090560 := by unfold divZ divBad; rw [h]; simp
theorem divZ_nan2 {a b : Int} (h : nanB b = true) : divZ a b = 9221120237041090560 := by unfold divZ divBad; rw [h]; simp
theorem divZ_infs {a b : Int} (h1 : mag a = 9218868437227405312) (h2 : mag b = 9218868437227405312) : divZ a b = 9221120237041090560 := by unfold divZ divBad; rw [inf_inf h1, inf_inf h2]; simp
theorem divZ_zeros {a b : Int} (h1 : mag a = 0) (h2 : mag b = 0) : divZ a b = 9221120237041090560 := by unfold divZ divBad; rw [h1, h2]; simp
theorem divZ_inf {a b : Int} (h1 : mag a = 9218868437227405312) (h2 : mag b < 9218868437227405312) : divZ a b = sgn (belowB a ^^ belowB b) + 9218868437227405312 := by
  unfold divZ divBad; rw [inf_inf h1, inf_nan h1, fin_nan h2, fin_inf h2, h1]; simp
theorem divZ_by0 {a b : Int} (h1 : mag a < 9218868437227405312) (h0 : mag a ≠ 0) (h2 : mag b = 0) : divZ a b = sgn (belowB a ^^ belowB b) + 9218868437227405312 := by
  have e1 : nanB b = false := fin_nan (by omega)
  have e2 : infB b = false := fin_inf (by omega)
  unfold divZ divBad; rw [fin_inf h1, fin_nan h1, e1, e2, decide_eq_false h0, h2]; simp
theorem divZ_byInf {a b : Int} (h1 : mag a < 9218868437227405312) (h2 : mag b = 9218868437227405312) : divZ a b = sgn (belowB a ^^ belowB b) := by
  unfold divZ divBad; rw [fin_inf h1, fin_nan h1, inf_nan h2, inf_inf h2, h2]; simp
theorem divZ_fin {a b : Int} (h1 : mag a < 9218868437227405312) (h2 : mag b < 9218868437227405312) (h0 : mag b ≠ 0) : divZ a b = sgn (belowB a ^^ belowB b) + (quoR (MZ a) (MZ b) : Nat) := by
  unfold divZ divBad; rw [fin_inf h1, fin_nan h1, fin_nan h2, fin_inf h2, decide_eq_false h0]
  generalize quoR (MZ a) (MZ b) = R
  simp
theorem divZ_zero {a b : Int} (ha : U64 a) (h1 : mag a = 0) (h2 : mag b < 9218868437227405312) (h0 : mag b ≠ 0) : divZ a b = sgn (belowB a ^^ belowB b) := by
  rw [divZ_fin (by omega) h2 h0, (MZ_null ha).2 h1, quoR_zero]; omega

set_option maxHeartbeats 2000000 in
theorem refDiv_any (a b : Int) (w : World) (ha : U64 a) (hb : U64 b) :
    Calls Try.prog 10 #[.int .u64 a, .int .u64 b] w fun e w' => e = .returned (.int .u64 (divZ a b)) ∧ Below w.heap.size w w' := by
  by_cases fin : mag a < 9218868437227405312 ∧ mag b < 9218868437227405312 ∧ mag a ≠ 0 ∧ mag b ≠ 0
  · obtain ⟨ka, kb, za, zb⟩ := fin
    obtain ⟨a1, a2⟩ := kind_lt3 ha ka
    obtain ⟨b1, b2⟩ := kind_lt3 hb kb
    obtain ⟨f, f1, f2, f3, f4, f5⟩ := parts_fin ha ka
    obtain ⟨h, h1, h2, h3, h4, h5⟩ := parts_fin hb kb
    have hh := fin_pos hb kb zb h5
    have k := refDiv_fin a b (pexp a) (pexp b) (belowB a) (belowB b) f h w ha hb a1 a2 (kind_z0 za) b1 b2 (kind_z0 zb) rfl rfl f1 rfl rfl h1 f2 h2 (fin_pos ha ka za f5) (by omega) f3 f4 h3 h4 (by rw [h5]; exact MZ_lt hb kb)
    rw [f5, h5, ← divZ_fin ka kb zb] at k
    exact k
  · have N1 : Hid _ := fun w => refNeg_any a w ha
    have N2 : Hid _ := fun w => refNeg_any b w hb
    obtain ⟨R, hR⟩ : ∃ R, R = divZ a b := ⟨_, rfl⟩
    rw [← hR]
    have HI : Hid (∀ (s : Bool) w, s = (belowB a ^^ belowB b) → R = sgn (belowB a ^^ belowB b) + 9218868437227405312 → Calls Try.prog 25 #[.bool s] w fun e w' => e = .returned (.int .u64 R) ∧ w' = w) := by
      intro s w h1 h2; rw [h2, h1]; exact inf_any _ w
    have HS : Hid (∀ (s : Bool) w, s = (belowB a ^^ belowB b) → R = sgn (belowB a ^^ belowB b) → Calls Try.prog 26 #[.bool s] w fun e w' => e = .returned (.int .u64 R) ∧ w' = w) := by
      intro s w h1 h2; rw [h2, h1]; exact sign_any _ w
    have HN : Hid (∀ w, R = 9221120237041090560 → Calls Try.prog 22 #[] w fun e w' => e = .returned (.int .u64 R) ∧ w' = w) := by
      intro w h2; rw [h2]; exact refNan_any w
    have cs : (kindZ a = 4 ∧ R = 9221120237041090560) ∨ ((kindZ a == 4) = false ∧ kindZ b = 4 ∧ R = 9221120237041090560) ∨ (kindZ a = 3 ∧ kindZ b = 3 ∧ R = 9221120237041090560) ∨ (kindZ a = 0 ∧ kindZ b = 0 ∧ R = 9221120237041090560) ∨
        (kindZ a = 3 ∧ (kindZ b == 4) = false ∧ (kindZ b == 3) = false ∧ R = sgn (belowB a ^^ belowB b) + 9218868437227405312) ∨ ((kindZ a == 4) = false ∧ (kindZ a == 3) = false ∧ (kindZ a == 0) = false ∧ kindZ b = 0 ∧ R = sgn (belowB a ^^ belowB b) + 9218868437227405312) ∨
        (((kindZ a == 4) = false ∧ (kindZ a == 3) = false) ∧ kindZ b = 3 ∧ R = sgn (belowB a ^^ belowB b)) ∨ (kindZ a = 0 ∧ ((kindZ b == 4) = false ∧ (kindZ b == 3) = false) ∧ (kindZ b == 0) = false ∧ R = sgn (belowB a ^^ belowB b)) := by
      rw [hR]
      rcases kindsZ a with ka | ka | ka
      · rcases kindsZ b with kb | kb | kb
        · by_cases za : mag a = 0
          · by_cases zb : mag b = 0
            · exact Or.inr (Or.inr (Or.inr (Or.inl ⟨kind_zero0 za, kind_zero0 zb, divZ_zeros za zb⟩)))
            · exact Or.inr (Or.inr (Or.inr (Or.inr (Or.inr (Or.inr (Or.inr ⟨kind_zero0 za, kind_lt3 hb kb, kind_z0 zb, divZ_zero ha za kb zb⟩))))))
          · by_cases zb : mag b = 0
            · exact Or.inr (Or.inr (Or.inr (Or.inr (Or.inr (Or.inl ⟨(kind_lt3 ha ka).1, (kind_lt3 ha ka).2, kind_z0 za, kind_zero0 zb, divZ_by0 ka za zb⟩)))))
            · exact absurd ⟨ka, kb, za, zb⟩ fin
        · exact Or.inr (Or.inr (Or.inr (Or.inr (Or.inr (Or.inr (Or.inl ⟨kind_lt3 ha ka, kind_inf kb, divZ_byInf ka kb⟩))))))
        · exact Or.inr (Or.inl ⟨(kind_lt3 ha ka).1, kind_nan4 kb, divZ_nan2 (nan_nan kb)⟩)
      · rcases kindsZ b with kb | kb | kb
        · exact Or.inr (Or.inr (Or.inr (Or.inr (Or.inl ⟨kind_inf ka, (kind_lt3 hb kb).1, (kind_lt3 hb kb).2, divZ_inf ka kb⟩))))
        · exact Or.inr (Or.inr (Or.inl ⟨kind_inf ka, kind_inf kb, divZ_infs ka kb⟩))
        · exact Or.inr (Or.inl ⟨by rw [kind_inf ka]; decide, kind_nan4 kb, divZ_nan2 (nan_nan kb)⟩)
      · exact Or.inl ⟨kind_nan4 ka, divZ_nan1 (nan_nan ka)⟩
    clear hR fin
    rcases cs with ⟨c1, r⟩ | ⟨c1, c2, r⟩ | ⟨c1, c2, r⟩ | ⟨c1, c2, r⟩ | ⟨c1, c2, c3, r⟩ | ⟨c1, c2, c3, c4, r⟩ | ⟨⟨c1, c2⟩, c3, r⟩ | ⟨c1, ⟨c2, c3⟩, c4, r⟩
    case inr.inr.inr.inr.inr.inr.inl =>
      have Hr : Hid _ := r
      clear r
      generalize belowB a = n at *
      generalize belowB b = o at *
      rcases (show kindZ a = 0 ∨ (kindZ a == 0) = false from by by_cases z : kindZ a = 0 <;> simp [z]) with z | z
      all_goals
        cases n <;> cases o
        all_goals
          go_enter Try.func10, Try.ntmps10
          go_wp2_with (first | (go_at_call 16; refine (refKind_any _ _ (by assumption)).mono ?_; rintro e w' ⟨rfl, rfl⟩) | (go_at_call 18; refine (N1.out _).mono ?_; rintro e w' ⟨rfl, rfl⟩) | (go_at_call 18; refine (N2.out _).mono ?_; rintro e w' ⟨rfl, rfl⟩) | (go_at_call 26; refine (HS.out _ _ (by rfl) Hr.out).mono ?_; rintro e w' ⟨rfl, rfl⟩))
          go_ret
          exact ⟨rfl, Below.refl _ _⟩
    all_goals
      have Hr : Hid _ := r
      clear r
      generalize belowB a = n at *
      generalize belowB b = o at *
      cases n <;> cases o
      all_goals
        go_enter Try.func10, Try.ntmps10
        go_wp2_with (first | (go_at_call 16; refine (refKind_any _ _ (by assumption)).mono ?_; rintro e w' ⟨rfl, rfl⟩) | (go_at_call 18; refine (N1.out _).mono ?_; rintro e w' ⟨rfl, rfl⟩) | (go_at_call 18; refine (N2.out _).mono ?_; rintro e w' ⟨rfl, rfl⟩) | (go_at_call 22; refine (HN.out _ Hr.out).mono ?_; rintro e w' ⟨rfl, rfl⟩) | (go_at_call 25; refine (HI.out _ _ (by rfl) Hr.out).mono ?_; rintro e w' ⟨rfl, rfl⟩) | (go_at_call 26; refine (HS.out _ _ (by rfl) Hr.out).mono ?_; rintro e w' ⟨rfl, rfl⟩))
        go_ret
        exact ⟨rfl, Below.refl _ _⟩

end Go.Proofs.Ytpgjibfggagbmaa
