/-
  The rest as the Go library's math.Mod reckons it: its mathematics.
-/
import Derived.Test.YtpgjibfggagbmaaQuoLaws
namespace Go.Proofs.Ytpgjibfggagbmaa
open Go.RowKit Flo

theorem nan_pos {r : Nat} (h : r ≤ 9218868437227405312) : nanB (r : Int) = false := by
  unfold nanB mag; rw [decide_eq_false_iff_not]; split <;> omega
theorem mag_pos {r : Nat} (h : r ≤ 9218868437227405312) : mag (r : Int) = (r : Int) := by
  unfold mag; split <;> omega
theorem sv_pos {r : Nat} (h : r ≤ 9218868437227405312) : sv (r : Int) = (r : Int) := by
  unfold sv; split <;> omega
theorem u64_pos {r : Nat} (h : r ≤ 9218868437227405312) : U64 (r : Int) := ⟨by omega, by omega⟩
theorem lt_pos {r s : Nat} (hr : r ≤ 9218868437227405312) (hs : s ≤ 9218868437227405312) : (FloatKind.f64.format.order r s == some .lt) = decide (r < s) := by
  have h := lt_test (u64_pos hr) (u64_pos hs)
  rw [Int.toNat_natCast, Int.toNat_natCast] at h
  rw [h]; unfold lessB
  rw [nan_pos hr, nan_pos hs, sv_pos hr, sv_pos hs]
  simp
theorem gt_pos {r s : Nat} (hr : r ≤ 9218868437227405312) (hs : s ≤ 9218868437227405312) : (FloatKind.f64.format.order r s == some .gt) = decide (s < r) := by
  have h := gt_test (u64_pos hr) (u64_pos hs)
  rw [Int.toNat_natCast, Int.toNat_natCast] at h
  rw [h]; unfold lessB
  rw [nan_pos hr, nan_pos hs, sv_pos hr, sv_pos hs]
  simp
theorem eq_pos {r s : Nat} (hr : r ≤ 9218868437227405312) (hs : s ≤ 9218868437227405312) : (FloatKind.f64.format.order r s == some .eq) = decide (r = s) := by
  have h := eq_test (u64_pos hr) (u64_pos hs)
  rw [Int.toNat_natCast, Int.toNat_natCast] at h
  rw [h]; unfold equalB
  rw [nan_pos hr, nan_pos hs, sv_pos hr, sv_pos hs]
  simp; omega

/-- A finite number above nought as 1 and a fraction, times a power of two; k: 52 for the Tiny ones, which are doubled 52 times first. -/
def NP (r E f k : Nat) : Prop := f < 4503599627370496 ∧ 1 ≤ E ∧ E ≤ 2046 ∧ k ≤ 52 ∧ M r * 2 ^ k = (4503599627370496 + f) * 2 ^ (E - 1)

theorem M_word {E f : Nat} (hf : f < 4503599627370496) (hE : 1 ≤ E) : M (E * 4503599627370496 + f) = (4503599627370496 + f) * 2 ^ (E - 1) := by
  have e : E * 4503599627370496 + f = (E - 1) * 4503599627370496 + (4503599627370496 + f) := by omega
  rw [e, M_at (by omega) (Or.inr (by omega))]

theorem norm_tiny {r : Nat} (h0 : 0 < r) (h : r < 4503599627370496) : ∃ E f, NP r E f 52 ∧ rung 0 (r * 4503599627370496) = E * 4503599627370496 + f := by
  have l1 : 2 ^ Nat.log2 r ≤ r := Nat.log2_self_le (by omega)
  have l2 : r < 2 ^ (Nat.log2 r + 1) := Nat.lt_log2_self
  generalize Nat.log2 r = L at l1 l2
  have hL : L < 52 := by
    have : (2 : Nat) ^ L < 2 ^ 52 := by omega
    exact (Nat.pow_lt_pow_iff_right (by decide)).1 this
  have hp : (2 : Nat) ^ (52 - L) * 2 ^ L = 4503599627370496 := by rw [← Nat.pow_add, show 52 - L + L = 52 by omega]
  have hr : r * 2 ^ (52 - L) * 2 ^ L = r * 4503599627370496 := by rw [Nat.mul_assoc, hp]
  have b1 : 4503599627370496 ≤ r * 2 ^ (52 - L) := by
    rw [← hp, Nat.mul_comm]; exact Nat.mul_le_mul_right _ l1
  have b2 : r * 2 ^ (52 - L) < 9007199254740992 := by
    have : r * 2 ^ (52 - L) < 2 ^ (L + 1) * 2 ^ (52 - L) := Nat.mul_lt_mul_of_pos_right l2 (Nat.two_pow_pos _)
    rw [Nat.pow_succ, Nat.mul_comm (2 ^ L), Nat.mul_assoc, Nat.mul_comm (2 ^ L), hp] at this
    exact this
  generalize r * 2 ^ (52 - L) = q at *
  have hM : M ((L + 1) * 4503599627370496 + (q - 4503599627370496)) = q * 2 ^ L := by
    rw [M_word (by omega) (by omega), show 4503599627370496 + (q - 4503599627370496) = q by omega]; rfl
  have hm : M r = r := by unfold M; rw [if_pos h]
  refine ⟨L + 1, q - 4503599627370496, ⟨by omega, by omega, by omega, by omega, ?_⟩, ?_⟩
  · rw [hm, show 4503599627370496 + (q - 4503599627370496) = q by omega, show L + 1 - 1 = L by omega, hr]
  · rw [← hr, ← hM, rung_M (by omega)]

theorem norm_plain {r : Nat} (h : 4503599627370496 ≤ r) (hr : r < 9218868437227405312) : ∃ E f, NP r E f 0 ∧ r = E * 4503599627370496 + f := by
  have hw : r = r / 4503599627370496 * 4503599627370496 + r % 4503599627370496 := by omega
  have h1 : 1 ≤ r / 4503599627370496 := by omega
  have h2 : r / 4503599627370496 ≤ 2046 := by omega
  have h3 : r % 4503599627370496 < 4503599627370496 := by omega
  generalize r / 4503599627370496 = E at *
  generalize r % 4503599627370496 = f at *
  refine ⟨E, f, ⟨h3, h1, h2, by omega, ?_⟩, hw⟩
  rw [Nat.pow_zero, Nat.mul_one, hw, M_word h3 h1]

theorem mulBad_pos {r s : Nat} (hr : r < 9218868437227405312) (hs : s < 9218868437227405312) : mulBad (r : Int) (s : Int) = false := by
  have mr := mag_pos (r := r) (by omega)
  have ms := mag_pos (r := s) (by omega)
  unfold mulBad
  rw [nan_pos (r := r) (by omega), nan_pos (r := s) (by omega), fin_inf (a := (r : Int)) (by omega), fin_inf (a := (s : Int)) (by omega)]
  generalize decide (mag (r : Int) = 0) = x
  generalize decide (mag (s : Int) = 0) = y
  cases x <;> cases y <;> rfl
theorem MZ_pos {r : Nat} (hr : r ≤ 9218868437227405312) : MZ (r : Int) = M r := by
  unfold MZ
  rw [mag_pos hr, Int.toNat_natCast]
theorem below_pos {r : Nat} (hr : r ≤ 9218868437227405312) : belowB (r : Int) = false := by
  unfold belowB; exact decide_eq_false (by omega)
theorem mulZ_pos {r s : Nat} (v : Nat) (hr : r < 9218868437227405312) (hs : s < 9218868437227405312) (h : M r * M s = v * 2 ^ OP) : mulZ (r : Int) (s : Int) = ((rung 0 v : Nat) : Int) := by
  have mr := mag_pos (r := r) (by omega)
  have ms := mag_pos (r := s) (by omega)
  have hm := mulZ_finite (a := (r : Int)) (b := (s : Int)) (by omega) (by omega)
  rw [MZ_pos (by omega), MZ_pos (by omega), h, rung_units, below_pos (by omega), below_pos (by omega)] at hm
  rw [hm]
  generalize rung 0 v = x
  show (0 : Int) + (x : Int) = (x : Int)
  omega
/-- A product of two numbers that is a whole number of units. -/
theorem mul_pos {r s : Nat} (v : Nat) (hr : r < 9218868437227405312) (hs : s < 9218868437227405312) (h : M r * M s = v * 2 ^ OP) : floatBits .mul .f64 r s = some (rung 0 v) := by
  have hm := mul_some (u64_pos (r := r) (by omega)) (u64_pos (r := s) (by omega)) (mulBad_pos hr hs)
  rw [mulZ_pos v hr hs h, Int.toNat_natCast, Int.toNat_natCast, Int.toNat_natCast] at hm
  exact hm

theorem sub_pos {r z : Nat} (hr : r < 9218868437227405312) (hz : z < 9218868437227405312) (h : M z ≤ M r) : floatBits .sub .f64 r z = some (rung 0 (M r - M z)) := by
  have mr := mag_pos (r := r) (by omega)
  have mz := mag_pos (r := z) (by omega)
  have nz : nanB (z : Int) = false := nan_pos (by omega)
  have uz : U64 (z : Int) := u64_pos (by omega)
  have hn := neg_parts uz nz
  have b1 : belowB (r : Int) = false := decide_eq_false (by omega)
  have b2 : belowB (z : Int) = false := decide_eq_false (by omega)
  have hs := sub_add (a := (r : Int)) uz nz
  have hb : addBad (r : Int) (negZ (z : Int)) = false := by
    unfold addBad
    rw [nan_pos (by omega), fin_nan (by omega), fin_inf (a := (r : Int)) (by omega)]
    simp
  rw [add_some (u64_pos (r := r) (by omega)) (negZ_u64 uz) hb, Int.toNat_natCast, Int.toNat_natCast] at hs
  rw [hs]
  have e : addZ (r : Int) (negZ (z : Int)) = (rung 0 (M r - M z) : Nat) := by
    unfold addZ
    rw [hb, fin_inf (by omega), fin_inf (by omega)]
    have sv1 : SV (r : Int) = (M r : Nat) := by
      unfold SV MZ sz; rw [b1, mr, Int.toNat_natCast]; rfl
    have sv2 : SV (negZ (z : Int)) = -((M z : Nat) : Int) := by
      unfold SV MZ sz; rw [hn.2, hn.1, b2, mz, Int.toNat_natCast]; rfl
    rw [sv1, sv2, b1]
    simp only [Bool.false_eq_true, if_false, Bool.false_and]
    unfold nearZ
    generalize M r = R at *
    generalize M z = Z at *
    by_cases c : R = Z
    · rw [if_pos (by omega), show R - Z = 0 by omega, rung_tiny (Nat.zero_le _)]; rfl
    · rw [if_neg (by omega), decide_eq_false (by omega), show ((R : Int) + -(Z : Int)).natAbs = R - Z by omega]
      unfold sgn; simp
  rw [e, Int.toNat_natCast]

theorem rep_sub {r z : Nat} (hr : r < 9218868437227405312) (h1 : M z ≤ M r) (h2 : M r ≤ 2 * M z) : Rep (M r - M z) := by
  have hzr : z ≤ r := by
    apply Classical.byContradiction; intro c
    have := M_mono (show r < z by omega); omega
  obtain ⟨e1, q1, _⟩ := M_parts r
  obtain ⟨e2, q2, _⟩ := M_parts z
  have hl := pl_mono hzr
  have hlt := M_lt hr
  have e3 : M r = pq r * 2 ^ (pl r - pl z) * 2 ^ pl z := by rw [e1, Nat.mul_assoc, ← pow_split hl]
  have e4 : M r - M z = (pq r * 2 ^ (pl r - pl z) - pq z) * 2 ^ pl z := by rw [Nat.sub_mul, ← e3, ← e2]
  have hd : M r - M z ≤ M z := by omega
  have hd2 : M r - M z < 2 ^ TP := by omega
  rw [e4] at hd hd2 ⊢
  rw [e2] at hd
  exact rep_lt (Nat.lt_of_le_of_lt (Nat.le_of_mul_le_mul_right hd (Nat.two_pow_pos _)) q2) hd2

theorem NP_pos {r E f k : Nat} (h : NP r E f k) : 0 < M r := by
  obtain ⟨_, _, _, _, e⟩ := h
  rcases Nat.eq_zero_or_pos (M r) with c | c
  · rw [c, Nat.zero_mul] at e
    have := Nat.mul_pos (show 0 < 4503599627370496 + f by omega) (Nat.two_pow_pos (E - 1))
    omega
  · exact c

/-- How often the divisor is doubled, by the powers and the fractions of both. -/
theorem mod_step {R Y p q s t : Nat} (h : R * 2 ^ p * t = Y * 2 ^ q * s) (hY : 0 < Y) (hR : Y ≤ R) (t0 : 4503599627370496 ≤ t) (t1 : t < 9007199254740992) (s0 : 4503599627370496 ≤ s) (s1 : s < 9007199254740992) :
    ∃ n : Nat, (q : Int) - p - (if s < t then 1 else 0) = n ∧ Y * 2 ^ n ≤ R ∧ R ≤ 2 * (Y * 2 ^ n) := by
  by_cases c : s < t
  · -- R·2^p < Y·2^q ≤ 2·R·2^p
    have a1 : R * 2 ^ p < Y * 2 ^ q := by
      apply Classical.byContradiction; intro k
      have k1 : Y * 2 ^ q * s ≤ R * 2 ^ p * s := Nat.mul_le_mul_right _ (by omega)
      have hRp : 0 < R * 2 ^ p := Nat.mul_pos (by omega) (Nat.two_pow_pos _)
      have k2 : R * 2 ^ p * s < R * 2 ^ p * t := Nat.mul_lt_mul_of_pos_left c hRp
      omega
    have a2 : Y * 2 ^ q ≤ 2 * (R * 2 ^ p) := by
      have k1 : R * 2 ^ p * t ≤ R * 2 ^ p * (2 * s) := Nat.mul_le_mul_left _ (by omega)
      have k2 : Y * 2 ^ q * s ≤ (2 * (R * 2 ^ p)) * s := by
        rw [← h]; refine Nat.le_trans k1 (Nat.le_of_eq ?_)
        rw [Nat.mul_comm 2 s, ← Nat.mul_assoc, Nat.mul_comm 2 (R * 2 ^ p), Nat.mul_assoc, Nat.mul_assoc (R * 2 ^ p) 2 s, Nat.mul_comm 2 s]
      exact Nat.le_of_mul_le_mul_right k2 (by omega)
    have hpq : p < q := by
      apply Classical.byContradiction; intro k
      have k1 : Y * 2 ^ q ≤ R * 2 ^ p := Nat.mul_le_mul hR (Nat.pow_le_pow_right (by decide) (by omega))
      omega
    have hs : 2 ^ q = 2 ^ (q - p - 1) * 2 * 2 ^ p := by rw [← Nat.pow_succ, ← Nat.pow_add]; congr 1; omega
    refine ⟨q - p - 1, by rw [if_pos c]; omega, ?_, ?_⟩
    · rw [hs, ← Nat.mul_assoc, ← Nat.mul_assoc, ← Nat.mul_assoc] at a2
      have := Nat.le_of_mul_le_mul_right a2 (Nat.two_pow_pos _)
      omega
    · rw [hs, ← Nat.mul_assoc, ← Nat.mul_assoc] at a1
      have := Nat.lt_of_mul_lt_mul_right a1
      omega
  · have a1 : Y * 2 ^ q ≤ R * 2 ^ p := by
      have k1 : Y * 2 ^ q * t ≤ Y * 2 ^ q * s := Nat.mul_le_mul_left _ (by omega)
      rw [← h] at k1
      exact Nat.le_of_mul_le_mul_right k1 (by omega)
    have a2 : R * 2 ^ p < 2 * (Y * 2 ^ q) := by
      apply Classical.byContradiction; intro k
      have hYq : 0 < Y * 2 ^ q := Nat.mul_pos hY (Nat.two_pow_pos _)
      have k1 : 2 * (Y * 2 ^ q) * t ≤ R * 2 ^ p * t := Nat.mul_le_mul_right _ (by omega)
      have k2 : Y * 2 ^ q * s < Y * 2 ^ q * (2 * t) := Nat.mul_lt_mul_of_pos_left (by omega) hYq
      have k3 : Y * 2 ^ q * (2 * t) = 2 * (Y * 2 ^ q) * t := by
        rw [Nat.mul_comm 2 t, ← Nat.mul_assoc, Nat.mul_comm 2 (Y * 2 ^ q), Nat.mul_assoc, Nat.mul_assoc (Y * 2 ^ q) 2 t, Nat.mul_comm 2 t]
      omega
    have hpq : p ≤ q := by
      apply Classical.byContradiction; intro k
      have k1 : Y * 2 ^ (q + 1) ≤ R * 2 ^ p := Nat.mul_le_mul hR (Nat.pow_le_pow_right (by decide) (by omega))
      rw [Nat.pow_succ, ← Nat.mul_assoc] at k1
      omega
    have hs : 2 ^ q = 2 ^ (q - p) * 2 ^ p := by rw [← Nat.pow_add]; congr 1; omega
    refine ⟨q - p, by rw [if_neg c]; omega, ?_, ?_⟩
    · rw [hs, ← Nat.mul_assoc] at a1
      exact Nat.le_of_mul_le_mul_right a1 (Nat.two_pow_pos _)
    · have a3 : R * 2 ^ p < 2 * (Y * 2 ^ (q - p)) * 2 ^ p := by rw [Nat.mul_assoc, Nat.mul_assoc, ← hs]; exact a2
      exact Nat.le_of_lt (Nat.lt_of_mul_lt_mul_right a3)

/-- The same, of two numbers by their parts. -/
theorem mod_parts {r y E f k e g l : Nat} (hr : NP r E f k) (hy : NP y e g l) (h : y ≤ r) :
    ∃ n : Nat, ((E : Int) - 1022 - k - (if f < g then 1 else 0)) - ((e : Int) - 1022 - l) = n ∧ M y * 2 ^ n ≤ M r ∧ M r ≤ 2 * (M y * 2 ^ n) := by
  have hM : M y ≤ M r := by
    rcases Nat.eq_or_lt_of_le h with c | c
    · rw [c]; exact Nat.le_refl _
    · exact Nat.le_of_lt (M_mono c)
  have p0 := NP_pos hy
  obtain ⟨a1, a2, a3, a4, a5⟩ := hr
  obtain ⟨b1, b2, b3, b4, b5⟩ := hy
  generalize M r = R at *
  generalize M y = Y at *
  have hh : R * 2 ^ (k + (e - 1)) * (4503599627370496 + g) = Y * 2 ^ (l + (E - 1)) * (4503599627370496 + f) := by
    rw [Nat.pow_add, Nat.pow_add, ← Nat.mul_assoc, ← Nat.mul_assoc, a5, b5]
    generalize 2 ^ (E - 1) = x
    generalize 2 ^ (e - 1) = z
    generalize 4503599627370496 + f = s
    generalize 4503599627370496 + g = t
    rw [Nat.mul_comm s x, Nat.mul_assoc x s z, Nat.mul_comm s z, Nat.mul_assoc, Nat.mul_assoc z s t, Nat.mul_comm t z, Nat.mul_assoc, Nat.mul_assoc, Nat.mul_left_comm x z, Nat.mul_comm s t, Nat.mul_left_comm x t s]
  obtain ⟨n, h1, h2, h3⟩ := mod_step hh p0 hM (by omega) (by omega) (by omega) (by omega)
  refine ⟨n, ?_, h2, h3⟩
  rw [← h1]
  by_cases c : f < g
  · rw [if_pos c, if_pos (by omega)]; omega
  · rw [if_neg c, if_neg (by omega)]; omega

end Go.Proofs.Ytpgjibfggagbmaa
