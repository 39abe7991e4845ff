/-
  The reference of layer 2: Sum, Add, Sub, Neg, Mul.
-/
import Derived.Test.YtpjgmlhchaojaaaSumRef
namespace Go.Proofs.Ytpjgmlhchaojaaa
open Go.RowKit Dg Flo

/-- The sum of two finite numbers, without rounding. -/
theorem exact_at (a b : Int) (w : World) (ha : U64 a) (hb : U64 b) (fa : mag a < 9218868437227405312) (fb : mag b < 9218868437227405312) :
    Calls Try.prog 78 #[.int .u64 a, .int .u64 b] w fun e w' => ∃ (v : Value) (N l : Nat) (ng : Bool), e = .returned (.tuple #[.bool ng, .int .i64 (min (pexp a) (pexp b)), v]) ∧ D w' v N l ∧ l ≤ 1048576 ∧ Below w.heap.size w w' ∧
      sz ng (N * 2 ^ (min (pexp a) (pexp b) + 1074).toNat) = SV a + SV b := by
  obtain ⟨f, f1, f2, f3, f4, f5⟩ := parts_fin ha fa
  obtain ⟨h, h1, h2, h3, h4, h5⟩ := parts_fin hb fb
  obtain ⟨i, hi⟩ : ∃ i : Nat, pexp a - min (pexp a) (pexp b) = (i : Int) := ⟨(pexp a - min (pexp a) (pexp b)).toNat, by omega⟩
  obtain ⟨j, hj⟩ : ∃ j : Nat, pexp b - min (pexp a) (pexp b) = (j : Int) := ⟨(pexp b - min (pexp a) (pexp b)).toNat, by omega⟩
  refine (exact_walk a b (pexp a) (pexp b) (min (pexp a) (pexp b)) (belowB a) (belowB b) f h i j w ha hb rfl rfl f1 rfl rfl h1 f2 h2 f3 f4 h3 h4 rfl hi hj).mono ?_
  rintro e w' ⟨v, N, l, ng, he, hD, hl, hB, hP⟩
  refine ⟨v, N, l, ng, he, hD, hl, hB, ?_⟩
  obtain ⟨c, hc⟩ : ∃ c, c = 2 ^ (min (pexp a) (pexp b) + 1074).toNat := ⟨_, rfl⟩
  have e1 : f * 2 ^ i * c = MZ a := by
    rw [← f5, hc, Nat.mul_assoc, ← Nat.pow_add]
    congr 2; omega
  have e2 : h * 2 ^ j * c = MZ b := by
    rw [← h5, hc, Nat.mul_assoc, ← Nat.pow_add]
    congr 2; omega
  rw [← hc]
  unfold SV
  rw [← e1, ← e2]
  generalize f * 2 ^ i = X at *
  generalize h * 2 ^ j = Y at *
  rcases hP with ⟨p1, rfl, rfl⟩ | ⟨p1, rfl, p3, rfl⟩ | ⟨p1, rfl, p3, rfl⟩
  · rw [← p1, sz_add, Nat.add_mul]
  · rw [sz_sub p1 (Nat.mul_le_mul_right _ p3), Nat.sub_mul]
  · rw [sz_sub2 p1 (Nat.mul_le_mul_right _ p3), Nat.sub_mul]

theorem exact_any (a b : Int) (w : World) (ha : U64 a) (hb : U64 b) (fa : mag a < 9218868437227405312) (fb : mag b < 9218868437227405312) :
    ∃ low : Int, -1074 ≤ low ∧ low ≤ 971 ∧ Calls Try.prog 78 #[.int .u64 a, .int .u64 b] w fun e w' => ∃ (v : Value) (N l : Nat) (ng : Bool), e = .returned (.tuple #[.bool ng, .int .i64 low, v]) ∧ D w' v N l ∧ l ≤ 1048576 ∧ Below w.heap.size w w' ∧
      sz ng (N * 2 ^ (low + 1074).toNat) = SV a + SV b := by
  obtain ⟨f, f1, f2, f3, f4, f5⟩ := parts_fin ha fa
  obtain ⟨h, h1, h2, h3, h4, h5⟩ := parts_fin hb fb
  exact ⟨min (pexp a) (pexp b), by omega, by omega, exact_at a b w ha hb fa fb⟩

theorem sz_zero {s : Bool} {n : Nat} : sz s n = 0 ↔ n = 0 := by unfold sz; cases s <;> simp
theorem sz_neg {s : Bool} {n : Nat} (h : n ≠ 0) : decide (sz s n < 0) = s := by unfold sz; cases s <;> simp <;> omega
theorem sz_abs (s : Bool) (n : Nat) : (sz s n).natAbs = n := by unfold sz; cases s <;> simp
theorem MZ_zero {a : Int} (h0 : 0 ≤ mag a) : MZ a = 0 ↔ mag a = 0 := by
  unfold MZ
  have := @M_inj (mag a).toNat 0
  rw [M_zero] at this
  rw [this]
  omega
theorem zero_signs {a b : Int} (ha : U64 a) (hb : U64 b) (h : SV a + SV b = 0) (h2 : (belowB a && belowB b) = true) : mag a = 0 ∧ mag b = 0 := by
  have h3 : belowB a = true := by revert h2; cases belowB a <;> simp
  have h4 : belowB b = true := by revert h2; cases belowB b <;> simp
  unfold SV sz at h
  rw [h3, h4] at h
  simp only [if_true] at h
  exact ⟨(MZ_zero (mag_range ha).1).1 (by omega), (MZ_zero (mag_range hb).1).1 (by omega)⟩
theorem kind_zero0 {a : Int} (h : mag a = 0) : kindZ a = 0 := by unfold kindZ; rw [h]; rfl

theorem rung_one (v : Nat) : rung 1 (2 * v) = rung 0 v := by
  have := rung_scale 0 v 1
  rw [Nat.zero_add, Nat.pow_one, Nat.mul_comm v 2] at this
  exact this

theorem round_one (v : Value) (N l : Nat) (exp : Int) (neg : Bool) (w : World) (hD : D w v N l) (hl : l ≤ 1048576) (e1 : -1074 ≤ exp) (e2 : exp ≤ 16777216) :
    Calls Try.prog 29 #[.bool neg, .int .i64 exp, v, .bool false] w fun e w' => e = .returned (.int .u64 (sgn neg + (rung 0 (N * 2 ^ (exp + 1074).toNat) : Nat))) ∧ Below w.heap.size w w' := by
  have h := round_any v N l 1 exp false neg w hD hl (by omega) e2 (by omega) (by simp)
  have e : (2 * N + false.toNat) * 2 ^ (exp + 1073 + ((1 : Nat) : Int)).toNat = 2 * (N * 2 ^ (exp + 1074).toNat) := by
    rw [show exp + 1073 + ((1 : Nat) : Int) = exp + 1074 by omega]
    simp only [Bool.toNat_false, Nat.add_zero]
    rw [Nat.mul_assoc]
  rw [e, rung_one] at h
  exact h

set_option maxHeartbeats 1000000 in
theorem refSum_any (a b : Int) (w : World) (ha : U64 a) (hb : U64 b) (fa : mag a < 9218868437227405312) (fb : mag b < 9218868437227405312) :
    Calls Try.prog 77 #[.int .u64 a, .int .u64 b] w fun e w' => e = .returned (.int .u64 (nearZ (belowB a && belowB b) (SV a + SV b))) ∧ Below w.heap.size w w' := by
  obtain ⟨low, l1, l2, hE⟩ := exact_any a b w ha hb fa fb
  obtain ⟨T, hT⟩ : ∃ T, T = SV a + SV b := ⟨_, rfl⟩
  rw [← hT] at hE ⊢
  have HE : Hid _ := hE
  clear hE
  have HZ : Hid (T = 0 → (belowB a && belowB b) = true → mag a = 0 ∧ mag b = 0) := fun k k2 => zero_signs ha hb (by omega) k2
  clear hT
  obtain ⟨R, hR⟩ : ∃ R, R = nearZ (belowB a && belowB b) T := ⟨_, rfl⟩
  rw [← hR]
  have HR : Hid (R = nearZ (belowB a && belowB b) T) := hR
  clear hR
  go_enter Try.func77, Try.ntmps77
  go_wp2_with fail
  refine Calls.mono HE.out ?_
  rintro e w1 ⟨v1, N, l, ng, rfl, hd1, hl1, hb1, hS⟩
  have HS : Hid (sz ng (N * 2 ^ (low + 1074).toNat) = T) := hS
  clear hS
  go_wp2_with fail
  refine (trim_any _ N l _ hd1 (by omega)).mono ?_
  rintro e w2 ⟨v2, rfl, hd2, hb2⟩
  have hb3 := hb1.trans (hb2.mono hb1.size)
  have hd3 := hd1.below hb2
  obtain ⟨g, cap, rfl, -, -, -, -⟩ := hd2.shape
  clear hd1 hd2 hb1 hb2
  by_cases c : N = 0
  · subst c
    have hT : T = 0 := by rw [← HS.out, Nat.zero_mul]; exact sz_zero.2 rfl
    have hN : R = sgn (belowB a && belowB b) := by rw [HR.out]; unfold nearZ; rw [if_pos hT]
    have HN : Hid (R = sgn (belowB a && belowB b)) := hN
    have dz : dlen 0 = 0 := rfl
    rw [dz]
    have hz := HZ.out hT
    clear hT hN HZ HE HS hd3 dz HR
    cases s : (belowB a && belowB b)
    · rw [s] at HN
      have hs : (if false = true then (9223372036854775808 : Int) else 0) = 0 := rfl
      have HS2 : Hid (∀ (q : Bool) w, q = false → Calls Try.prog 46 #[.bool q] w fun e w' => e = .returned (.int .u64 0) ∧ w' = w) := by
        intro q w hq; subst hq; exact refSign_any false w
      clear hz hs
      cases sa : belowB a
      · go_wp2_with (first | (go_at_call 25; refine (refKind_any _ _ (by assumption)).mono ?_; rintro e w' ⟨rfl, rfl⟩) | (go_at_call 37; refine (refNeg_any _ _ (by assumption)).mono ?_; rintro e w' ⟨rfl, rfl⟩) | (go_at_call 46; refine (HS2.out _ _ (by simp)).mono ?_; rintro e w' ⟨rfl, rfl⟩))
        all_goals
          go_ret
          exact ⟨by rw [HN.out]; rfl, hb3⟩
      · have sb : belowB b = false := by rw [sa] at s; simpa using s
        go_wp2_with (first | (go_at_call 25; refine (refKind_any _ _ (by assumption)).mono ?_; rintro e w' ⟨rfl, rfl⟩) | (go_at_call 37; refine (refNeg_any _ _ (by assumption)).mono ?_; rintro e w' ⟨rfl, rfl⟩) | (go_at_call 46; refine (HS2.out _ _ (by simp)).mono ?_; rintro e w' ⟨rfl, rfl⟩))
        all_goals
          go_ret
          exact ⟨by rw [HN.out]; rfl, hb3⟩
    · have h3 := kind_zero0 (hz s).1
      have h4 := kind_zero0 (hz s).2
      have s1 : belowB a = true := by revert s; cases belowB a <;> simp
      have s2 : belowB b = true := by revert s; cases belowB b <;> simp
      rw [s] at HN
      clear hz s
      go_wp2_with (first | (go_at_call 25; refine (refKind_any _ _ (by assumption)).mono ?_; rintro e w' ⟨rfl, rfl⟩) | (go_at_call 37; refine (refNeg_any _ _ (by assumption)).mono ?_; rintro e w' ⟨rfl, rfl⟩) | (go_at_call 46; refine (refSign_any true _).mono ?_; rintro e w' ⟨rfl, rfl⟩))
      go_ret
      exact ⟨by rw [HN.out]; rfl, hb3⟩
  · have dz : (((dlen N : Nat) : Int) == 0) = false := by
      rw [beq_eq_false_iff_ne]
      unfold dlen
      rw [if_neg c]
      omega
    have hp : N * 2 ^ (low + 1074).toNat ≠ 0 := Nat.mul_ne_zero c (by have := Nat.two_pow_pos (low + 1074).toNat; omega)
    have hN : R = sgn ng + (rung 0 (N * 2 ^ (low + 1074).toNat) : Nat) := by
      rw [HR.out, ← HS.out]
      unfold nearZ
      rw [if_neg (fun k => hp (sz_zero.1 k)), sz_neg hp, sz_abs]
    have HN : Hid (R = sgn ng + (rung 0 (N * 2 ^ (low + 1074).toNat) : Nat)) := hN
    clear hN hp HZ HE HS HR
    go_wp2_with fail
    refine (round_one _ N l low ng _ hd3 hl1 l1 (by omega)).mono ?_
    rintro e w3 ⟨rfl, hb4⟩
    go_wp2
    go_ret
    exact ⟨by rw [HN.out]; rfl, hb3.trans (hb4.mono hb3.size)⟩

end Go.Proofs.Ytpjgmlhchaojaaa
