/-
  math.Frexp and math.Ldexp of numbers above nought.
-/
import Derived.Test.YtpgjibfggagbmaaQuoModWalk
namespace Go.Proofs.Ytpgjibfggagbmaa
open Go.RowKit Flo

theorem cut_expo {z E f : Nat} (hz : z = E * 4503599627370496 + f) (hf : f < 4503599627370496) (hE : E ≤ 2046) : bits .andNot .u64 (z : Int) 9218868437227405312 = (f : Int) := by
  rw [u64_andNot (z : Int) _ (by omega) (by omega) (by decide) (by decide), Int.toNat_natCast]
  have e : 18446744073709551615 - (9218868437227405312 : Int).toNat = 2 ^ 63 ||| (2 ^ 52 - 1) := by decide
  have e2 : z &&& 2 ^ 63 = 0 := by
    apply Nat.eq_of_testBit_eq
    intro i
    rw [Nat.testBit_and, Nat.testBit_two_pow, Nat.zero_testBit]
    by_cases c : 63 = i
    · subst c; rw [Nat.testBit_lt_two_pow (show z < 2 ^ 63 by omega)]; rfl
    · rw [decide_eq_false c, Bool.and_false]
  rw [e, Nat.and_or_distrib_left, Nat.and_two_pow_sub_one_eq_mod, e2, Nat.zero_or]
  omega
theorem take_expo {z E f : Nat} (hz : z = E * 4503599627370496 + f) (hf : f < 4503599627370496) (hE : E ≤ 2046) : bits .and .u64 ((z : Int) / 4503599627370496) 2047 = (E : Int) := by
  rw [and_expo ⟨by omega, by omega⟩]
  unfold expo; omega
theorem put_expo {f y : Nat} (e : Int) (h0 : 0 ≤ e) (h1 : e ≤ 2046) (hf : f < 4503599627370496) (hy : y = e.toNat * 4503599627370496 + f) : bits .or .u64 (f : Int) (e * 4503599627370496) = (y : Int) := by
  rw [u64_or _ _ (by omega) (by omega) (by omega) (by omega), Nat.or_comm, nat_join 52 _ _ (by omega) (by omega)]
  omega

theorem frexp_any (r E f k y z : Nat) (h0 : 0 < r) (h1 : r < 9218868437227405312) (hn : NP r E f k) (hy : y = 1022 * 4503599627370496 + f) (hz : z = E * 4503599627370496 + f)
    (H : ∀ w, Calls Try.prog 71 #[.float .f64 r] w fun e w' => e = .returned (.tuple #[.float .f64 z, .int .i64 (-(k : Int))]) ∧ w' = w) (w : World) :
    Calls Try.prog 68 #[.float .f64 r] w fun e w' => e = .returned (.tuple #[.float .f64 y, .int .i64 ((E : Int) - 1022 - k)]) ∧ w' = w := by
  obtain ⟨hf, e0, e1, hk, _⟩ := hn
  have t1 := take_expo hz hf e1
  have t2 := cut_expo hz hf e1
  have t3 := put_expo 1022 (by decide) (by decide) hf hy
  rw [show (1022 : Int) * 4503599627370496 = 4602678819172646912 by decide] at t3
  have tb := bits_run z
  have tf := frombits_run (y : Int)
  rw [Int.toNat_natCast] at tf
  have hq := eq_pos (r := r) (s := 0) (by omega) (by decide)
  rw [decide_eq_false (by omega)] at hq
  have H' : Hid _ := H
  clear H hy hz
  rw [show (E : Int) - 1022 - k = -(k : Int) + ((E : Int) - 1023 + 1) by omega]
  go_enter Try.func68, Try.ntmps68
  go_wp2_with fail
  refine (isInf_pos r _ h1).mono ?_
  rintro e w' ⟨rfl, hw'⟩
  rw [hw']
  clear hw' w'
  go_wp2_with fail
  refine (isNaN_pos r _ (by omega)).mono ?_
  rintro e w' ⟨rfl, hw'⟩
  rw [hw']
  clear hw' w'
  go_wp2_with fail
  refine (H'.out _).mono ?_
  rintro e w' ⟨rfl, hw'⟩
  rw [hw']
  clear hw' w'
  go_wp2
  go_ret2
  exact ⟨rfl, rfl⟩

/-- Frexp, with its answer made ahead. -/
theorem mathFrexp_any (r : Nat) (h0 : 0 < r) (h1 : r < 9218868437227405312) :
    ∃ E f k y, NP r E f k ∧ y = 1022 * 4503599627370496 + f ∧ ∀ w, Calls Try.prog 64 #[.float .f64 r] w fun e w' => e = .returned (.tuple #[.float .f64 y, .int .i64 ((E : Int) - 1022 - k)]) ∧ w' = w := by
  obtain ⟨E, f, k, hn, H⟩ := normalize_any r h0 h1
  obtain ⟨y, hy⟩ : ∃ y, y = 1022 * 4503599627370496 + f := ⟨_, rfl⟩
  refine ⟨E, f, k, y, hn, hy, ?_⟩
  intro w
  have H2 : Hid _ := frexp_any r E f k y _ h0 h1 hn hy rfl H
  clear H hy
  go_enter Try.func64, Try.ntmps64
  go_wp2_with fail
  refine (H2.out _).mono ?_
  rintro e w' ⟨rfl, hw'⟩
  rw [hw']
  clear hw' w'
  go_wp2
  go_ret2
  exact ⟨rfl, rfl⟩

theorem pow52 (l : Nat) : 4503599627370496 * 2 ^ l = 2 ^ (52 + l) := by rw [Nat.pow_add]
theorem M_twos (l : Nat) : M (l * 4503599627370496 + 4503599627370496) = 2 ^ (52 + l) := by
  rw [M_at (by decide) (Or.inr (Nat.le_refl _)), pow52]
theorem M_one : M 4607182418800017408 = 2 ^ OP := by
  have hO : OP = 52 + 1022 := rfl
  rw [show 4607182418800017408 = 1022 * 4503599627370496 + 4503599627370496 by decide, M_twos, hO]
/-- The float 2 to the -53rd. -/
theorem M_less53 : M 4368491638549381120 = 2 ^ (OP - 53) := by
  have hO : OP - 53 = 52 + 969 := rfl
  rw [show 4368491638549381120 = 969 * 4503599627370496 + 4503599627370496 by decide, M_twos, hO]
theorem shift_eq {s Y E k n c j : Nat} (e : Y * 2 ^ k = s * 2 ^ (E - 1)) (h : j + k = E - 1 + n + c) : s * 2 ^ j = Y * 2 ^ n * 2 ^ c := by
  have : s * 2 ^ j * 2 ^ k = Y * 2 ^ n * 2 ^ c * 2 ^ k := by
    rw [Nat.mul_right_comm _ (2 ^ c), Nat.mul_right_comm Y, e, Nat.mul_assoc, ← Nat.pow_add, h, Nat.pow_add, Nat.pow_add, ← Nat.mul_assoc, ← Nat.mul_assoc]
  exact Nat.mul_right_cancel (Nat.two_pow_pos _) this

/-- Where Ldexp's answer lies. -/
theorem ldexp_room {y E f k n : Nat} (hn : NP y E f k) (h : M y * 2 ^ n < 2 ^ TP) : E + n ≤ 2046 + k := by
  obtain ⟨hf, e0, e1, hk, e⟩ := hn
  have h1 : M y * 2 ^ n * 2 ^ k < 2 ^ TP * 2 ^ k := Nat.mul_lt_mul_of_pos_right h (Nat.two_pow_pos _)
  rw [Nat.mul_right_comm, e, ← Nat.pow_add] at h1
  have h2 : 2 ^ 52 * 2 ^ (E - 1) * 2 ^ n ≤ (4503599627370496 + f) * 2 ^ (E - 1) * 2 ^ n :=
    Nat.mul_le_mul_right _ (Nat.mul_le_mul_right _ (by omega))
  rw [← Nat.pow_add, ← Nat.pow_add] at h2
  have h3 : (2 : Nat) ^ (52 + (E - 1) + n) < 2 ^ (TP + k) := Nat.lt_of_le_of_lt h2 h1
  have h4 := (Nat.pow_lt_pow_iff_right (by decide)).1 h3
  rw [TP_eq] at h4
  omega

theorem ldexp_plain {y E f k n x : Nat} (hn : NP y E f k) (hk : k < E + n) (hr : E + n ≤ 2046 + k) (hx : x = (E + n - k) * 4503599627370496 + f) : floatBits .mul .f64 4607182418800017408 x = some (rung 0 (M y * 2 ^ n)) := by
  obtain ⟨hf, e0, e1, _, e⟩ := hn
  refine mul_pos _ (by decide) (by omega) ?_
  rw [M_one, Nat.mul_comm, hx, M_word hf (by omega), shift_eq (c := 0) e (n := n) (by omega), Nat.pow_zero, Nat.mul_one]
theorem ldexp_tiny {y E f k n x : Nat} (hn : NP y E f k) (hk : E + n ≤ k) (hx : x = (E + n + 53 - k) * 4503599627370496 + f) : floatBits .mul .f64 4368491638549381120 x = some (rung 0 (M y * 2 ^ n)) := by
  obtain ⟨hf, e0, e1, k5, e⟩ := hn
  refine mul_pos _ (by decide) (by omega) ?_
  obtain ⟨p, hp, hp2⟩ : ∃ p, p = OP - 53 ∧ 53 + p = OP := ⟨_, rfl, rfl⟩
  rw [M_less53, ← hp, Nat.mul_comm, hx, M_word hf (by omega), shift_eq (c := 53) e (n := n) (by omega), ← hp2, Nat.pow_add, Nat.mul_assoc]

theorem i64_and2047 (n : Int) : bits .and .i64 n 2047 = n % 2048 := by
  have h : (BitVec.ofInt 64 2047).toNat = 2 ^ 11 - 1 := by decide
  have key : (BitVec.ofInt 64 n &&& BitVec.ofInt 64 2047).toNat = (n % ((2 ^ 64 : Nat) : Int)).toNat % 2 ^ 11 := by
    rw [BitVec.toNat_and, BitVec.toNat_ofInt, h, Nat.and_two_pow_sub_one_eq_mod]
  show IntKind.i64.wrap ((BitVec.ofInt 64 n &&& BitVec.ofInt 64 2047).toNat : Nat) = n % 2048
  rw [key, IntKind.wrap_i64]
  omega
theorem ldexp_any (y E f k n x z : Nat) (h0 : 0 < y) (h1 : y < 9218868437227405312) (hn : NP y E f k) (hz : z = E * 4503599627370496 + f) (h : M y * 2 ^ n < 2 ^ TP) (hx : x = rung 0 (M y * 2 ^ n))
    (H : ∀ w, Calls Try.prog 71 #[.float .f64 y] w fun e w' => e = .returned (.tuple #[.float .f64 z, .int .i64 (-(k : Int))]) ∧ w' = w) (w : World) :
    Calls Try.prog 70 #[.float .f64 y, .int .i64 (n : Int)] w fun e w' => e = .returned (.float .f64 x) ∧ w' = w := by
  have hroom := ldexp_room hn h
  obtain ⟨hf, e0, e1, hk, he⟩ := id hn
  clear he
  have t1 : bits .and .i64 (E : Int) 2047 = (E : Int) := by
    rw [i64_and2047]; omega
  have t2 := cut_expo hz hf e1
  have tb := bits_run z
  have hq := eq_pos (r := y) (s := 0) (by omega) (by decide)
  rw [decide_eq_false (by omega)] at hq
  have hd : (z : Int) / 4503599627370496 = (E : Int) := by omega
  have H' : Hid _ := H
  clear H h
  by_cases c : E + n ≤ k
  · obtain ⟨u, hu⟩ : ∃ u, u = (E + n + 53 - k) * 4503599627370496 + f := ⟨_, rfl⟩
    have hm := ldexp_tiny hn c hu
    rw [← hx] at hm
    have hop := fun t => run_float_arith w .mul t .f64 4368491638549381120 u x hm (P := Try.prog)
    have tf := frombits_run (u : Int)
    rw [Int.toNat_natCast] at tf
    clear hx hm hn
    have t4 : ((n : Int) + -(k : Int) + ((E : Int) - 1023) + 53 + 1023).toNat = E + n + 53 - k ∧ 0 ≤ (n : Int) + -(k : Int) + ((E : Int) - 1023) + 53 + 1023 ∧ (n : Int) + -(k : Int) + ((E : Int) - 1023) + 53 + 1023 ≤ 2046 := by omega
    have t3 := put_expo (y := u) ((n : Int) + -(k : Int) + ((E : Int) - 1023) + 53 + 1023) t4.2.1 t4.2.2 hf (by rw [t4.1]; exact hu)
    clear t4
    clear hz hu
    go_enter Try.func70, Try.ntmps70
    go_wp2_with fail
    refine (isInf_pos y _ h1).mono ?_
    rintro e w' ⟨rfl, hw'⟩
    rw [hw']
    clear hw' w'
    go_wp2_with fail
    refine (isNaN_pos y _ (by omega)).mono ?_
    rintro e w' ⟨rfl, hw'⟩
    rw [hw']
    clear hw' w'
    go_wp2_with fail
    refine (H'.out _).mono ?_
    rintro e w' ⟨rfl, hw'⟩
    rw [hw']
    clear hw' w'
    go_wp2
    go_ret
    exact ⟨rfl, rfl⟩
  · obtain ⟨u, hu⟩ : ∃ u, u = (E + n - k) * 4503599627370496 + f := ⟨_, rfl⟩
    have hm := ldexp_plain hn (by omega) hroom hu
    rw [← hx] at hm
    have hop := fun t => run_float_arith w .mul t .f64 4607182418800017408 u x hm (P := Try.prog)
    have tf := frombits_run (u : Int)
    rw [Int.toNat_natCast] at tf
    clear hx hm hn
    have t4 : ((n : Int) + -(k : Int) + ((E : Int) - 1023) + 1023).toNat = E + n - k ∧ 0 ≤ (n : Int) + -(k : Int) + ((E : Int) - 1023) + 1023 ∧ (n : Int) + -(k : Int) + ((E : Int) - 1023) + 1023 ≤ 2046 := by omega
    have t3 := put_expo (y := u) ((n : Int) + -(k : Int) + ((E : Int) - 1023) + 1023) t4.2.1 t4.2.2 hf (by rw [t4.1]; exact hu)
    clear t4
    clear hz hu
    go_enter Try.func70, Try.ntmps70
    go_wp2_with fail
    refine (isInf_pos y _ h1).mono ?_
    rintro e w' ⟨rfl, hw'⟩
    rw [hw']
    clear hw' w'
    go_wp2_with fail
    refine (isNaN_pos y _ (by omega)).mono ?_
    rintro e w' ⟨rfl, hw'⟩
    rw [hw']
    clear hw' w'
    go_wp2_with fail
    refine (H'.out _).mono ?_
    rintro e w' ⟨rfl, hw'⟩
    rw [hw']
    clear hw' w'
    go_wp2
    go_ret
    exact ⟨rfl, rfl⟩

/-- Ldexp of a number, doubled n times, that is a number. -/
theorem mathLdexp_any (y n : Nat) (h0 : 0 < y) (h1 : y < 9218868437227405312) (h : M y * 2 ^ n < 2 ^ TP) (x : Nat) (hx : x = rung 0 (M y * 2 ^ n)) (w : World) :
    Calls Try.prog 65 #[.float .f64 y, .int .i64 (n : Int)] w fun e w' => e = .returned (.float .f64 x) ∧ w' = w := by
  obtain ⟨E, f, k, hn, H⟩ := normalize_any y h0 h1
  have H2 : Hid _ := ldexp_any y E f k n x _ h0 h1 hn rfl h hx H
  clear H hn h hx
  go_enter Try.func65, Try.ntmps65
  go_wp2_with fail
  refine (H2.out _).mono ?_
  rintro e w' ⟨rfl, hw'⟩
  rw [hw']
  clear hw' w'
  go_wp2
  go_ret
  exact ⟨rfl, rfl⟩

end Go.Proofs.Ytpgjibfggagbmaa
