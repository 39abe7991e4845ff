/-
  The reference's Is, round, Trunc, Floor, Ceil, Near.
-/
import Derived.Test.YtpjgmlhchaojaaaWholeHalves
namespace Go.Proofs.Ytpjgmlhchaojaaa
open Go.RowKit Dg Flo

theorem div_small {a : Int} (ha : U64 a) (h : mag a < 9218868437227405312) : MZ a / UN < 2 ^ (TP - OP) := by
  have h1 : MZ a < 2 ^ TP := M_lt (mag_nat ha h)
  have h2 : OP ≤ TP := by rw [OP_eq, TP_eq]; decide
  rw [Nat.div_lt_iff_lt_mul UN_pos, UN_eq, ← Nat.pow_add, Nat.sub_add_cancel h2]
  exact h1
theorem dlen_whole {a : Int} (ha : U64 a) (h : mag a < 9218868437227405312) : dlen (MZ a / UN) ≤ 1001 := dlen_pow (div_small ha h) (by rw [OP_eq, TP_eq]; decide)
theorem dlen_whole1 {a : Int} (ha : U64 a) (h : mag a < 9218868437227405312) : dlen (MZ a / UN + 1) ≤ 1048576 := by
  have h1 := div_small ha h
  have h2 : MZ a / UN + 1 < 2 ^ (TP - OP + 1) := by
    rw [Nat.pow_succ]
    have := Nat.two_pow_pos (TP - OP)
    omega
  exact Nat.le_trans (dlen_pow h2 (k := 1001) (by rw [OP_eq, TP_eq]; decide)) (by decide)
theorem round_un (v : Value) (N l : Nat) (neg : Bool) (w : World) (hD : D w v N l) (hl : l ≤ 1048576) :
    Calls Try.prog 29 #[.bool neg, .int .i64 0, v, .bool false] w fun e w' => e = .returned (.int .u64 (sgn neg + (rung 0 (N * UN) : Nat))) ∧ Below w.heap.size w w' := by
  have h := round_one v N l 0 neg w hD hl (by decide) (by decide)
  have e : N * 2 ^ ((0 : Int) + 1074).toNat = N * UN := by
    have ex : ((0 : Int) + 1074).toNat = OP := rfl
    rw [ex, UN_eq]
  rw [e] at h
  exact h
theorem bit_zero (v : Value) (N l : Nat) (w : World) (hD : D w v N l) : Calls Try.prog 57 #[v, .int .i64 0] w fun e w' => e = .returned (.int .u64 ((N % 2 : Nat) : Int)) ∧ w' = w := by
  have h := bit_any v N l 0 w hD (by decide) (by decide)
  rw [show (0 : Int).toNat = 0 from rfl, Nat.pow_zero, Nat.div_one] at h
  exact h

set_option maxHeartbeats 2000000 in
theorem round_fin0 (a : Int) (w : World) (ha : U64 a) (h : mag a < 9218868437227405312) :
    Calls Try.prog 42 #[.int .u64 a, .int .i64 0] w fun e w' => e = .returned (.int .u64 (wholeZ 0 a)) ∧ Below w.heap.size w w' := by
  obtain ⟨a1, a2⟩ := kind_lt3 ha h
  have hk : decide (3 ≤ kindZ a) = false := by
    rcases kind_fin h (mag_range ha).1 with ⟨_, k⟩ | ⟨_, _, k⟩ | ⟨_, k⟩ <;> rw [k] <;> decide
  have HK : Hid _ := fun w => refKind_any a w ha
  have HH : Hid _ := fun w => halves_any a w ha h
  have HNg : Hid _ := fun w => refNeg_any a w ha
  have hl : dlen (MZ a / UN) ≤ 1001 := dlen_whole ha h
  have hl1 : dlen (MZ a / UN + 1) ≤ 1048576 := dlen_whole1 ha h
  have HL1 : Hid (dlen (MZ a / UN + 1) ≤ 1048576) := hl1
  have HR0 : Hid (∀ v l w, D w v (MZ a / UN) l → l ≤ 1048576 → Calls Try.prog 29 #[.bool (belowB a), .int .i64 0, v, .bool false] w fun e w' => e = .returned (.int .u64 (sgn (belowB a) + (rung 0 (MZ a / UN * UN) : Nat))) ∧ Below w.heap.size w w') := fun v l w hD hl => round_un v _ l _ w hD hl
  have HR1 : Hid (∀ v l w, D w v (MZ a / UN + 1) l → l ≤ 1048576 → Calls Try.prog 29 #[.bool (belowB a), .int .i64 0, v, .bool false] w fun e w' => e = .returned (.int .u64 (sgn (belowB a) + (rung 0 ((MZ a / UN + 1) * UN) : Nat))) ∧ Below w.heap.size w w') := fun v l w hD hl => round_un v _ l _ w hD hl
  rw [wholeZ_fin h]
  unfold wcut
  rw [show farB UN 0 (belowB a) (MZ a) = false from rfl, Bool.toNat_false, Nat.add_zero]
  generalize sgn (belowB a) + ((rung 0 (MZ a / UN * UN) : Nat) : Int) = R0 at *
  generalize sgn (belowB a) + ((rung 0 ((MZ a / UN + 1) * UN) : Nat) : Int) = R1 at *
  generalize decide (MZ a % UN ≠ 0) = rs at *
  generalize cmpZ (2 * (MZ a % UN)) UN = C at *
  generalize belowB a = n at *
  generalize MZ a / UN = W at *
  generalize kindZ a = K at *
  clear a1 a2 hl1
  go_enter Try.func42, Try.ntmps42
  go_wp2_with fail
  refine (HK.out _).mono ?_
  rintro e w' ⟨rfl, hw'⟩
  rw [hw']
  clear hw' w'
  go_wp2_with fail
  refine (HH.out _).mono ?_
  rintro e w1 ⟨v1, rfl, hd1, hb1⟩
  go_wp2_with fail
  refine (HNg.out _).mono ?_
  rintro e w' ⟨rfl, hw'⟩
  rw [hw']
  clear hw' w'
  go_wp2_with fail
  refine (HR0.out _ _ _ hd1 (by omega)).mono ?_
  rintro e w2 ⟨rfl, hb2⟩
  go_wp2
  go_ret
  exact ⟨rfl, hb1.trans (hb2.mono hb1.size)⟩

set_option maxHeartbeats 2000000 in
theorem round_fin1 (a : Int) (w : World) (ha : U64 a) (h : mag a < 9218868437227405312) :
    Calls Try.prog 42 #[.int .u64 a, .int .i64 1] w fun e w' => e = .returned (.int .u64 (wholeZ 1 a)) ∧ Below w.heap.size w w' := by
  obtain ⟨a1, a2⟩ := kind_lt3 ha h
  have hk : decide (3 ≤ kindZ a) = false := by
    rcases kind_fin h (mag_range ha).1 with ⟨_, k⟩ | ⟨_, _, k⟩ | ⟨_, k⟩ <;> rw [k] <;> decide
  have HK : Hid _ := fun w => refKind_any a w ha
  have HH : Hid _ := fun w => halves_any a w ha h
  have HNg : Hid _ := fun w => refNeg_any a w ha
  have hl : dlen (MZ a / UN) ≤ 1001 := dlen_whole ha h
  have hl1 : dlen (MZ a / UN + 1) ≤ 1048576 := dlen_whole1 ha h
  have HL1 : Hid (dlen (MZ a / UN + 1) ≤ 1048576) := hl1
  have HR0 : Hid (∀ v l w, D w v (MZ a / UN) l → l ≤ 1048576 → Calls Try.prog 29 #[.bool (belowB a), .int .i64 0, v, .bool false] w fun e w' => e = .returned (.int .u64 (sgn (belowB a) + (rung 0 (MZ a / UN * UN) : Nat))) ∧ Below w.heap.size w w') := fun v l w hD hl => round_un v _ l _ w hD hl
  have HR1 : Hid (∀ v l w, D w v (MZ a / UN + 1) l → l ≤ 1048576 → Calls Try.prog 29 #[.bool (belowB a), .int .i64 0, v, .bool false] w fun e w' => e = .returned (.int .u64 (sgn (belowB a) + (rung 0 ((MZ a / UN + 1) * UN) : Nat))) ∧ Below w.heap.size w w') := fun v l w hD hl => round_un v _ l _ w hD hl
  rw [wholeZ_fin h]
  unfold wcut
  rw [show farB UN 1 (belowB a) (MZ a) = (decide (MZ a % UN ≠ 0) && belowB a) from rfl]
  have w0 : ∀ x : Bool, x = false → sgn (belowB a) + ((rung 0 ((MZ a / UN + x.toNat) * UN) : Nat) : Int) = sgn (belowB a) + ((rung 0 (MZ a / UN * UN) : Nat) : Int) := fun x hx => by rw [hx]; rfl
  have w1 : ∀ x : Bool, x = true → sgn (belowB a) + ((rung 0 ((MZ a / UN + x.toNat) * UN) : Nat) : Int) = sgn (belowB a) + ((rung 0 ((MZ a / UN + 1) * UN) : Nat) : Int) := fun x hx => by rw [hx]; rfl
  generalize sgn (belowB a) + ((rung 0 (MZ a / UN * UN) : Nat) : Int) = R0 at *
  generalize sgn (belowB a) + ((rung 0 ((MZ a / UN + 1) * UN) : Nat) : Int) = R1 at *
  generalize decide (MZ a % UN ≠ 0) = rs at *
  generalize cmpZ (2 * (MZ a % UN)) UN = C at *
  generalize belowB a = n at *
  generalize MZ a / UN = W at *
  generalize kindZ a = K at *
  clear a1 a2 hl1
  have W0 : Hid _ := w0
  have W1 : Hid _ := w1
  clear w0 w1
  cases rs
  · rw [W0.out _ (by simp)]
    go_enter Try.func42, Try.ntmps42
    go_wp2_with fail
    refine (HK.out _).mono ?_
    rintro e w' ⟨rfl, hw'⟩
    rw [hw']
    clear hw' w'
    go_wp2_with fail
    refine (HH.out _).mono ?_
    rintro e w1 ⟨v1, rfl, hd1, hb1⟩
    go_wp2_with fail
    refine (HNg.out _).mono ?_
    rintro e w' ⟨rfl, hw'⟩
    rw [hw']
    clear hw' w'
    go_wp2_with fail
    refine (HR0.out _ _ _ hd1 (by omega)).mono ?_
    rintro e w2 ⟨rfl, hb2⟩
    go_wp2
    go_ret
    exact ⟨rfl, hb1.trans (hb2.mono hb1.size)⟩
  · cases n
    · rw [W0.out _ (by simp)]
      go_enter Try.func42, Try.ntmps42
      go_wp2_with fail
      refine (HK.out _).mono ?_
      rintro e w' ⟨rfl, hw'⟩
      rw [hw']
      clear hw' w'
      go_wp2_with fail
      refine (HH.out _).mono ?_
      rintro e w1 ⟨v1, rfl, hd1, hb1⟩
      go_wp2_with fail
      refine (HNg.out _).mono ?_
      rintro e w' ⟨rfl, hw'⟩
      rw [hw']
      clear hw' w'
      go_wp2_with fail
      refine (HNg.out _).mono ?_
      rintro e w' ⟨rfl, hw'⟩
      rw [hw']
      clear hw' w'
      go_wp2_with fail
      refine (HR0.out _ _ _ hd1 (by omega)).mono ?_
      rintro e w2 ⟨rfl, hb2⟩
      go_wp2
      go_ret
      exact ⟨rfl, hb1.trans (hb2.mono hb1.size)⟩
    · rw [W1.out _ (by simp)]
      go_enter Try.func42, Try.ntmps42
      go_wp2_with fail
      refine (HK.out _).mono ?_
      rintro e w' ⟨rfl, hw'⟩
      rw [hw']
      clear hw' w'
      go_wp2_with fail
      refine (HH.out _).mono ?_
      rintro e w1 ⟨v1, rfl, hd1, hb1⟩
      go_wp2_with fail
      refine (HNg.out _).mono ?_
      rintro e w' ⟨rfl, hw'⟩
      rw [hw']
      clear hw' w'
      have hx1 := hd1.below ((Below.refl w1.heap.size w1).alloc (Nat.le_refl _) (.cells #[.int .u64 ((1 : Nat) : Int)] 22))
      have hx3 := D_one w1 1 (by decide)
      have hb3 : Below w.heap.size w (w1.alloc (.cells #[.int .u64 ((1 : Nat) : Int)] 22)) := hb1.alloc hb1.size _
      clear hd1 hb1
      go_wp2_with fail
      refine (sum_any _ _ _ _ _ _ _ hx1 hx3 (by omega) (by decide)).mono ?_
      rintro e w2 ⟨v2, rfl, hd2, hb2⟩
      replace hb2 := hb3.trans (hb2.mono hb3.size)
      clear hx1 hx3 hb3
      go_wp2_with fail
      refine (HNg.out _).mono ?_
      rintro e w' ⟨rfl, hw'⟩
      rw [hw']
      clear hw' w'
      go_wp2_with fail
      refine (HR1.out _ _ _ hd2 HL1.out).mono ?_
      rintro e w3 ⟨rfl, hb3⟩
      go_wp2
      go_ret
      exact ⟨rfl, hb2.trans (hb3.mono hb2.size)⟩

set_option maxHeartbeats 2000000 in
theorem round_fin2 (a : Int) (w : World) (ha : U64 a) (h : mag a < 9218868437227405312) :
    Calls Try.prog 42 #[.int .u64 a, .int .i64 2] w fun e w' => e = .returned (.int .u64 (wholeZ 2 a)) ∧ Below w.heap.size w w' := by
  obtain ⟨a1, a2⟩ := kind_lt3 ha h
  have hk : decide (3 ≤ kindZ a) = false := by
    rcases kind_fin h (mag_range ha).1 with ⟨_, k⟩ | ⟨_, _, k⟩ | ⟨_, k⟩ <;> rw [k] <;> decide
  have HK : Hid _ := fun w => refKind_any a w ha
  have HH : Hid _ := fun w => halves_any a w ha h
  have HNg : Hid _ := fun w => refNeg_any a w ha
  have hl : dlen (MZ a / UN) ≤ 1001 := dlen_whole ha h
  have hl1 : dlen (MZ a / UN + 1) ≤ 1048576 := dlen_whole1 ha h
  have HL1 : Hid (dlen (MZ a / UN + 1) ≤ 1048576) := hl1
  have HR0 : Hid (∀ v l w, D w v (MZ a / UN) l → l ≤ 1048576 → Calls Try.prog 29 #[.bool (belowB a), .int .i64 0, v, .bool false] w fun e w' => e = .returned (.int .u64 (sgn (belowB a) + (rung 0 (MZ a / UN * UN) : Nat))) ∧ Below w.heap.size w w') := fun v l w hD hl => round_un v _ l _ w hD hl
  have HR1 : Hid (∀ v l w, D w v (MZ a / UN + 1) l → l ≤ 1048576 → Calls Try.prog 29 #[.bool (belowB a), .int .i64 0, v, .bool false] w fun e w' => e = .returned (.int .u64 (sgn (belowB a) + (rung 0 ((MZ a / UN + 1) * UN) : Nat))) ∧ Below w.heap.size w w') := fun v l w hD hl => round_un v _ l _ w hD hl
  rw [wholeZ_fin h]
  unfold wcut
  rw [show farB UN 2 (belowB a) (MZ a) = (decide (MZ a % UN ≠ 0) && !belowB a) from rfl]
  have w0 : ∀ x : Bool, x = false → sgn (belowB a) + ((rung 0 ((MZ a / UN + x.toNat) * UN) : Nat) : Int) = sgn (belowB a) + ((rung 0 (MZ a / UN * UN) : Nat) : Int) := fun x hx => by rw [hx]; rfl
  have w1 : ∀ x : Bool, x = true → sgn (belowB a) + ((rung 0 ((MZ a / UN + x.toNat) * UN) : Nat) : Int) = sgn (belowB a) + ((rung 0 ((MZ a / UN + 1) * UN) : Nat) : Int) := fun x hx => by rw [hx]; rfl
  generalize sgn (belowB a) + ((rung 0 (MZ a / UN * UN) : Nat) : Int) = R0 at *
  generalize sgn (belowB a) + ((rung 0 ((MZ a / UN + 1) * UN) : Nat) : Int) = R1 at *
  generalize decide (MZ a % UN ≠ 0) = rs at *
  generalize cmpZ (2 * (MZ a % UN)) UN = C at *
  generalize belowB a = n at *
  generalize MZ a / UN = W at *
  generalize kindZ a = K at *
  clear a1 a2 hl1
  have W0 : Hid _ := w0
  have W1 : Hid _ := w1
  clear w0 w1
  cases rs
  · rw [W0.out _ (by simp)]
    go_enter Try.func42, Try.ntmps42
    go_wp2_with fail
    refine (HK.out _).mono ?_
    rintro e w' ⟨rfl, hw'⟩
    rw [hw']
    clear hw' w'
    go_wp2_with fail
    refine (HH.out _).mono ?_
    rintro e w1 ⟨v1, rfl, hd1, hb1⟩
    go_wp2_with fail
    refine (HNg.out _).mono ?_
    rintro e w' ⟨rfl, hw'⟩
    rw [hw']
    clear hw' w'
    go_wp2_with fail
    refine (HR0.out _ _ _ hd1 (by omega)).mono ?_
    rintro e w2 ⟨rfl, hb2⟩
    go_wp2
    go_ret
    exact ⟨rfl, hb1.trans (hb2.mono hb1.size)⟩
  · cases n
    · rw [W1.out _ (by simp)]
      go_enter Try.func42, Try.ntmps42
      go_wp2_with fail
      refine (HK.out _).mono ?_
      rintro e w' ⟨rfl, hw'⟩
      rw [hw']
      clear hw' w'
      go_wp2_with fail
      refine (HH.out _).mono ?_
      rintro e w1 ⟨v1, rfl, hd1, hb1⟩
      go_wp2_with fail
      refine (HNg.out _).mono ?_
      rintro e w' ⟨rfl, hw'⟩
      rw [hw']
      clear hw' w'
      have hx1 := hd1.below ((Below.refl w1.heap.size w1).alloc (Nat.le_refl _) (.cells #[.int .u64 ((1 : Nat) : Int)] 22))
      have hx3 := D_one w1 1 (by decide)
      have hb3 : Below w.heap.size w (w1.alloc (.cells #[.int .u64 ((1 : Nat) : Int)] 22)) := hb1.alloc hb1.size _
      clear hd1 hb1
      go_wp2_with fail
      refine (sum_any _ _ _ _ _ _ _ hx1 hx3 (by omega) (by decide)).mono ?_
      rintro e w2 ⟨v2, rfl, hd2, hb2⟩
      replace hb2 := hb3.trans (hb2.mono hb3.size)
      clear hx1 hx3 hb3
      go_wp2_with fail
      refine (HNg.out _).mono ?_
      rintro e w' ⟨rfl, hw'⟩
      rw [hw']
      clear hw' w'
      go_wp2_with fail
      refine (HR1.out _ _ _ hd2 HL1.out).mono ?_
      rintro e w3 ⟨rfl, hb3⟩
      go_wp2
      go_ret
      exact ⟨rfl, hb2.trans (hb3.mono hb2.size)⟩
    · rw [W0.out _ (by simp)]
      go_enter Try.func42, Try.ntmps42
      go_wp2_with fail
      refine (HK.out _).mono ?_
      rintro e w' ⟨rfl, hw'⟩
      rw [hw']
      clear hw' w'
      go_wp2_with fail
      refine (HH.out _).mono ?_
      rintro e w1 ⟨v1, rfl, hd1, hb1⟩
      go_wp2_with fail
      refine (HNg.out _).mono ?_
      rintro e w' ⟨rfl, hw'⟩
      rw [hw']
      clear hw' w'
      go_wp2_with fail
      refine (HNg.out _).mono ?_
      rintro e w' ⟨rfl, hw'⟩
      rw [hw']
      clear hw' w'
      go_wp2_with fail
      refine (HR0.out _ _ _ hd1 (by omega)).mono ?_
      rintro e w2 ⟨rfl, hb2⟩
      go_wp2
      go_ret
      exact ⟨rfl, hb1.trans (hb2.mono hb1.size)⟩

set_option maxHeartbeats 2000000 in
theorem round_fin3 (a : Int) (w : World) (ha : U64 a) (h : mag a < 9218868437227405312) :
    Calls Try.prog 42 #[.int .u64 a, .int .i64 3] w fun e w' => e = .returned (.int .u64 (wholeZ 3 a)) ∧ Below w.heap.size w w' := by
  obtain ⟨a1, a2⟩ := kind_lt3 ha h
  have hk : decide (3 ≤ kindZ a) = false := by
    rcases kind_fin h (mag_range ha).1 with ⟨_, k⟩ | ⟨_, _, k⟩ | ⟨_, k⟩ <;> rw [k] <;> decide
  have HK : Hid _ := fun w => refKind_any a w ha
  have HH : Hid _ := fun w => halves_any a w ha h
  have HNg : Hid _ := fun w => refNeg_any a w ha
  have hl : dlen (MZ a / UN) ≤ 1001 := dlen_whole ha h
  have hl1 : dlen (MZ a / UN + 1) ≤ 1048576 := dlen_whole1 ha h
  have HL1 : Hid (dlen (MZ a / UN + 1) ≤ 1048576) := hl1
  have HR0 : Hid (∀ v l w, D w v (MZ a / UN) l → l ≤ 1048576 → Calls Try.prog 29 #[.bool (belowB a), .int .i64 0, v, .bool false] w fun e w' => e = .returned (.int .u64 (sgn (belowB a) + (rung 0 (MZ a / UN * UN) : Nat))) ∧ Below w.heap.size w w') := fun v l w hD hl => round_un v _ l _ w hD hl
  have HR1 : Hid (∀ v l w, D w v (MZ a / UN + 1) l → l ≤ 1048576 → Calls Try.prog 29 #[.bool (belowB a), .int .i64 0, v, .bool false] w fun e w' => e = .returned (.int .u64 (sgn (belowB a) + (rung 0 ((MZ a / UN + 1) * UN) : Nat))) ∧ Below w.heap.size w w') := fun v l w hD hl => round_un v _ l _ w hD hl
  rw [wholeZ_fin h]
  unfold wcut
  rw [show farB UN 3 (belowB a) (MZ a) = (decide (MZ a % UN ≠ 0) && (decide (0 < cmpZ (2 * (MZ a % UN)) UN) || (cmpZ (2 * (MZ a % UN)) UN == 0 && MZ a / UN % 2 == 1))) from rfl]
  have w0 : ∀ x : Bool, x = false → sgn (belowB a) + ((rung 0 ((MZ a / UN + x.toNat) * UN) : Nat) : Int) = sgn (belowB a) + ((rung 0 (MZ a / UN * UN) : Nat) : Int) := fun x hx => by rw [hx]; rfl
  have w1 : ∀ x : Bool, x = true → sgn (belowB a) + ((rung 0 ((MZ a / UN + x.toNat) * UN) : Nat) : Int) = sgn (belowB a) + ((rung 0 ((MZ a / UN + 1) * UN) : Nat) : Int) := fun x hx => by rw [hx]; rfl
  have HB : Hid (∀ v l w, D w v (MZ a / UN) l → Calls Try.prog 57 #[v, .int .i64 0] w fun e w' => e = .returned (.int .u64 ((MZ a / UN % 2 : Nat) : Int)) ∧ w' = w) := fun v l w hD => bit_zero v _ l w hD
  generalize sgn (belowB a) + ((rung 0 (MZ a / UN * UN) : Nat) : Int) = R0 at *
  generalize sgn (belowB a) + ((rung 0 ((MZ a / UN + 1) * UN) : Nat) : Int) = R1 at *
  generalize decide (MZ a % UN ≠ 0) = rs at *
  generalize cmpZ (2 * (MZ a % UN)) UN = C at *
  generalize belowB a = n at *
  generalize MZ a / UN = W at *
  generalize kindZ a = K at *
  clear a1 a2 hl1
  have W0 : Hid _ := w0
  have W1 : Hid _ := w1
  clear w0 w1
  cases rs
  · rw [W0.out _ (by simp)]
    go_enter Try.func42, Try.ntmps42
    go_wp2_with fail
    refine (HK.out _).mono ?_
    rintro e w' ⟨rfl, hw'⟩
    rw [hw']
    clear hw' w'
    go_wp2_with fail
    refine (HH.out _).mono ?_
    rintro e w1 ⟨v1, rfl, hd1, hb1⟩
    go_wp2_with fail
    refine (HNg.out _).mono ?_
    rintro e w' ⟨rfl, hw'⟩
    rw [hw']
    clear hw' w'
    go_wp2_with fail
    refine (HR0.out _ _ _ hd1 (by omega)).mono ?_
    rintro e w2 ⟨rfl, hb2⟩
    go_wp2
    go_ret
    exact ⟨rfl, hb1.trans (hb2.mono hb1.size)⟩
  · by_cases c1 : 0 < C
    · rw [W1.out _ (by simp [c1])]
      go_enter Try.func42, Try.ntmps42
      go_wp2_with fail
      refine (HK.out _).mono ?_
      rintro e w' ⟨rfl, hw'⟩
      rw [hw']
      clear hw' w'
      go_wp2_with fail
      refine (HH.out _).mono ?_
      rintro e w1 ⟨v1, rfl, hd1, hb1⟩
      have hx1 := hd1.below ((Below.refl w1.heap.size w1).alloc (Nat.le_refl _) (.cells #[.int .u64 ((1 : Nat) : Int)] 22))
      have hx3 := D_one w1 1 (by decide)
      have hb3 : Below w.heap.size w (w1.alloc (.cells #[.int .u64 ((1 : Nat) : Int)] 22)) := hb1.alloc hb1.size _
      clear hd1 hb1
      go_wp2_with fail
      refine (sum_any _ _ _ _ _ _ _ hx1 hx3 (by omega) (by decide)).mono ?_
      rintro e w2 ⟨v2, rfl, hd2, hb2⟩
      replace hb2 := hb3.trans (hb2.mono hb3.size)
      clear hx1 hx3 hb3
      go_wp2_with fail
      refine (HNg.out _).mono ?_
      rintro e w' ⟨rfl, hw'⟩
      rw [hw']
      clear hw' w'
      go_wp2_with fail
      refine (HR1.out _ _ _ hd2 HL1.out).mono ?_
      rintro e w3 ⟨rfl, hb3⟩
      go_wp2
      go_ret
      exact ⟨rfl, hb2.trans (hb3.mono hb2.size)⟩
    · by_cases c2 : C = 0
      · subst c2
        clear c1
        by_cases c3 : W % 2 = 1
        · rw [W1.out _ (by simp [c3])]
          rw [c3] at HB
          go_enter Try.func42, Try.ntmps42
          go_wp2_with fail
          refine (HK.out _).mono ?_
          rintro e w' ⟨rfl, hw'⟩
          rw [hw']
          clear hw' w'
          go_wp2_with fail
          refine (HH.out _).mono ?_
          rintro e w1 ⟨v1, rfl, hd1, hb1⟩
          go_wp2_with fail
          refine (HB.out _ _ _ hd1).mono ?_
          rintro e w' ⟨rfl, hw'⟩
          rw [hw']
          clear hw' w'
          have hx1 := hd1.below ((Below.refl w1.heap.size w1).alloc (Nat.le_refl _) (.cells #[.int .u64 ((1 : Nat) : Int)] 22))
          have hx3 := D_one w1 1 (by decide)
          have hb3 : Below w.heap.size w (w1.alloc (.cells #[.int .u64 ((1 : Nat) : Int)] 22)) := hb1.alloc hb1.size _
          clear hd1 hb1
          go_wp2_with fail
          refine (sum_any _ _ _ _ _ _ _ hx1 hx3 (by omega) (by decide)).mono ?_
          rintro e w2 ⟨v2, rfl, hd2, hb2⟩
          replace hb2 := hb3.trans (hb2.mono hb3.size)
          clear hx1 hx3 hb3
          go_wp2_with fail
          refine (HNg.out _).mono ?_
          rintro e w' ⟨rfl, hw'⟩
          rw [hw']
          clear hw' w'
          go_wp2_with fail
          refine (HR1.out _ _ _ hd2 HL1.out).mono ?_
          rintro e w3 ⟨rfl, hb3⟩
          go_wp2
          go_ret
          exact ⟨rfl, hb2.trans (hb3.mono hb2.size)⟩
        · rw [W0.out _ (by simp [c3])]
          rw [show W % 2 = 0 by omega] at HB
          go_enter Try.func42, Try.ntmps42
          go_wp2_with fail
          refine (HK.out _).mono ?_
          rintro e w' ⟨rfl, hw'⟩
          rw [hw']
          clear hw' w'
          go_wp2_with fail
          refine (HH.out _).mono ?_
          rintro e w1 ⟨v1, rfl, hd1, hb1⟩
          go_wp2_with fail
          refine (HB.out _ _ _ hd1).mono ?_
          rintro e w' ⟨rfl, hw'⟩
          rw [hw']
          clear hw' w'
          go_wp2_with fail
          refine (HNg.out _).mono ?_
          rintro e w' ⟨rfl, hw'⟩
          rw [hw']
          clear hw' w'
          go_wp2_with fail
          refine (HR0.out _ _ _ hd1 (by omega)).mono ?_
          rintro e w2 ⟨rfl, hb2⟩
          go_wp2
          go_ret
          exact ⟨rfl, hb1.trans (hb2.mono hb1.size)⟩
      · rw [W0.out _ (by simp [c1, c2])]
        have c4 : (C == 0) = false := beq_false_of_ne c2
        have c5 : decide (0 < C) = false := decide_eq_false c1
        clear c1 c2
        go_enter Try.func42, Try.ntmps42
        go_wp2_with fail
        refine (HK.out _).mono ?_
        rintro e w' ⟨rfl, hw'⟩
        rw [hw']
        clear hw' w'
        go_wp2_with fail
        refine (HH.out _).mono ?_
        rintro e w1 ⟨v1, rfl, hd1, hb1⟩
        go_wp2_with fail
        refine (HNg.out _).mono ?_
        rintro e w' ⟨rfl, hw'⟩
        rw [hw']
        clear hw' w'
        go_wp2_with fail
        refine (HR0.out _ _ _ hd1 (by omega)).mono ?_
        rintro e w2 ⟨rfl, hb2⟩
        go_wp2
        go_ret
        exact ⟨rfl, hb1.trans (hb2.mono hb1.size)⟩

end Go.Proofs.Ytpjgmlhchaojaaa
