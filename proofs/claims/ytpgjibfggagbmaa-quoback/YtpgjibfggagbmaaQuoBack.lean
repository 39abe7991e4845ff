/-
  The statement QuoBack.
-/
import Derived.Test.YtpgjibfggagbmaaQuoRest
import Derived.Test.YtpgjibfggagbmaaDigQuiet
namespace Go.Proofs.Ytpgjibfggagbmaa
open Go.RowKit Dg Flo

theorem whole3_any (n : Nat) (w : World) (hn : n < 9007199254740992) : Calls Try.prog 21 #[.int .u64 n] w fun e w' => e = .returned (.int .u64 (wholeN n : Nat)) ∧ Below w.heap.size w w' := by
  have HR : Hid (∀ v w, D w v n 4 → Calls Try.prog 31 #[.bool false, .int .i64 0, v, .bool false] w fun e w' => e = .returned (.int .u64 (wholeN n : Nat)) ∧ Below w.heap.size w w') := by
    intro v w hD
    have h := round_one v n 4 0 false w hD (by decide) (by decide) (by decide)
    have e : sgn false + ((rung 0 (n * 2 ^ ((0 : Int) + 1074).toNat) : Nat) : Int) = ((wholeN n : Nat) : Int) := by
      rw [show ((0 : Int) + 1074).toNat = OP from rfl]
      unfold sgn wholeN; simp
    rw [e] at h
    exact h
  go_enter Try.func21, Try.ntmps21
  go_wp2_with fail
  refine (digits_any n _ (by omega)).mono ?_
  rintro e w1 ⟨v1, rfl, hd1, hb1⟩
  go_wp2_with fail
  refine (HR.out _ _ hd1).mono ?_
  rintro e w2 ⟨rfl, hb2⟩
  go_wp2
  go_ret
  exact ⟨rfl, hb1.trans (hb2.mono hb1.size)⟩
theorem whole3_at (n : Nat) (N : Int) (w : World) (hN : N = (n : Int)) (hn : n < 9007199254740992) : Calls Try.prog 21 #[.int .u64 N] w fun e w' => e = .returned (.int .u64 (wholeN n : Nat)) ∧ Below w.heap.size w w' := by
  rw [hN]; exact whole3_any n w hn

set_option maxHeartbeats 2000000 in
theorem quoBack_walk (a b : Int) (w : World) (ha0 : 0 ≤ a) (ha1 : a < 4294967296) (hb0 : 0 ≤ b) (hb1 : b < 4294967296) :
    Calls Try.prog 6 #[.int .u32 a, .int .u32 b] w fun e w' => e = .returned (.bool true) ∧ Below w.heap.size w w' := by
  obtain ⟨x, hx⟩ : ∃ x : Nat, a / 64 = (x : Int) := ⟨(a / 64).toNat, by omega⟩
  obtain ⟨y, hy⟩ : ∃ y : Nat, b / 64 = (y : Int) := ⟨(b / 64).toNat, by omega⟩
  have x1 : x < 67108864 := by omega
  have y1 : y < 67108864 := by omega
  have xy : x * y ≤ 4503599493152769 := Nat.mul_le_mul (show x ≤ 67108863 by omega) (show y ≤ 67108863 by omega)
  have xx : x * x ≤ 4503599493152769 := Nat.mul_le_mul (show x ≤ 67108863 by omega) (show x ≤ 67108863 by omega)
  obtain ⟨p, hp⟩ : ∃ p : Nat, p = x * y := ⟨_, rfl⟩
  have hpi : (x : Int) * (y : Int) = (p : Int) := by rw [hp]; push_cast; rfl
  have p1 : p ≤ 4503599493152769 := by omega
  obtain ⟨s, hs⟩ : ∃ s : Nat, s = x * x := ⟨_, rfl⟩
  have hsi : (x : Int) * (x : Int) = (s : Int) := by rw [hs]; push_cast; rfl
  have s1 : s ≤ 4503599493152769 := by omega
  have R1 := fun w => sqrt_any (wholeN (x * x) : Nat) w (whole_parts (by omega)).2.2.2.2
  rw [back_root x1, ← hs] at R1
  have HRt : Hid (∀ w, _) := R1
  have W1 : Hid (∀ w, _) := fun w => whole3_any x w (by omega)
  have W2 : Hid (∀ w, _) := fun w => whole3_any y w (by omega)
  have W3 : Hid (∀ w (N : Int), N = (s : Int) → _) := fun w N hN => whole3_at s N w hN (by omega)
  have W4 : Hid (∀ w (N : Int), N = (p : Int) → _) := fun w N hN => whole3_at p N w hN (by omega)
  clear R1
  by_cases h0 : y = 0
  · subst h0
    clear hp hs xy xx W4 hpi W2
    generalize ((wholeN x : Nat) : Int) = X at *
    generalize ((wholeN s : Nat) : Int) = Z at *
    go_enter Try.func6, Try.ntmps6
    go_wp2_with fail
    refine (W3.out _ _ (by omega)).mono ?_
    rintro e w1 ⟨rfl, hb1⟩
    go_wp2_with fail
    refine (HRt.out _).mono ?_
    rintro e w2 ⟨rfl, hb2⟩
    replace hb2 := hb1.trans (hb2.mono hb1.size)
    go_wp2_with fail
    refine (W1.out _).mono ?_
    rintro e w3 ⟨rfl, hb3⟩
    replace hb3 := hb2.trans (hb3.mono hb2.size)
    go_wp2_with fail
    refine (W3.out _ _ (by omega)).mono ?_
    rintro e w4 ⟨rfl, hb4⟩
    replace hb4 := hb3.trans (hb4.mono hb3.size)
    go_wp2_with fail
    refine (HRt.out _).mono ?_
    rintro e w5 ⟨rfl, hb5⟩
    replace hb5 := hb4.trans (hb5.mono hb4.size)
    go_wp2_with fail
    refine (W1.out _).mono ?_
    rintro e w6 ⟨rfl, hb6⟩
    replace hb6 := hb5.trans (hb6.mono hb5.size)
    go_wp2_with fail
    refine (quoLives_any _).mono ?_
    rintro e w7 ⟨rfl, hb7⟩
    go_wp2
    go_ret
    exact ⟨rfl, hb6.trans (hb7.mono hb6.size)⟩
  · have D1 := fun w => div_any (wholeN (x * y) : Nat) (wholeN y : Nat) w (whole_parts (by omega)).2.2.2.2 (whole_parts (by omega)).2.2.2.2
    rw [back_div x1 y1 h0, ← hp] at D1
    have hmod := Nat.mod_lt x (show 0 < y by omega)
    have M1 := fun w => rem_any (wholeN (x * y + x % y) : Nat) (wholeN y : Nat) w (whole_parts (by omega)).2.2.2.2 (whole_parts (by omega)).2.2.2.2
    rw [back_rem x1 y1 h0, ← hp] at M1
    obtain ⟨t, ht⟩ : ∃ t : Nat, t = x % y := ⟨_, rfl⟩
    have hti : (x : Int) % (y : Int) = (t : Int) := by rw [ht]; push_cast; rfl
    rw [← ht] at M1 hmod
    have HD : Hid (∀ w, _) := D1
    have HM : Hid (∀ w, _) := M1
    have W5 : Hid (∀ w (N : Int), N = ((p + t : Nat) : Int) → _) := fun w N hN => whole3_at (p + t) N w hN (by omega)
    have W6 : Hid (∀ w (N : Int), N = (t : Int) → _) := fun w N hN => whole3_at t N w hN (by omega)
    have hy0 : ((y : Int) == 0) = false := by rw [beq_eq_false_iff_ne]; omega
    clear hp hs xy xx D1 M1 ht
    generalize ((wholeN x : Nat) : Int) = X at *
    generalize ((wholeN s : Nat) : Int) = Z at *
    generalize ((wholeN y : Nat) : Int) = Y at *
    generalize ((wholeN p : Nat) : Int) = P at *
    generalize ((wholeN (p + t) : Nat) : Int) = Q at *
    generalize ((wholeN t : Nat) : Int) = T at *
    go_enter Try.func6, Try.ntmps6
    go_wp2_with fail
    refine (W3.out _ _ (by omega)).mono ?_
    rintro e w1 ⟨rfl, hb1⟩
    go_wp2_with fail
    refine (HRt.out _).mono ?_
    rintro e w2 ⟨rfl, hb2⟩
    replace hb2 := hb1.trans (hb2.mono hb1.size)
    go_wp2_with fail
    refine (W1.out _).mono ?_
    rintro e w3 ⟨rfl, hb3⟩
    replace hb3 := hb2.trans (hb3.mono hb2.size)
    have hti2 : Int.tmod (x : Int) (y : Int) = (t : Int) := by rw [← hti]; exact Int.tmod_eq_emod_of_nonneg (by omega)
    have hy1 : ((y : Int) = 0) = False := by simp; omega
    go_wp2_with fail
    have hInh : Inhabited (BelowOf w3) := ⟨⟨w3, Below.refl _ _⟩⟩
    refine wp_region_below (by kernel_rfl) (by kernel_rfl) ?_
    repeat (quiet_step ((first
      | (go_at_call 21; refine below_of (W1.out _))
      | (go_at_call 21; refine below_of (W2.out _))
      | (go_at_call 9; refine below_of (HD.out _))
      | (go_at_call 12; refine below_of (HM.out _))
      | (go_at_call 11; refine below_of (quoLives_any _))
      | (go_at_call 21; refine below_of (W6.out _ _ ?_); first | rfl | omega | (simp only [IntKind.wrap_u64]; omega))
      | (go_at_call 21; refine below_of (W4.out _ _ ?_); first | rfl | omega | (simp only [IntKind.wrap_u64]; omega))
      | (go_at_call 21; refine below_of (W5.out _ _ ?_); first | rfl | omega | (simp only [IntKind.wrap_u64]; omega)))))
    refine wpQuiet_nil ?_
    intro _ hw'
    obtain ⟨⟨wq, hwq⟩, hw''⟩ := hw'
    subst hw''
    go_wp2
    go_ret
    exact ⟨rfl, hb3.trans (hwq.mono hb3.size)⟩

end Go.Proofs.Ytpgjibfggagbmaa
