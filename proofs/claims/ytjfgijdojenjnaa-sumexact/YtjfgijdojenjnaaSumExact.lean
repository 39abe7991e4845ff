/-
  The statement SumExact.
-/
import Derived.Test.YtjfgijdojenjnaaSumLaws
import Derived.Test.YtjfgijdojenjnaaSumRef2
namespace Go.Proofs.Ytjfgijdojenjnaa
open Go.RowKit Dg Flo

theorem whole_any (n : Nat) (w : World) (hn : n < 9007199254740992) : Calls Try.prog 17 #[.int .u64 n] w fun e w' => e = .returned (.int .u64 (wholeN n : Nat)) ∧ Below w.heap.size w w' := by
  have HR : Hid (∀ v w, D w v n 4 → Calls Try.prog 25 #[.bool false, .int .i64 0, v, .bool false] w fun e w' => e = .returned (.int .u64 (wholeN n : Nat)) ∧ Below w.heap.size w w') := by
    intro v w hD
    have h := round_one v n 4 0 false w hD (by decide) (by decide) (by decide)
    have e : sgn false + ((rung 0 (n * 2 ^ ((0 : Int) + 1074).toNat) : Nat) : Int) = ((wholeN n : Nat) : Int) := by
      rw [show ((0 : Int) + 1074).toNat = OP from rfl]
      unfold sgn wholeN; simp
    rw [e] at h
    exact h
  go_enter Try.func17, Try.ntmps17
  go_wp2_with fail
  refine (digits_any n _ (by omega)).mono ?_
  rintro e w1 ⟨v1, rfl, hd1, hb1⟩
  go_wp2_with fail
  refine (HR.out _ _ hd1).mono ?_
  rintro e w2 ⟨rfl, hb2⟩
  go_wp2
  go_ret
  exact ⟨rfl, hb1.trans (hb2.mono hb1.size)⟩
theorem whole_at (n : Nat) (N : Int) (w : World) (hN : N = (n : Int)) (hn : n < 9007199254740992) : Calls Try.prog 17 #[.int .u64 N] w fun e w' => e = .returned (.int .u64 (wholeN n : Nat)) ∧ Below w.heap.size w w' := by
  rw [hN]; exact whole_any n w hn

set_option maxHeartbeats 1000000 in
theorem sumExact_walk (a b : Int) (w : World) (ha0 : 0 ≤ a) (ha1 : a < 4294967296) (hb0 : 0 ≤ b) (hb1 : b < 4294967296) :
    Calls Try.prog 5 #[.int .u32 a, .int .u32 b] w fun e w' => e = .returned (.bool true) ∧ Below w.heap.size w w' := by
  obtain ⟨x, hx⟩ : ∃ x : Nat, a / 64 = (x : Int) := ⟨(a / 64).toNat, by omega⟩
  obtain ⟨y, hy⟩ : ∃ y : Nat, b / 64 = (y : Int) := ⟨(b / 64).toNat, by omega⟩
  have x1 : x < 67108864 := by omega
  have y1 : y < 67108864 := by omega
  have xy : x * y ≤ 4503599493152769 := Nat.mul_le_mul (show x ≤ 67108863 by omega) (show y ≤ 67108863 by omega)
  obtain ⟨p, hp⟩ : ∃ p : Nat, p = x * y := ⟨_, rfl⟩
  have hpi : (x : Int) * (y : Int) = (p : Int) := by rw [hp]; push_cast; rfl
  have p1 : p < 9007199254740992 := by omega
  have A1 := fun w => add_any (wholeN x : Nat) (wholeN y : Nat) w (whole_parts (by omega)).2.2.2.2 (whole_parts (by omega)).2.2.2.2
  rw [exact_add x1 y1] at A1
  have M1 := fun w => mul_any (wholeN x : Nat) (wholeN y : Nat) w (whole_parts (by omega)).2.2.2.2 (whole_parts (by omega)).2.2.2.2
  rw [exact_mul x1 y1, ← hp] at M1
  have S1 := fun w => sub_any (wholeN (x + y) : Nat) (wholeN y : Nat) w (whole_parts (by omega)).2.2.2.2 (whole_parts (by omega)).2.2.2.2
  rw [exact_sub x1 y1] at S1
  have W1 : Hid (∀ w, _) := fun w => whole_any x w (by omega)
  have W2 : Hid (∀ w, _) := fun w => whole_any y w (by omega)
  have W3 : Hid (∀ w (N : Int), N = ((x + y : Nat) : Int) → _) := fun w N hN => whole_at (x + y) N w hN (by omega)
  have W4 : Hid (∀ w (N : Int), N = (p : Int) → _) := fun w N hN => whole_at p N w hN p1
  have HA : Hid (∀ w, _) := A1
  have HM : Hid (∀ w, _) := M1
  have HS : Hid (∀ w, _) := S1
  clear A1 M1 S1 hp xy
  generalize ((wholeN x : Nat) : Int) = X at *
  generalize ((wholeN y : Nat) : Int) = Y at *
  generalize ((wholeN (x + y) : Nat) : Int) = Z at *
  generalize ((wholeN p : Nat) : Int) = P at *
  go_enter Try.func5, Try.ntmps5
  go_wp2_with fail
  refine (W1.out _).mono ?_
  rintro e w1 ⟨rfl, hb1⟩
  go_wp2_with fail
  refine (W2.out _).mono ?_
  rintro e w2 ⟨rfl, hb2⟩
  replace hb2 := hb1.trans (hb2.mono hb1.size)
  go_wp2_with fail
  refine (HA.out _).mono ?_
  rintro e w3 ⟨rfl, hb3⟩
  replace hb3 := hb2.trans (hb3.mono hb2.size)
  go_wp2_with fail
  refine (W3.out _ _ (by omega)).mono ?_
  rintro e w4 ⟨rfl, hb4⟩
  replace hb4 := hb3.trans (hb4.mono hb3.size)
  go_wp2_with fail
  refine (W1.out _).mono ?_
  rintro e w5 ⟨rfl, hb5⟩
  replace hb5 := hb4.trans (hb5.mono hb4.size)
  go_wp2_with fail
  refine (W2.out _).mono ?_
  rintro e w6 ⟨rfl, hb6⟩
  replace hb6 := hb5.trans (hb6.mono hb5.size)
  go_wp2_with fail
  refine (HM.out _).mono ?_
  rintro e w7 ⟨rfl, hb7⟩
  replace hb7 := hb6.trans (hb7.mono hb6.size)
  go_wp2_with fail
  refine (W4.out _ _ (by omega)).mono ?_
  rintro e w8 ⟨rfl, hb8⟩
  replace hb8 := hb7.trans (hb8.mono hb7.size)
  go_wp2_with fail
  refine (W1.out _).mono ?_
  rintro e w9 ⟨rfl, hb9⟩
  replace hb9 := hb8.trans (hb9.mono hb8.size)
  go_wp2_with fail
  refine (W2.out _).mono ?_
  rintro e w10 ⟨rfl, hb10⟩
  replace hb10 := hb9.trans (hb10.mono hb9.size)
  go_wp2_with fail
  refine (HA.out _).mono ?_
  rintro e w11 ⟨rfl, hb11⟩
  replace hb11 := hb10.trans (hb11.mono hb10.size)
  go_wp2_with fail
  refine (W2.out _).mono ?_
  rintro e w12 ⟨rfl, hb12⟩
  replace hb12 := hb11.trans (hb12.mono hb11.size)
  go_wp2_with fail
  refine (HS.out _).mono ?_
  rintro e w13 ⟨rfl, hb13⟩
  replace hb13 := hb12.trans (hb13.mono hb12.size)
  go_wp2_with fail
  refine (W1.out _).mono ?_
  rintro e w14 ⟨rfl, hb14⟩
  replace hb14 := hb13.trans (hb14.mono hb13.size)
  go_wp2_with fail
  refine (sumLives_any _).mono ?_
  rintro e w15 ⟨rfl, hb15⟩
  go_wp2
  go_ret
  exact ⟨rfl, hb14.trans (hb15.mono hb14.size)⟩

end Go.Proofs.Ytjfgijdojenjnaa
