/-
  The walk of the reference's Make.
-/
import Derived.Test.YtgkhpnebofijdaaDigMake
namespace Go.Proofs.Ytgkhpnebofijdaa
open Go.RowKit Dg Flo

theorem dlen_small {n k : Nat} (h : n < 65536 ^ k) (hk : k ≤ 1048576) : dlen n ≤ 1048576 := by
  have := dlen_le h; omega

set_option maxHeartbeats 1000000 in
theorem refMake_walk (neg half : Bool) (exp x : Int) (f R : Nat) (w : World) (hf : f < 18446744073709551616) (hx : x = min (max exp (-5000)) 5000)
    (hR : ∀ w u l, D w u (2 * f + half.toNat) l → l ≤ 1048576 → Calls Try.prog 35 #[.bool neg, .int .i64 (x - 1), u, .bool false] w fun e w' => e = .returned (.int .u64 (sgn neg + (R : Int))) ∧ Below w.heap.size w w') :
    Calls Try.prog 17 #[.bool neg, .int .i64 exp, .int .u64 f, .bool half] w fun e w' => e = .returned (.int .u64 (sgn neg + (R : Int))) ∧ Below w.heap.size w w' := by
  have HR : Hid (∀ w u l (X : Int), X = x - 1 → D w u (2 * f + half.toNat) l → l ≤ 1048576 → Calls Try.prog 35 #[.bool neg, .int .i64 X, u, .bool false] w fun e w' => e = .returned (.int .u64 (sgn neg + (R : Int))) ∧ Below w.heap.size w w') := by
    intro w u l X hX
    rw [hX]
    exact hR w u l
  have HX : Hid (x = min (max exp (-5000)) 5000) := hx
  clear hR hx
  generalize sgn neg + (R : Int) = S at *
  have h2 : dlen (f * 2 ^ 1) ≤ 1048576 := dlen_small (k := 5) (by omega) (by decide)
  have h3 : dlen (f * 2 ^ 1 + 1) ≤ 1048576 := dlen_small (k := 5) (by omega) (by decide)
  rcases (show (5000 < exp ∧ x = 5000) ∨ (exp < -5000 ∧ x = -5000) ∨ (-5000 ≤ exp ∧ exp ≤ 5000 ∧ x = exp) from by have := HX.out; omega) with ⟨c1, rfl⟩ | ⟨c1, rfl⟩ | ⟨c1, c2, rfl⟩
  all_goals
    cases half
    · go_enter Try.func17, Try.ntmps17
      go_wp2_with fail
      refine (digits_any f _ hf).mono ?_
      rintro e w1 ⟨v1, rfl, hd1, hb1⟩
      go_wp2_with fail
      refine (up_any _ f 4 1 _ hd1 (by decide) (by decide)).mono ?_
      rintro e w2 ⟨v2, rfl, hd2, hb2⟩
      have hb3 := hb1.trans (hb2.mono hb1.size)
      have hd3 : D w2 v2 (2 * f + false.toNat) (dlen (f * 2 ^ 1)) := by
        simp only [Bool.toNat_false, Nat.add_zero]
        rw [Nat.mul_comm 2 f]
        exact hd2
      clear hd1 hd2 hb1 hb2
      go_wp2_with fail
      refine (HR.out _ _ _ _ (by omega) hd3 h2).mono ?_
      rintro e w4 ⟨rfl, hb4⟩
      go_wp2
      go_ret
      exact ⟨rfl, hb3.trans (hb4.mono hb3.size)⟩
    · go_enter Try.func17, Try.ntmps17
      go_wp2_with fail
      refine (digits_any f _ hf).mono ?_
      rintro e w1 ⟨v1, rfl, hd1, hb1⟩
      go_wp2_with fail
      refine (up_any _ f 4 1 _ hd1 (by decide) (by decide)).mono ?_
      rintro e w2 ⟨v2, rfl, hd2, hb2⟩
      have hb3 := hb1.trans (hb2.mono hb1.size)
      have ho := D_one w2 1 (by decide)
      have hd3 := hd2.below ((Below.refl w2.heap.size w2).alloc (Nat.le_refl _) (.cells #[.int .u64 ((1 : Nat) : Int)] 22))
      have hb5 : Below w.heap.size w (w2.alloc (.cells #[.int .u64 ((1 : Nat) : Int)] 22)) := hb3.alloc hb3.size _
      clear hd1 hb1 hb2
      go_wp2_with fail
      refine (sum_any _ _ (f * 2 ^ 1) _ 1 1 _ hd3 ho (by omega) (by decide)).mono ?_
      rintro e w6 ⟨v6, rfl, hd6, hb6⟩
      have hb7 := hb5.trans (hb6.mono hb5.size)
      have hd7 : D w6 v6 (2 * f + true.toNat) (dlen (f * 2 ^ 1 + 1)) := by
        simp only [Bool.toNat_true]
        rw [Nat.mul_comm 2 f]
        exact hd6
      clear hd2 hd3 hd6 hb3 hb5 hb6 ho
      go_wp2_with fail
      refine (HR.out _ _ _ _ (by omega) hd7 h3).mono ?_
      rintro e w8 ⟨rfl, hb8⟩
      go_wp2
      go_ret
      exact ⟨rfl, hb7.trans (hb8.mono hb7.size)⟩

/-- The reference's Make answers what the program's Make answers. -/
theorem refMake_any (neg half : Bool) (exp : Int) (f : Nat) (w : World) (hf : f < 18446744073709551616) :
    Calls Try.prog 17 #[.bool neg, .int .i64 exp, .int .u64 f, .bool half] w fun e w' => e = .returned (.int .u64 (makeZ neg exp f half)) ∧ Below w.heap.size w w' := by
  have hg := G_eq
  have hh : half.toNat ≤ 1 := by cases half <;> simp
  have e : makeZ neg exp f half = sgn neg + (rung G (units exp f half) : Nat) := by
    unfold makeZ sgn; cases neg <;> simp
  rw [e]
  refine refMake_walk neg half exp (min (max exp (-5000)) 5000) f _ w hf rfl ?_
  intro w u l hd hl
  have h := round_any u (2 * f + half.toNat) l (G + 3700) (min (max exp (-5000)) 5000 - 1) false neg w hd hl (by omega) (by omega) (by omega) (by simp)
  have e2 : 2 * (2 * f + half.toNat) + false.toNat = 2 * (2 * f + half.toNat) := rfl
  rw [e2, make_same exp (2 * f + half.toNat) (by omega)] at h
  exact h

end Go.Proofs.Ytgkhpnebofijdaa
