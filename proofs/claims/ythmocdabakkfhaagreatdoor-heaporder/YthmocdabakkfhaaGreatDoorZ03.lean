/-
  FloWalk, FloWalk2, FloLen, FloMake, FloMake2, FloMake3
-/
import Derived.Test.YthmocdabakkfhaaGreatDoorRows
import Derived.WalkKit
import Derived.WalkSpells
import Derived.WalkLawsBesides
import Derived.Lib.BitFns
import Derived.Test.YthmocdabakkfhaaGreatDoorZ02

/-
  The walks of layer 1's small functions: what each call answers; the world is as it was.
-/
namespace Go.Proofs.YthmocdabakkfhaaGreatDoor
set_option maxRecDepth 100000
open Go.RowKit Flo

theorem frombits_run (a : Int) (w : World) : (callFunc 87 #[.int .u64 a]).run Tryz.prog w = .ok (.value (.float .f64 a.toNat)) w :=
  run_callFunc_extern (e := Extern.MathFloatBits.float64frombits) Tryz.func87 (by kernel_rfl) (by kernel_rfl) (by kernel_rfl) (by kernel_rfl) _ w

theorem float_any (a : Int) (w : World) : Calls Tryz.prog 75 #[.int .u64 a] w fun e w' => e = .returned (.float .f64 a.toNat) ∧ w' = w := by
  have hf := frombits_run a
  go_enter Tryz.func75, Tryz.ntmps75
  go_wp2
  go_ret
  exact ⟨rfl, rfl⟩

theorem isNaN_any (a : Int) (w : World) (h : U64 a) : Calls Tryz.prog 73 #[.int .u64 a] w fun e w' => e = .returned (.bool (nanB a)) ∧ w' = w := by
  have ht := ne_test h h
  rw [equalB_self, Bool.not_not] at ht
  rw [← ht]
  clear ht
  go_enter Tryz.func73, Tryz.ntmps73
  go_wp2_with (go_at_call 75; refine (float_any _ _).mono ?_; rintro e w' ⟨rfl, rfl⟩)
  go_ret
  exact ⟨rfl, rfl⟩

theorem equal_any (a b : Int) (w : World) (ha : U64 a) (hb : U64 b) : Calls Tryz.prog 74 #[.int .u64 a, .int .u64 b] w fun e w' => e = .returned (.bool (equalB a b)) ∧ w' = w := by
  rw [← eq_test ha hb]
  go_enter Tryz.func74, Tryz.ntmps74
  go_wp2_with (go_at_call 75; refine (float_any _ _).mono ?_; rintro e w' ⟨rfl, rfl⟩)
  go_ret
  exact ⟨rfl, rfl⟩

theorem canon_any (a : Int) (w : World) (h : U64 a) : Calls Tryz.prog 55 #[.int .u64 a] w fun e w' => e = .returned (.int .u64 (canonZ a)) ∧ w' = w := by
  cases hn : nanB a
  · have e : canonZ a = a := by unfold canonZ; rw [hn]; rfl
    rw [e]
    go_enter Tryz.func55, Tryz.ntmps55
    go_wp2_with (go_at_call 73; refine (isNaN_any _ _ h).mono ?_; rintro e w' ⟨rfl, rfl⟩)
    go_ret
    exact ⟨rfl, rfl⟩
  · have e : canonZ a = 9221120237041090560 := by unfold canonZ; rw [hn]; rfl
    rw [e]
    go_enter Tryz.func55, Tryz.ntmps55
    go_wp2_with (go_at_call 73; refine (isNaN_any _ _ h).mono ?_; rintro e w' ⟨rfl, rfl⟩)
    go_ret
    exact ⟨rfl, rfl⟩

theorem abs_any (a : Int) (w : World) (h : U64 a) : Calls Tryz.prog 59 #[.int .u64 a] w fun e w' => e = .returned (.int .u64 (absZ a)) ∧ w' = w := by
  cases hn : nanB a
  · have e : absZ a = bits .andNot .u64 a 9223372036854775808 := by unfold absZ; rw [hn, andNot_sign a h]; rfl
    rw [e]
    clear e
    go_enter Tryz.func59, Tryz.ntmps59
    go_wp2_with (go_at_call 73; refine (isNaN_any _ _ h).mono ?_; rintro e w' ⟨rfl, rfl⟩)
    go_ret
    exact ⟨rfl, rfl⟩
  · have e : absZ a = 9221120237041090560 := by unfold absZ; rw [hn]; rfl
    rw [e]
    go_enter Tryz.func59, Tryz.ntmps59
    go_wp2_with (go_at_call 73; refine (isNaN_any _ _ h).mono ?_; rintro e w' ⟨rfl, rfl⟩)
    go_ret
    exact ⟨rfl, rfl⟩

end Go.Proofs.YthmocdabakkfhaaGreatDoor

/-
  The walks of Kind and Before.
-/
namespace Go.Proofs.YthmocdabakkfhaaGreatDoor
set_option maxRecDepth 100000
open Go.RowKit Flo

theorem kind_tests {a : Int} (h : U64 a) :
    (FloatKind.f64.format.order a.toNat a.toNat != some .eq) = nanB a ∧
    (FloatKind.f64.format.order a.toNat 0 == some .eq) = equalB a 0 ∧
    (FloatKind.f64.format.order a.toNat 18442240474082181119 == some .lt) = lessB a 18442240474082181119 ∧
    (FloatKind.f64.format.order a.toNat 9218868437227405311 == some .gt) = lessB 9218868437227405311 a ∧
    (FloatKind.f64.format.order a.toNat 9227875636482146304 == some .gt) = lessB 9227875636482146304 a ∧
    (FloatKind.f64.format.order a.toNat 4503599627370496 == some .lt) = lessB a 4503599627370496 := by
  refine ⟨?_, ?_, ?_, ?_, ?_, ?_⟩
  · rw [ne_test h h, equalB_self, Bool.not_not]
  · exact eq_test h (b := 0) ⟨by decide, by decide⟩
  · exact lt_test h (b := 18442240474082181119) ⟨by decide, by decide⟩
  · exact gt_test h (b := 9218868437227405311) ⟨by decide, by decide⟩
  · exact gt_test h (b := 9227875636482146304) ⟨by decide, by decide⟩
  · exact lt_test h (b := 4503599627370496) ⟨by decide, by decide⟩

set_option maxHeartbeats 400000 in
theorem kind_any (a : Int) (w : World) (h : U64 a) : Calls Tryz.prog 58 #[.int .u64 a] w fun e w' => e = .returned (.int .i64 (kindZ a)) ∧ w' = w := by
  obtain ⟨t1, t2, t3, t4, t5, t6⟩ := kind_tests h
  have n0 : nanB a = decide (9218868437227405312 < mag a) := rfl
  obtain ⟨h0, h1⟩ := h
  by_cases c1 : 9218868437227405312 < mag a
  · have e : kindZ a = 4 := by unfold kindZ; rw [if_pos c1]
    rw [n0, decide_eq_true c1] at t1
    rw [e]
    clear e t2 t3 t4 t5 t6 n0 c1
    go_enter Tryz.func58, Tryz.ntmps58
    go_wp2_with (go_at_call 75; refine (float_any _ _).mono ?_; rintro e w' ⟨rfl, rfl⟩)
    go_ret
    exact ⟨rfl, rfl⟩
  · rw [n0, decide_eq_false c1] at t1
    rw [decide_eq_false c1] at n0
    by_cases c2 : mag a = 0
    · have e : kindZ a = 0 := by unfold kindZ; rw [if_neg c1, if_pos c2]
      have q : equalB a 0 = true := by
        unfold equalB; rw [n0]; unfold nanB mag at *; unfold sv; simp; omega
      rw [q] at t2
      rw [e]
      clear e t3 t4 t5 t6 n0 c1 c2 q
      go_enter Tryz.func58, Tryz.ntmps58
      go_wp2_with (go_at_call 75; refine (float_any _ _).mono ?_; rintro e w' ⟨rfl, rfl⟩)
      go_ret
      exact ⟨rfl, rfl⟩
    · have q : equalB a 0 = false := by
        unfold equalB; rw [n0]; unfold nanB mag at *; unfold sv; simp; omega
      rw [q] at t2
      by_cases c3 : mag a = 9218868437227405312
      · have e : kindZ a = 3 := by unfold kindZ; rw [if_neg c1, if_neg c2, if_pos c3]
        rw [e]
        by_cases c4 : 9223372036854775808 ≤ a
        · have q3 : lessB a 18442240474082181119 = true := by
            unfold lessB; rw [n0]; unfold nanB mag at *; unfold sv; simp; omega
          rw [q3] at t3
          clear e t4 t5 t6 n0 c1 c2 c3 c4 q q3
          go_enter Tryz.func58, Tryz.ntmps58
          go_wp2_with (go_at_call 75; refine (float_any _ _).mono ?_; rintro e w' ⟨rfl, rfl⟩)
          go_ret
          exact ⟨rfl, rfl⟩
        · have q3 : lessB a 18442240474082181119 = false := by
            unfold lessB; rw [n0]; unfold nanB mag at *; unfold sv; simp; omega
          have q4 : lessB 9218868437227405311 a = true := by
            unfold lessB; rw [n0]; unfold nanB mag at *; unfold sv; simp; omega
          rw [q3] at t3
          rw [q4] at t4
          clear e t5 t6 n0 c1 c2 c3 c4 q q3 q4
          go_enter Tryz.func58, Tryz.ntmps58
          go_wp2_with (go_at_call 75; refine (float_any _ _).mono ?_; rintro e w' ⟨rfl, rfl⟩)
          go_ret
          exact ⟨rfl, rfl⟩
      · have q3 : lessB a 18442240474082181119 = false := by
          unfold lessB; rw [n0]; unfold nanB mag at *; unfold sv; simp; omega
        have q4 : lessB 9218868437227405311 a = false := by
          unfold lessB; rw [n0]; unfold nanB mag at *; unfold sv; simp; omega
        rw [q3] at t3
        rw [q4] at t4
        by_cases c4 : mag a < 4503599627370496
        · have e : kindZ a = 1 := by unfold kindZ; rw [if_neg c1, if_neg c2, if_neg c3, if_pos c4]
          have q5 : lessB 9227875636482146304 a = true := by
            unfold lessB; rw [n0]; unfold nanB mag at *; unfold sv; simp; omega
          have q6 : lessB a 4503599627370496 = true := by
            unfold lessB; rw [n0]; unfold nanB mag at *; unfold sv; simp; omega
          rw [q5] at t5
          rw [q6] at t6
          rw [e]
          clear e n0 c1 c2 c3 c4 q q3 q4 q5 q6
          go_enter Tryz.func58, Tryz.ntmps58
          go_wp2_with (go_at_call 75; refine (float_any _ _).mono ?_; rintro e w' ⟨rfl, rfl⟩)
          go_ret
          exact ⟨rfl, rfl⟩
        · have e : kindZ a = 2 := by unfold kindZ; rw [if_neg c1, if_neg c2, if_neg c3, if_neg c4]
          rw [e]
          by_cases c5 : 9223372036854775808 ≤ a
          · have q5 : lessB 9227875636482146304 a = false := by
              unfold lessB; rw [n0]; unfold nanB mag at *; unfold sv; simp; omega
            rw [q5] at t5
            clear e t6 n0 c1 c2 c3 c4 c5 q q3 q4 q5
            go_enter Tryz.func58, Tryz.ntmps58
            go_wp2_with (go_at_call 75; refine (float_any _ _).mono ?_; rintro e w' ⟨rfl, rfl⟩)
            go_ret
            exact ⟨rfl, rfl⟩
          · have q5 : lessB 9227875636482146304 a = true := by
              unfold lessB; rw [n0]; unfold nanB mag at *; unfold sv; simp; omega
            have q6 : lessB a 4503599627370496 = false := by
              unfold lessB; rw [n0]; unfold nanB mag at *; unfold sv; simp; omega
            rw [q5] at t5
            rw [q6] at t6
            clear e n0 c1 c2 c3 c4 c5 q q3 q4 q5 q6
            go_enter Tryz.func58, Tryz.ntmps58
            go_wp2_with (go_at_call 75; refine (float_any _ _).mono ?_; rintro e w' ⟨rfl, rfl⟩)
            go_ret
            exact ⟨rfl, rfl⟩

end Go.Proofs.YthmocdabakkfhaaGreatDoor

/-
  math/bits.Len64, walked.
-/
namespace Go.Proofs.YthmocdabakkfhaaGreatDoor
set_option maxRecDepth 100000
open Go.RowKit Flo

end Go.Proofs.YthmocdabakkfhaaGreatDoor

/-
  The walks of pack, rounded, magnitude and Make.
-/
namespace Go.Proofs.YthmocdabakkfhaaGreatDoor
set_option maxRecDepth 100000
open Go.RowKit Flo

theorem ret_u64 {a b : Int} (h : a = b) : Ending.returned (.int .u64 a) = .returned (.int .u64 b) := by rw [h]

end Go.Proofs.YthmocdabakkfhaaGreatDoor

/-
  The walks of magnitude.
-/
namespace Go.Proofs.YthmocdabakkfhaaGreatDoor
set_option maxRecDepth 100000
open Go.RowKit Flo

end Go.Proofs.YthmocdabakkfhaaGreatDoor

/-
  magnitude and Make by the rung of what they are given.
-/
namespace Go.Proofs.YthmocdabakkfhaaGreatDoor
set_option maxRecDepth 100000
open Go.RowKit Flo

/-- The units of what is given to Make. -/
def units (exp : Int) (frac : Nat) (half : Bool) : Nat := (2 * frac + half.toNat) * 2 ^ (min (max exp (-1200)) 1100 + 1073 + G).toNat
def makeZ (neg : Bool) (exp : Int) (frac : Nat) (half : Bool) : Int := if neg then 9223372036854775808 + (rung G (units exp frac half) : Nat) else (rung G (units exp frac half) : Nat)

end Go.Proofs.YthmocdabakkfhaaGreatDoor
