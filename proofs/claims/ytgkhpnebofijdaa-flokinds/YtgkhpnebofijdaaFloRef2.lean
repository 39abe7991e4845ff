/-
  The walks of the reference's Before and Parts, and of the program's Parts.
-/
import Derived.Test.YtgkhpnebofijdaaFloRef
namespace Go.Proofs.Ytgkhpnebofijdaa
open Go.RowKit Flo

theorem before_alt {a b : Int} (ha : U64 a) (hb : U64 b) (na : nanB a = false) (nb : nanB b = false) :
    beforeB a b = if mag a = 0 ∧ mag b = 0 then belowB a && !belowB b else decide (sv a < sv b) := by
  obtain ⟨a0, a1⟩ := ha
  obtain ⟨b0, b1⟩ := hb
  unfold beforeB
  rw [na, nb]
  simp only [Bool.false_eq_true, if_false]
  by_cases c : mag a = 0 ∧ mag b = 0
  · rw [if_pos c, if_pos]
    obtain ⟨c1, c2⟩ := c
    unfold sv
    unfold mag at c1 c2
    split <;> split <;> omega
  · rw [if_neg c]
    split
    · rename_i e
      have : belowB a = belowB b := by
        unfold belowB
        rw [decide_eq_decide]
        unfold sv at e
        unfold mag at c
        split at e <;> split at e <;> omega
      rw [this, decide_eq_false (by omega)]
      cases belowB b <;> rfl
    · rfl

set_option maxHeartbeats 1000000 in
theorem refBefore_any (a b : Int) (w : World) (ha : U64 a) (hb : U64 b) : Calls Try.prog 23 #[.int .u64 a, .int .u64 b] w fun e w' => e = .returned (.bool (beforeB a b)) ∧ w' = w := by
  have ka := kind_nan a
  have kb := kind_nan b
  have ka' := kind_not_nan a
  have za := kind_zero a
  have zb := kind_zero b
  have ko := order_lt a b
  cases na : nanB a
  · cases nb : nanB b
    · rw [before_alt ha hb na nb]
      rw [na] at ka ka'
      rw [nb] at kb
      by_cases ca : mag a = 0
      · rw [decide_eq_true ca] at za
        by_cases cb : mag b = 0
        · rw [decide_eq_true cb] at zb
          rw [if_pos ⟨ca, cb⟩]
          clear ko ca cb
          cases ba : belowB a
          · go_enter Try.func23, Try.ntmps23
            go_wp2_with (first | (go_at_call 9; refine (refKind_any _ _ (by assumption)).mono ?_; rintro e w' ⟨rfl, rfl⟩) | (go_at_call 28; refine (refNeg_any _ _ (by assumption)).mono ?_; rintro e w' ⟨rfl, rfl⟩) | (go_at_call 36; refine (refOrder_any _ _ _ ha hb).mono ?_; rintro e w' ⟨rfl, rfl⟩))
            go_ret
            exact ⟨rfl, rfl⟩
          · go_enter Try.func23, Try.ntmps23
            go_wp2_with (first | (go_at_call 9; refine (refKind_any _ _ (by assumption)).mono ?_; rintro e w' ⟨rfl, rfl⟩) | (go_at_call 28; refine (refNeg_any _ _ (by assumption)).mono ?_; rintro e w' ⟨rfl, rfl⟩) | (go_at_call 36; refine (refOrder_any _ _ _ ha hb).mono ?_; rintro e w' ⟨rfl, rfl⟩))
            go_ret
            exact ⟨rfl, rfl⟩
        · rw [decide_eq_false cb] at zb
          rw [if_neg (fun h => cb h.2)]
          clear ca cb
          go_enter Try.func23, Try.ntmps23
          go_wp2_with (first | (go_at_call 9; refine (refKind_any _ _ (by assumption)).mono ?_; rintro e w' ⟨rfl, rfl⟩) | (go_at_call 28; refine (refNeg_any _ _ (by assumption)).mono ?_; rintro e w' ⟨rfl, rfl⟩) | (go_at_call 36; refine (refOrder_any _ _ _ ha hb).mono ?_; rintro e w' ⟨rfl, rfl⟩))
          go_ret
          exact ⟨rfl, rfl⟩
      · rw [decide_eq_false ca] at za
        rw [if_neg (fun h => ca h.1)]
        clear ca
        go_enter Try.func23, Try.ntmps23
        go_wp2_with (first | (go_at_call 9; refine (refKind_any _ _ (by assumption)).mono ?_; rintro e w' ⟨rfl, rfl⟩) | (go_at_call 28; refine (refNeg_any _ _ (by assumption)).mono ?_; rintro e w' ⟨rfl, rfl⟩) | (go_at_call 36; refine (refOrder_any _ _ _ ha hb).mono ?_; rintro e w' ⟨rfl, rfl⟩))
        go_ret
        exact ⟨rfl, rfl⟩
    · have e : beforeB a b = true := by unfold beforeB; rw [na, nb]; rfl
      rw [e]
      rw [na] at ka ka'
      rw [nb] at kb
      go_enter Try.func23, Try.ntmps23
      go_wp2_with (first | (go_at_call 9; refine (refKind_any _ _ (by assumption)).mono ?_; rintro e w' ⟨rfl, rfl⟩) | (go_at_call 28; refine (refNeg_any _ _ (by assumption)).mono ?_; rintro e w' ⟨rfl, rfl⟩) | (go_at_call 36; refine (refOrder_any _ _ _ ha hb).mono ?_; rintro e w' ⟨rfl, rfl⟩))
      go_ret
      exact ⟨rfl, rfl⟩
  · have e : beforeB a b = false := by unfold beforeB; rw [na]; rfl
    rw [e]
    rw [na] at ka ka'
    go_enter Try.func23, Try.ntmps23
    go_wp2_with (first | (go_at_call 9; refine (refKind_any _ _ (by assumption)).mono ?_; rintro e w' ⟨rfl, rfl⟩) | (go_at_call 28; refine (refNeg_any _ _ (by assumption)).mono ?_; rintro e w' ⟨rfl, rfl⟩) | (go_at_call 36; refine (refOrder_any _ _ _ ha hb).mono ?_; rintro e w' ⟨rfl, rfl⟩))
    go_ret
    exact ⟨rfl, rfl⟩

/-- A number's power of two and whole number. -/
def pexp (a : Int) : Int := if kindZ a = 1 then -1074 else if kindZ a = 2 then expo a - 1075 else 0
def pfrac (a : Int) : Int := if kindZ a = 1 then frac a else if kindZ a = 2 then frac a + 4503599627370496 else 0

theorem kind_vals (a : Int) : kindZ a = 0 ∨ kindZ a = 1 ∨ kindZ a = 2 ∨ kindZ a = 3 ∨ kindZ a = 4 := by
  unfold kindZ; (repeat' split) <;> simp

theorem or_hidden {a : Int} (h0 : 0 ≤ frac a) (h1 : frac a < 4503599627370496) : bits .or .u64 (frac a) 4503599627370496 = frac a + 4503599627370496 := by
  rw [u64_or _ _ h0 (by omega) (by decide) (by decide), Nat.or_comm, show (4503599627370496 : Int).toNat = 4503599627370496 from rfl, nat_join 52 _ _ (by decide) (by omega)]
  omega

set_option maxHeartbeats 1000000 in
theorem refParts_any (a : Int) (w : World) (h : U64 a) : Calls Try.prog 11 #[.int .u64 a] w fun e w' => e = .returned (.tuple #[.bool (belowB a), .int .i64 (pexp a), .int .u64 (pfrac a)]) ∧ w' = w := by
  have t1 := and_expo h
  have t2 := and_frac h
  obtain ⟨_, e0, e1, f0, f1⟩ := mag_parts h
  unfold pexp pfrac
  generalize expo a = E at *
  generalize frac a = F at *
  rcases kind_vals a with k | k | k | k | k
  all_goals
    simp only [k]
    go_enter Try.func11, Try.ntmps11
    go_wp2_with (first | (go_at_call 9; refine (refKind_any _ _ (by assumption)).mono ?_; rintro e w' ⟨rfl, rfl⟩) | (go_at_call 28; refine (refNeg_any _ _ (by assumption)).mono ?_; rintro e w' ⟨rfl, rfl⟩))
    go_ret3
    exact ⟨rfl, rfl⟩

set_option maxHeartbeats 1000000 in
theorem parts_any (a : Int) (w : World) (h : U64 a) : Calls Try.prog 10 #[.int .u64 a] w fun e w' => e = .returned (.tuple #[.bool (belowB a), .int .i64 (pexp a), .int .u64 (pfrac a)]) ∧ w' = w := by
  have t1 := and_expo h
  have t2 := and_frac h
  obtain ⟨_, e0, e1, f0, f1⟩ := mag_parts h
  have t3 := or_hidden f0 f1
  unfold pexp pfrac
  have hE : expo a - 1 + -1074 = expo a - 1075 := by omega
  generalize expo a = E at *
  generalize frac a = F at *
  rcases kind_vals a with k | k | k | k | k
  all_goals
    simp only [k]
    go_enter Try.func10, Try.ntmps10
    go_wp2_with (first | (go_at_call 12; refine (kind_any _ _ (by assumption)).mono ?_; rintro e w' ⟨rfl, rfl⟩) | (go_at_call 27; refine (below_any _ _ (by assumption)).mono ?_; rintro e w' ⟨rfl, rfl⟩))
    go_ret3
    exact ⟨rfl, rfl⟩

end Go.Proofs.Ytgkhpnebofijdaa
