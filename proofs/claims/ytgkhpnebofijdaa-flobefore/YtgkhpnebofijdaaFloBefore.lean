/-
  The order of all numbers is one: the walk of the statement FloBefore.
-/
import Derived.Test.YtgkhpnebofijdaaFloLives
namespace Go.Proofs.Ytgkhpnebofijdaa
open Go.RowKit Flo

/-- Where a number stands among all. -/
def rk (a : Int) : Int := if nanB a then 36893488147419103232 else 2 * sv a + if 9223372036854775808 ≤ a then 0 else 1

theorem before_rank {a b : Int} (ha : U64 a) (hb : U64 b) : beforeB a b = decide (rk a < rk b) := by
  obtain ⟨a0, a1⟩ := ha
  obtain ⟨b0, b1⟩ := hb
  unfold beforeB rk
  cases na : nanB a
  · cases nb : nanB b
    · simp only [Bool.false_eq_true, if_false]
      unfold belowB sv at *
      by_cases ca : 9223372036854775808 ≤ a <;> by_cases cb : 9223372036854775808 ≤ b <;> simp only [ca, cb, if_true, if_false, decide_true, decide_false, Bool.not_true, Bool.not_false, Bool.and_true, Bool.and_false]
      · split
        · rw [decide_eq_false (by omega)]
        · rw [decide_eq_decide]; omega
      · split
        · rw [decide_eq_true (by omega)]
        · rw [decide_eq_decide]; omega
      · split
        · rw [decide_eq_false (by omega)]
        · rw [decide_eq_decide]; omega
      · split
        · rw [decide_eq_false (by omega)]
        · rw [decide_eq_decide]; omega
    · simp only [Bool.false_eq_true, if_false, if_true]
      symm
      apply decide_eq_true
      unfold sv
      split <;> omega
  · simp only [if_true]
    symm
    apply decide_eq_false
    unfold sv
    split <;> (try split) <;> (try split) <;> omega
theorem canon_rank {a b : Int} (ha : U64 a) (hb : U64 b) : (canonZ a != canonZ b) = decide (rk a ≠ rk b) := by
  obtain ⟨a0, a1⟩ := ha
  obtain ⟨b0, b1⟩ := hb
  have key : canonZ a = canonZ b ↔ rk a = rk b := by
    unfold canonZ rk
    cases na : nanB a
    · cases nb : nanB b
      · simp only [Bool.false_eq_true, if_false]
        unfold sv
        split <;> split <;> omega
      · simp only [Bool.false_eq_true, if_false, if_true]
        have na' := of_decide_eq_false (show decide (9218868437227405312 < mag a) = false from na)
        unfold mag at na'
        unfold sv
        split <;> split at na' <;> omega
    · cases nb : nanB b
      · simp only [Bool.false_eq_true, if_false, if_true]
        have nb' := of_decide_eq_false (show decide (9218868437227405312 < mag b) = false from nb)
        unfold mag at nb'
        unfold sv
        split <;> split at nb' <;> omega
      · simp only [if_true]
  rw [bne, Bool.eq_iff_iff]
  simp only [Bool.not_eq_true', beq_eq_false_iff_ne, ne_eq, decide_eq_true_eq, key]
theorem less_rank {a b : Int} (ha : U64 a) (hb : U64 b) (h : lessB a b = true) : rk a < rk b := by
  have e := before_rank ha hb
  unfold lessB at h
  cases na : nanB a <;> cases nb : nanB b <;> simp [na, nb] at h
  unfold beforeB at e
  rw [na, nb] at e
  simp only [Bool.false_eq_true, if_false] at e
  rw [if_neg (by omega), decide_eq_true h] at e
  exact of_decide_eq_true e.symm

set_option maxHeartbeats 400000 in
theorem floBefore_walk (a b c : Int) (w : World) (ha : U64 a) (hb : U64 b) (hc : U64 c) :
    Calls Try.prog 6 #[.int .u64 a, .int .u64 b, .int .u64 c] w fun e w' => e = .returned (.bool true) ∧ w' = w := by
  have x1 := before_rank ha hb
  have x2 := before_rank hb ha
  have x3 := before_rank hb hc
  have x4 := before_rank ha hc
  have x5 := canon_rank ha hb
  have x6 := less_rank ha hb
  rcases Int.lt_trichotomy (rk a) (rk b) with k | k | k
  · rw [decide_eq_true k] at x1
    rw [decide_eq_false (by omega)] at x2
    rw [decide_eq_true (by omega)] at x5
    clear x6
    by_cases k2 : rk b < rk c
    · rw [decide_eq_true k2] at x3
      rw [decide_eq_true (by omega)] at x4
      clear k k2
      cases x7 : lessB a b
      · go_enter Try.func6, Try.ntmps6
        go_wp2_with fail
        refine (before_any _ _ _ ha hb).mono ?_
        rintro e w' ⟨rfl, rfl⟩
        go_wp2_with fail
        refine (before_any _ _ _ hb ha).mono ?_
        rintro e w' ⟨rfl, rfl⟩
        go_wp2_with fail
        refine (canon_any _ _ ha).mono ?_
        rintro e w' ⟨rfl, rfl⟩
        go_wp2_with fail
        refine (canon_any _ _ hb).mono ?_
        rintro e w' ⟨rfl, rfl⟩
        go_wp2_with fail
        refine (less_any _ _ _ ha hb).mono ?_
        rintro e w' ⟨rfl, rfl⟩
        go_wp2_with fail
        refine (before_any _ _ _ hb hc).mono ?_
        rintro e w' ⟨rfl, rfl⟩
        go_wp2_with fail
        refine (before_any _ _ _ ha hc).mono ?_
        rintro e w' ⟨rfl, rfl⟩
        go_wp2_with fail
        refine (lives_any _).mono ?_
        rintro e w' ⟨rfl, rfl⟩
        go_wp2_with fail
        go_ret
        exact ⟨rfl, rfl⟩
      · go_enter Try.func6, Try.ntmps6
        go_wp2_with fail
        refine (before_any _ _ _ ha hb).mono ?_
        rintro e w' ⟨rfl, rfl⟩
        go_wp2_with fail
        refine (before_any _ _ _ hb ha).mono ?_
        rintro e w' ⟨rfl, rfl⟩
        go_wp2_with fail
        refine (canon_any _ _ ha).mono ?_
        rintro e w' ⟨rfl, rfl⟩
        go_wp2_with fail
        refine (canon_any _ _ hb).mono ?_
        rintro e w' ⟨rfl, rfl⟩
        go_wp2_with fail
        refine (less_any _ _ _ ha hb).mono ?_
        rintro e w' ⟨rfl, rfl⟩
        go_wp2_with fail
        refine (before_any _ _ _ hb hc).mono ?_
        rintro e w' ⟨rfl, rfl⟩
        go_wp2_with fail
        refine (before_any _ _ _ ha hc).mono ?_
        rintro e w' ⟨rfl, rfl⟩
        go_wp2_with fail
        refine (lives_any _).mono ?_
        rintro e w' ⟨rfl, rfl⟩
        go_wp2_with fail
        go_ret
        exact ⟨rfl, rfl⟩
    · rw [decide_eq_false k2] at x3
      clear k k2 x4
      cases x7 : lessB a b
      · go_enter Try.func6, Try.ntmps6
        go_wp2_with fail
        refine (before_any _ _ _ ha hb).mono ?_
        rintro e w' ⟨rfl, rfl⟩
        go_wp2_with fail
        refine (before_any _ _ _ hb ha).mono ?_
        rintro e w' ⟨rfl, rfl⟩
        go_wp2_with fail
        refine (canon_any _ _ ha).mono ?_
        rintro e w' ⟨rfl, rfl⟩
        go_wp2_with fail
        refine (canon_any _ _ hb).mono ?_
        rintro e w' ⟨rfl, rfl⟩
        go_wp2_with fail
        refine (less_any _ _ _ ha hb).mono ?_
        rintro e w' ⟨rfl, rfl⟩
        go_wp2_with fail
        refine (before_any _ _ _ hb hc).mono ?_
        rintro e w' ⟨rfl, rfl⟩
        go_wp2_with fail
        refine (lives_any _).mono ?_
        rintro e w' ⟨rfl, rfl⟩
        go_wp2_with fail
        go_ret
        exact ⟨rfl, rfl⟩
      · go_enter Try.func6, Try.ntmps6
        go_wp2_with fail
        refine (before_any _ _ _ ha hb).mono ?_
        rintro e w' ⟨rfl, rfl⟩
        go_wp2_with fail
        refine (before_any _ _ _ hb ha).mono ?_
        rintro e w' ⟨rfl, rfl⟩
        go_wp2_with fail
        refine (canon_any _ _ ha).mono ?_
        rintro e w' ⟨rfl, rfl⟩
        go_wp2_with fail
        refine (canon_any _ _ hb).mono ?_
        rintro e w' ⟨rfl, rfl⟩
        go_wp2_with fail
        refine (less_any _ _ _ ha hb).mono ?_
        rintro e w' ⟨rfl, rfl⟩
        go_wp2_with fail
        refine (before_any _ _ _ hb hc).mono ?_
        rintro e w' ⟨rfl, rfl⟩
        go_wp2_with fail
        refine (lives_any _).mono ?_
        rintro e w' ⟨rfl, rfl⟩
        go_wp2_with fail
        go_ret
        exact ⟨rfl, rfl⟩
  · rw [decide_eq_false (by omega)] at x1
    rw [decide_eq_false (by omega)] at x2
    rw [decide_eq_false (by omega)] at x5
    have x7 : lessB a b = false := by
      cases h : lessB a b
      · rfl
      · have := x6 h; omega
    clear k x3 x4 x6
    go_enter Try.func6, Try.ntmps6
    go_wp2_with fail
    refine (before_any _ _ _ ha hb).mono ?_
    rintro e w' ⟨rfl, rfl⟩
    go_wp2_with fail
    refine (before_any _ _ _ hb ha).mono ?_
    rintro e w' ⟨rfl, rfl⟩
    go_wp2_with fail
    refine (canon_any _ _ ha).mono ?_
    rintro e w' ⟨rfl, rfl⟩
    go_wp2_with fail
    refine (canon_any _ _ hb).mono ?_
    rintro e w' ⟨rfl, rfl⟩
    go_wp2_with fail
    refine (less_any _ _ _ ha hb).mono ?_
    rintro e w' ⟨rfl, rfl⟩
    go_wp2_with fail
    refine (lives_any _).mono ?_
    rintro e w' ⟨rfl, rfl⟩
    go_wp2_with fail
    go_ret
    exact ⟨rfl, rfl⟩
  · rw [decide_eq_false (by omega)] at x1
    rw [decide_eq_true (by omega)] at x2
    rw [decide_eq_true (by omega)] at x5
    have x7 : lessB a b = false := by
      cases h : lessB a b
      · rfl
      · have := x6 h; omega
    clear k x3 x4 x6
    go_enter Try.func6, Try.ntmps6
    go_wp2_with fail
    refine (before_any _ _ _ ha hb).mono ?_
    rintro e w' ⟨rfl, rfl⟩
    go_wp2_with fail
    refine (before_any _ _ _ hb ha).mono ?_
    rintro e w' ⟨rfl, rfl⟩
    go_wp2_with fail
    refine (canon_any _ _ ha).mono ?_
    rintro e w' ⟨rfl, rfl⟩
    go_wp2_with fail
    refine (canon_any _ _ hb).mono ?_
    rintro e w' ⟨rfl, rfl⟩
    go_wp2_with fail
    refine (less_any _ _ _ ha hb).mono ?_
    rintro e w' ⟨rfl, rfl⟩
    go_wp2_with fail
    refine (lives_any _).mono ?_
    rintro e w' ⟨rfl, rfl⟩
    go_wp2_with fail
    go_ret
    exact ⟨rfl, rfl⟩

end Go.Proofs.Ytgkhpnebofijdaa
