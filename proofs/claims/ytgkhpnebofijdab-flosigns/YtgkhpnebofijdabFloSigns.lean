/-
  A sign that is turned about twice is as it was; what is without one is not below nought: the walk of the statement FloSigns.
-/
import Derived.Test.YtgkhpnebofijdabFloLives
namespace Go.Proofs.Ytgkhpnebofijdab
open Go.RowKit Flo

theorem neg_nan {a : Int} (h : U64 a) : nanB (negZ a) = nanB a := by
  obtain ⟨h0, h1⟩ := h
  unfold negZ
  cases e : nanB a
  · simp only [Bool.false_eq_true, if_false]
    unfold nanB mag at *
    simp only [decide_eq_false_iff_not] at e ⊢
    split <;> split <;> simp_all <;> omega
  · rfl
theorem neg_neg {a : Int} (h : U64 a) : negZ (negZ a) = canonZ a := by
  have hn := neg_nan h
  obtain ⟨h0, h1⟩ := h
  rw [negZ, hn]
  unfold negZ canonZ
  cases nanB a
  · simp only [Bool.false_eq_true, if_false]
    split <;> split <;> omega
  · rfl
theorem abs_neg {a : Int} (h : U64 a) : absZ (negZ a) = absZ a := by
  have hn := neg_nan h
  obtain ⟨h0, h1⟩ := h
  rw [absZ, hn]
  unfold negZ absZ mag
  cases nanB a
  · simp only [Bool.false_eq_true, if_false]
    split <;> split <;> omega
  · rfl
theorem kind_neg {a : Int} (h : U64 a) : kindZ (negZ a) = kindZ a := by
  have hn := neg_nan h
  obtain ⟨h0, h1⟩ := h
  cases e : nanB a
  · have : mag (negZ a) = mag a := by
      unfold negZ mag
      rw [e]
      simp only [Bool.false_eq_true, if_false]
      split <;> split <;> omega
    unfold kindZ
    rw [this]
  · have e2 : nanB (negZ a) = true := by rw [hn, e]
    unfold nanB at e e2
    unfold kindZ
    rw [if_pos (of_decide_eq_true e), if_pos (of_decide_eq_true e2)]
theorem abs_zero {a : Int} (h : U64 a) : lessB (absZ a) 0 = false := by
  obtain ⟨h0, h1⟩ := h
  unfold absZ
  cases nanB a
  · simp only [Bool.false_eq_true, if_false]
    unfold lessB sv mag
    split
    · rw [decide_eq_false (by split <;> omega)]; simp
    · rw [decide_eq_false (by split <;> omega)]; simp
  · show lessB 9221120237041090560 0 = false; decide

theorem floSigns_walk (a : Int) (w : World) (h : U64 a) : Calls Try.prog 4 #[.int .u64 a] w fun e w' => e = .returned (.bool true) ∧ w' = w := by
  have t1 : (negZ (negZ a) == canonZ a) = true := by rw [neg_neg h]; simp
  have t2 := abs_zero h
  have t3 : (absZ (negZ a) == absZ a) = true := by rw [abs_neg h]; simp
  have t4 : (kindZ (negZ a) == kindZ a) = true := by rw [kind_neg h]; simp
  have u1 := negZ_u64 h
  have u2 := absZ_u64 h
  have u0 : U64 0 := ⟨by decide, by decide⟩
  go_enter Try.func4, Try.ntmps4
  go_wp2_with fail
  refine (neg_any _ _ h).mono ?_
  rintro e w' ⟨rfl, rfl⟩
  go_wp2_with fail
  refine (neg_any _ _ u1).mono ?_
  rintro e w' ⟨rfl, rfl⟩
  go_wp2_with fail
  refine (canon_any _ _ h).mono ?_
  rintro e w' ⟨rfl, rfl⟩
  go_wp2_with fail
  refine (abs_any _ _ h).mono ?_
  rintro e w' ⟨rfl, rfl⟩
  go_wp2_with fail
  refine (less_any _ _ _ u2 u0).mono ?_
  rintro e w' ⟨rfl, rfl⟩
  go_wp2_with fail
  refine (neg_any _ _ h).mono ?_
  rintro e w' ⟨rfl, rfl⟩
  go_wp2_with fail
  refine (abs_any _ _ u1).mono ?_
  rintro e w' ⟨rfl, rfl⟩
  go_wp2_with fail
  refine (abs_any _ _ h).mono ?_
  rintro e w' ⟨rfl, rfl⟩
  go_wp2_with fail
  refine (neg_any _ _ h).mono ?_
  rintro e w' ⟨rfl, rfl⟩
  go_wp2_with fail
  refine (kind_any _ _ u1).mono ?_
  rintro e w' ⟨rfl, rfl⟩
  go_wp2_with fail
  refine (kind_any _ _ h).mono ?_
  rintro e w' ⟨rfl, rfl⟩
  go_wp2_with fail
  refine (lives_any _).mono ?_
  rintro e w' ⟨rfl, rfl⟩
  go_wp2_with fail
  go_ret
  exact ⟨rfl, rfl⟩

end Go.Proofs.Ytgkhpnebofijdab
