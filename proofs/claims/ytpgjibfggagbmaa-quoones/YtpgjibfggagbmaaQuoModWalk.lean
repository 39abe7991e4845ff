/-
  The walks of the Go library's math.Abs, IsInf, IsNaN, NaN, Frexp and Ldexp, of the numbers that math.Mod hands them.
-/
import Derived.Test.YtpgjibfggagbmaaQuoMod
namespace Go.Proofs.Ytpgjibfggagbmaa
open Go.RowKit Flo

theorem mathAbs_any (a : Int) (w : World) (h : U64 a) : Calls Try.prog 63 #[.float .f64 a.toNat] w fun e w' => e = .returned (.float .f64 (mag a).toNat) ∧ w' = w := by
  have hf := bits_run a.toNat
  rw [show ((a.toNat : Nat) : Int) = a by have := h.1; omega] at hf
  have hg := frombits_run (mag a)
  rw [← andNot_sign a h] at hg ⊢
  go_enter Try.func63, Try.ntmps63
  go_wp2
  go_ret
  exact ⟨rfl, rfl⟩
theorem mathIsNaN_any (a : Int) (w : World) (h : U64 a) : Calls Try.prog 61 #[.float .f64 a.toNat] w fun e w' => e = .returned (.bool (nanB a)) ∧ w' = w := by
  have ht := ne_test h h
  rw [equalB_self, Bool.not_not] at ht
  rw [← ht]
  clear ht
  go_enter Try.func61, Try.ntmps61
  go_wp2
  go_ret
  exact ⟨rfl, rfl⟩
theorem mathNaN_any (w : World) : Calls Try.prog 62 #[] w fun e w' => e = .returned (.float .f64 9221120237041090561) ∧ w' = w := by
  have hg := frombits_run 9221120237041090561
  go_enter Try.func62, Try.ntmps62
  go_wp2
  go_ret
  exact ⟨rfl, rfl⟩
theorem isInf_test {a : Int} (h : U64 a) : (FloatKind.f64.format.order (mag a).toNat 9218868437227405311 == some .gt) = infB a := by
  have hr := mag_range h
  have hu : U64 (mag a) := ⟨by omega, by omega⟩
  have ht := gt_test hu (b := 9218868437227405311) ⟨by decide, by decide⟩
  rw [show (9218868437227405311 : Int).toNat = 9218868437227405311 by decide] at ht
  rw [ht]
  have e1 : mag (mag a) = mag a := by
    generalize mag a = m at *
    unfold mag; split <;> omega
  have e2 : sv (mag a) = mag a := by
    generalize mag a = m at *
    unfold sv; split <;> omega
  have e3 : nanB 9218868437227405311 = false := by decide
  have e4 : sv 9218868437227405311 = 9218868437227405311 := by decide
  unfold lessB infB
  rw [e3, e4, e2]
  unfold nanB
  rw [e1]
  generalize mag a = m at *
  by_cases c : m = 9218868437227405312
  · rw [c]; decide
  · rw [decide_eq_false c]
    by_cases d : 9218868437227405312 < m
    · rw [decide_eq_true d]; rfl
    · rw [decide_eq_false (p := (9218868437227405311 : Int) < m) (by omega)]; simp
theorem mathIsInf_any (a : Int) (w : World) (h : U64 a) : Calls Try.prog 60 #[.float .f64 a.toNat, .int .i64 0] w fun e w' => e = .returned (.bool (infB a)) ∧ w' = w := by
  have ht := isInf_test h
  rw [← ht]
  clear ht
  go_enter Try.func60, Try.ntmps60
  go_wp2_with fail
  refine (mathAbs_any a _ h).mono ?_
  rintro e w' ⟨rfl, hw'⟩
  rw [hw']
  clear hw' w'
  go_wp2
  go_ret
  exact ⟨rfl, rfl⟩

theorem abs_pos (r : Nat) (w : World) (h : r ≤ 9218868437227405312) : Calls Try.prog 63 #[.float .f64 r] w fun e w' => e = .returned (.float .f64 r) ∧ w' = w := by
  have := mathAbs_any (r : Int) w (u64_pos h)
  rw [mag_pos h, Int.toNat_natCast] at this
  exact this
theorem isInf_pos (r : Nat) (w : World) (h : r < 9218868437227405312) : Calls Try.prog 60 #[.float .f64 r, .int .i64 0] w fun e w' => e = .returned (.bool false) ∧ w' = w := by
  have := mathIsInf_any (r : Int) w (u64_pos (by omega))
  rw [fin_inf (by rw [mag_pos (by omega)]; omega), Int.toNat_natCast] at this
  exact this
theorem isNaN_pos (r : Nat) (w : World) (h : r ≤ 9218868437227405312) : Calls Try.prog 61 #[.float .f64 r] w fun e w' => e = .returned (.bool false) ∧ w' = w := by
  have := mathIsNaN_any (r : Int) w (u64_pos h)
  rw [nan_pos h, Int.toNat_natCast] at this
  exact this

/-- The float 2 to the 52nd. -/
theorem M_two52 : M 4841369599423283200 = 4503599627370496 * 2 ^ OP := by
  rw [OP_eq, show 4841369599423283200 = 1074 * 4503599627370496 + 4503599627370496 by decide, M_at (by decide) (Or.inr (by decide))]

/-- normalize, with its answer made ahead. -/
theorem normalize_any (r : Nat) (h0 : 0 < r) (h1 : r < 9218868437227405312) :
    ∃ E f k, NP r E f k ∧ ∀ w, Calls Try.prog 71 #[.float .f64 r] w fun e w' => e = .returned (.tuple #[.float .f64 (E * 4503599627370496 + f), .int .i64 (-(k : Int))]) ∧ w' = w := by
  by_cases c : r < 4503599627370496
  · obtain ⟨E, f, hn, hr⟩ := norm_tiny h0 c
    refine ⟨E, f, 52, hn, ?_⟩
    intro w
    have hm : floatBits .mul .f64 r 4841369599423283200 = some (E * 4503599627370496 + f) := by
      rw [← hr]
      refine mul_pos _ h1 (by decide) ?_
      rw [M_two52, ← Nat.mul_assoc]
      congr 2
      unfold M; rw [if_pos c]
    have hl := lt_pos (r := r) (s := 4503599627370496) (by omega) (by decide)
    rw [decide_eq_true c] at hl
    generalize E * 4503599627370496 + f = z at *
    have hop := fun t => run_float_arith w .mul t .f64 r 4841369599423283200 z hm (P := Try.prog)
    clear hn hr hm
    go_enter Try.func71, Try.ntmps71
    go_wp2_with fail
    refine (abs_pos r _ (by omega)).mono ?_
    rintro e w' ⟨rfl, hw'⟩
    rw [hw']
    clear hw' w'
    go_wp2
    go_ret2
    exact ⟨rfl, rfl⟩
  · obtain ⟨E, f, hn, hr⟩ := norm_plain (Nat.le_of_not_lt c) h1
    refine ⟨E, f, 0, hn, ?_⟩
    intro w
    rw [← hr]
    have hl := lt_pos (r := r) (s := 4503599627370496) (by omega) (by decide)
    rw [decide_eq_false c] at hl
    clear hn hr
    go_enter Try.func71, Try.ntmps71
    go_wp2_with fail
    refine (abs_pos r _ (by omega)).mono ?_
    rintro e w' ⟨rfl, hw'⟩
    rw [hw']
    clear hw' w'
    go_wp2
    go_ret2
    exact ⟨rfl, rfl⟩

end Go.Proofs.Ytpgjibfggagbmaa
