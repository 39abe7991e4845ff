/-
  Layer 13: the parts of the landed Check, walked.
-/
import Derived.Test.YtcblknghkgihcaaDoorPgTab
import Derived.Test.YtcblknghkgihcaaDoorVal
import Derived.Test.YtcblknghkgihcaaDoorCdSame
import Derived.Laws.StructEq
namespace Go.Proofs.YtcblknghkgihcaaDoor
set_option maxRecDepth 100000
open Go.RowKit Txt Pg Flo

def inB (x n : Int) : Bool := decide (0 ≤ x) && decide (x < n)
theorem isIn_any (x n : Int) (w : World) : Calls Tryd.prog 60 #[.int .i64 x, .int .i64 n] w fun e w' => e = .returned (.bool (inB x n)) ∧ w' = w := by
  by_cases c : x ≥ 0
  · have hI : inB x n = decide (x < n) := by unfold inB; simp; omega
    rw [hI]
    go_enter Tryd.func60, Tryd.ntmps60
    go_wp2
    go_ret
    exact ⟨rfl, rfl⟩
  · have hI : inB x n = false := by unfold inB; simp; omega
    rw [hI]
    go_enter Tryd.func60, Tryd.ntmps60
    go_wp2
    go_ret
    exact ⟨rfl, rfl⟩

def longB (rg : Int) (nc nk nu : Nat) : Bool := decide (rg > 4096) || decide (nc > 131072) || decide (nk > 131072) || decide (nu > 60)
set_option maxHeartbeats 1000000 in
theorem isLong_any (pa rg : Int) (au ac ak : Option Addr) (nu cu nc cc nk ck : Nat) (vp : Value) (w : World) :
    Calls Tryd.prog 38 #[.agg #[.int .i64 pa, .int .i64 rg, .slice au nu cu, .slice ac nc cc, .slice ak nk ck, vp]] w fun e w' => e = .returned (.bool (longB rg nc nk nu)) ∧ Below w.heap.size w w' := by
  have hB : Hid (∀ o, Below w.heap.size w (w.alloc o)) := fun o => (Below.refl _ _).alloc (Nat.le_refl _) _
  by_cases c1 : rg > 4096
  · have hR : longB rg nc nk nu = true := by unfold longB; simp [c1]
    rw [hR]
    go_enter Tryd.func38, Tryd.ntmps38
    go_wp2
    go_ret
    exact ⟨rfl, hB.out _⟩
  · by_cases c2 : (nc : Int) > 131072
    · have hR : longB rg nc nk nu = true := by unfold longB; simp; omega
      rw [hR]
      go_enter Tryd.func38, Tryd.ntmps38
      go_wp2
      go_ret
      exact ⟨rfl, hB.out _⟩
    · by_cases c3 : (nk : Int) > 131072
      · have hR : longB rg nc nk nu = true := by unfold longB; simp; omega
        rw [hR]
        go_enter Tryd.func38, Tryd.ntmps38
        go_wp2
        go_ret
        exact ⟨rfl, hB.out _⟩
      · have hR : longB rg nc nk nu = decide ((nu : Int) > 60) := by
          unfold longB
          rw [show decide (rg > 4096) = false by simp; omega, show decide (nc > 131072) = false by simp; omega, show decide (nk > 131072) = false by simp; omega]
          simp
          omega
        rw [hR]
        go_enter Tryd.func38, Tryd.ntmps38
        go_wp2
        go_ret
        exact ⟨rfl, hB.out _⟩

/-- Whether a value is a constant that can be. -/
def normB (K N : Int) (S : ByteArray) (O : Int) : Bool := (nK K == K) && (nN K N == N) && ((nS K S).toList == S.toList) && (nO K O == O)
def noC (v : Vl) : Bool := !(inB v.k 5) || !(normB v.k v.n v.s v.o)

theorem fieldsV : (Tryd.prog.fieldsOf 63).toList = [⟨"K", 3, 0, false, "", "", 0⟩, ⟨"N", 61, 1, false, "", "", 8⟩, ⟨"S", 9, 2, false, "", "", 16⟩, ⟨"O", 3, 3, false, "", "", 32⟩] := by kernel_rfl
theorem part0 (t : TypeId) (A : Array Value) (i : Nat) (v : Value) (w : World) (ht : (isAgg t).run Tryd.prog w = .ok false w) (hA : A[i]? = some v) : (part t A i).run Tryd.prog w = .ok v w := by
  simp only [part, Sem.run_bind, ht, Result.andThen_ok, hA]
  rfl
theorem neqV (a b c d : Int) (s t : ByteArray) (o p : Int) (w : World) : (binOp .neq 63 (.agg #[.int .i64 a, .int .u64 c, .string s, .int .i64 o]) (.agg #[.int .i64 b, .int .u64 d, .string t, .int .i64 p])).run Tryd.prog w = .ok (.bool (!((a == b) && (c == d) && (s.toList == t.toList) && (o == p)))) w := by
  have a3 : (isAgg 3).run Tryd.prog w = .ok false w := by unfold isAgg; rw [Sem.run_bind, run_underlying Tryd.underlying3]; simp
  have a8 : (isAgg 61).run Tryd.prog w = .ok false w := by unfold isAgg; rw [Sem.run_bind, run_underlying Tryd.underlying61]; simp
  have a9 : (isAgg 9).run Tryd.prog w = .ok false w := by unfold isAgg; rw [Sem.run_bind, run_underlying Tryd.underlying9]; simp
  rw [run_neq_struct, run_equalIn_agg w _ _ _ _ Tryd.underlying63 (by kernel_rfl), fieldsV]
  simp only [Op.eqFields, if_pos (show ("K" : String) ≠ "_" by decide), if_pos (show ("N" : String) ≠ "_" by decide), if_pos (show ("S" : String) ≠ "_" by decide), if_pos (show ("O" : String) ≠ "_" by decide), Sem.run_bind]
  rw [part0 _ _ 0 (.int .i64 a) w a3 rfl]
  simp only [Result.andThen_ok]
  rw [part0 _ _ 0 (.int .i64 b) w a3 rfl]
  simp only [Result.andThen_ok]
  rw [run_equalIn_int w _ _ _ _ _ _ Tryd.underlying3]
  simp only [Result.andThen_ok]
  cases h1 : (a == b) with
  | false => simp
  | true =>
    simp only [Bool.not_true, Bool.false_eq_true, if_false, Sem.run_bind]
    rw [part0 _ _ 1 (.int .u64 c) w a8 rfl]
    simp only [Result.andThen_ok]
    rw [part0 _ _ 1 (.int .u64 d) w a8 rfl]
    simp only [Result.andThen_ok]
    rw [run_equalIn_int w _ _ _ _ _ _ Tryd.underlying61]
    simp only [Result.andThen_ok]
    cases h2 : (c == d) with
    | false => simp
    | true =>
      simp only [Bool.not_true, Bool.false_eq_true, if_false, Sem.run_bind]
      rw [part0 _ _ 2 (.string s) w a9 rfl]
      simp only [Result.andThen_ok]
      rw [part0 _ _ 2 (.string t) w a9 rfl]
      simp only [Result.andThen_ok]
      rw [run_equalIn_string w _ _ _ _ Tryd.underlying9]
      simp only [Result.andThen_ok]
      cases h3 : (s.toList == t.toList) with
      | false => simp
      | true =>
        simp only [Bool.not_true, Bool.false_eq_true, if_false, Sem.run_bind]
        rw [part0 _ _ 3 (.int .i64 o) w a3 rfl]
        simp only [Result.andThen_ok]
        rw [part0 _ _ 3 (.int .i64 p) w a3 rfl]
        simp only [Result.andThen_ok]
        rw [run_equalIn_int w _ _ _ _ _ _ Tryd.underlying3]
        simp only [Result.andThen_ok]
        cases h4 : (o == p) with
        | false => simp
        | true => simp

set_option maxHeartbeats 1000000 in
theorem isNoC_any (K N : Int) (S : ByteArray) (O : Int) (w : World) (hN : U64 N) :
    Calls Tryd.prog 62 #[.agg #[.int .i64 K, .int .u64 N, .string S, .int .i64 O]] w fun e w' => e = .returned (.bool (noC ⟨K, N, S, O⟩)) ∧ Below w.heap.size w w' := by
  obtain ⟨w0, hw0⟩ : ∃ w0, w0 = w.alloc (.cells #[.int .i64 K, .int .u64 N, .string S, .int .i64 O] 63) := ⟨_, rfl⟩
  have HB0 : Hid (Below w.heap.size w w0) := by rw [hw0]; exact (Below.refl _ _).alloc (Nat.le_refl _) _
  have p0 : ∀ p : BelowOf w0, p.u.cell? ⟨w.heap.size, 0, none⟩ = some (.int .i64 K) := fun p => cell_kept p.h (Nat.le_refl _) (by rw [hw0]; simp)
  have p1 : ∀ p : BelowOf w0, p.u.cell? ⟨w.heap.size, 1, none⟩ = some (.int .u64 N) := fun p => cell_kept p.h (Nat.le_refl _) (by rw [hw0]; simp)
  have p2 : ∀ p : BelowOf w0, p.u.cell? ⟨w.heap.size, 2, none⟩ = some (.string S) := fun p => cell_kept p.h (Nat.le_refl _) (by rw [hw0]; simp)
  have p3 : ∀ p : BelowOf w0, p.u.cell? ⟨w.heap.size, 3, none⟩ = some (.int .i64 O) := fun p => cell_kept p.h (Nat.le_refl _) (by rw [hw0]; simp)
  have HI : Hid (∀ w, Calls Tryd.prog 60 #[.int .i64 K, .int .i64 5] w fun e w' => e = .returned (.bool (inB K 5)) ∧ Below w.heap.size w w') := fun w => (isIn_any K 5 w).mono fun e w' ⟨h, e2⟩ => ⟨h, by rw [e2]; exact Below.refl _ _⟩
  have HNm : Hid (∀ w, Calls Tryd.prog 74 #[.agg #[.int .i64 K, .int .u64 N, .string S, .int .i64 O]] w fun e w' => e = .returned (.agg #[.int .i64 (nK K), .int .u64 (nN K N), .string (nS K S), .int .i64 (nO K O)]) ∧ Below w.heap.size w w') := fun w => normal_any K N S O w hN
  have HQ := fun w => neqV (nK K) K (nN K N) N (nS K S) S (nO K O) O w
  have hInh : Inhabited (BelowOf w0) := ⟨⟨w0, Below.refl _ _⟩⟩
  have hR : noC ⟨K, N, S, O⟩ = (!(inB K 5) || !(normB K N S O)) := rfl
  rw [hR]
  have HM : Hid (((nK K == K) && (nN K N == N) && ((nS K S).toList == S.toList) && (nO K O == O)) = normB K N S O) := rfl
  rw [HM.out] at HQ
  generalize normB K N S O = z at *
  generalize nK K = K' at *
  generalize nN K N = N' at *
  generalize nS K S = S' at *
  generalize nO K O = O' at *
  generalize inB K 5 = y at *
  clear hR hN
  cases y with
  | false =>
    go_enter Tryd.func62, Tryd.ntmps62
    go_wp2_with fail
    rw [← hw0]
    clear hw0
    refine wp_region_below (by kernel_rfl) (by kernel_rfl) ?_
    repeat (quiet_step (fail))
    quiet_step ((go_at_call 60; exact below_of (HI.out _)))
    repeat (quiet_step (fail))
    refine wpQuiet_nil ?_
    intro wq hw'
    obtain ⟨⟨w9, hwq⟩, hw''⟩ := hw'
    subst hw''
    go_wp2
    go_ret
    exact ⟨rfl, HB0.out.trans (hwq.mono HB0.out.size)⟩
  | true =>
    go_enter Tryd.func62, Tryd.ntmps62
    go_wp2_with fail
    rw [← hw0]
    clear hw0
    refine wp_region_below (by kernel_rfl) (by kernel_rfl) ?_
    repeat (quiet_step (fail))
    quiet_step ((go_at_call 60; exact below_of (HI.out _)))
    repeat (quiet_step (fail))
    quiet_step ((go_at_call 74; exact below_of (HNm.out _)))
    repeat (quiet_step (fail))
    refine wpQuiet_nil ?_
    intro wq hw'
    obtain ⟨⟨w9, hwq⟩, hw''⟩ := hw'
    subst hw''
    go_wp2
    go_ret
    exact ⟨rfl, HB0.out.trans (hwq.mono HB0.out.size)⟩

end Go.Proofs.YtcblknghkgihcaaDoor
