/-
  ValueGroups
-/
import Derived.BigQuiet
import Derived.Test.YtgbajhenmamjjaaDoorZ14

/-
  ValueGroups: the walk.
-/
namespace Go.Proofs.YtgbajhenmamjjaaDoor
set_option maxRecDepth 100000
open Go.RowKit Flo

theorem same_at {K N : Int} {S : ByteArray} {O K' N' : Int} {S' : ByteArray} {O' : Int} {x : Bool} (hN : U64 N) (hN' : U64 N') (h : sameB K N S O K' N' S' O' = x) (w : World) :
    Calls Tryd.prog 6 #[.agg #[.int .i64 K, .int .u64 N, .string S, .int .i64 O], .agg #[.int .i64 K', .int .u64 N', .string S', .int .i64 O']] w fun e w' => e = .returned (.bool x) ∧ Below w.heap.size w w' := by
  rw [← h]; exact same_any K N S O K' N' S' O' w hN hN'

theorem at_new (w : World) (cs : Array Value) (t n j : Nat) (h : n = w.heap.size) : (w.alloc (.cells cs t)).cell? ⟨n, j, none⟩ = cs[j]? := by
  subst h
  unfold World.cell?
  rw [heap_alloc_new]
  rfl
theorem at_old (w : World) (o : Obj) (n j : Nat) (h : n < w.heap.size) : (w.alloc o).cell? ⟨n, j, none⟩ = w.cell? ⟨n, j, none⟩ :=
  ((Below.refl _ _).alloc (Nat.le_refl _) _).cell (p := ⟨n, j, none⟩) h

set_option maxHeartbeats 4000000 in
theorem valueGroups_walk (K N : Int) (S : ByteArray) (O : Int) (K' N' : Int) (S' : ByteArray) (O' : Int) (K2 N2 : Int) (S2 : ByteArray) (O2 : Int) (w : World) (hN : U64 N) (hN' : U64 N') (hN2 : U64 N2) (hT : Nb w) :
    Calls Tryd.prog 5 #[.agg #[.int .i64 K, .int .u64 N, .string S, .int .i64 O], .agg #[.int .i64 K', .int .u64 N', .string S', .int .i64 O'], .agg #[.int .i64 K2, .int .u64 N2, .string S2, .int .i64 O2]] w fun e w' => e = .returned (.bool true) ∧ Below w.heap.size w w' := by
  have HT : Hid (Nb w) := hT
  have h00 := hT.1
  obtain ⟨x, hx⟩ : ∃ x, sameB K N S O K' N' S' O' = x := ⟨_, rfl⟩
  obtain ⟨y, hy⟩ : ∃ x, sameB K' N' S' O' K2 N2 S2 O2 = x := ⟨_, rfl⟩
  obtain ⟨z, hz⟩ : ∃ x, sameB K N S O K2 N2 S2 O2 = x := ⟨_, rfl⟩
  have H1 : Hid (∀ w, Calls Tryd.prog 6 #[.agg #[.int .i64 K, .int .u64 N, .string S, .int .i64 O], .agg #[.int .i64 K', .int .u64 N', .string S', .int .i64 O']] w fun e w' => e = .returned (.bool x) ∧ Below w.heap.size w w') := same_at hN hN' hx
  have H2 : Hid (∀ w, Calls Tryd.prog 6 #[.agg #[.int .i64 K', .int .u64 N', .string S', .int .i64 O'], .agg #[.int .i64 K2, .int .u64 N2, .string S2, .int .i64 O2]] w fun e w' => e = .returned (.bool y) ∧ Below w.heap.size w w') := same_at hN' hN2 hy
  have H3 : Hid (∀ w, Calls Tryd.prog 6 #[.agg #[.int .i64 K, .int .u64 N, .string S, .int .i64 O], .agg #[.int .i64 K2, .int .u64 N2, .string S2, .int .i64 O2]] w fun e w' => e = .returned (.bool z) ∧ Below w.heap.size w w') := same_at hN hN2 hz
  have H4 : Hid (∀ w, Calls Tryd.prog 6 #[.agg #[.int .i64 K', .int .u64 N', .string S', .int .i64 O'], .agg #[.int .i64 K, .int .u64 N, .string S, .int .i64 O]] w fun e w' => e = .returned (.bool x) ∧ Below w.heap.size w w') := same_at hN' hN ((same_symm hN hN').trans hx)
  have hz2 : x = true → y = true → z = true := by
    rintro rfl rfl
    rw [← hz]; exact same_trans hN hN' hN2 hx hy
  clear hx hy hz hT hN hN' hN2
  obtain ⟨w0, hw0⟩ : ∃ w0, w0 = ((w.alloc (.cells #[.int .i64 K, .int .u64 N, .string S, .int .i64 O] 25)).alloc (.cells #[.int .i64 K', .int .u64 N', .string S', .int .i64 O'] 25)).alloc (.cells #[.int .i64 K2, .int .u64 N2, .string S2, .int .i64 O2] 25) := ⟨_, rfl⟩
  have hB0 : Below w.heap.size w w0 := by rw [hw0]; exact (((Below.refl _ _).alloc (Nat.le_refl _) _).alloc (by simp) _).alloc (by simp; omega) _
  have hs0 : w0.heap.size = w.heap.size + 3 := by rw [hw0]; simp
  have d00 : w0.cell? ⟨w.heap.size, 0, none⟩ = some (.int .i64 K) := by rw [hw0, at_old _ _ _ _ (by simp; omega), at_old _ _ _ _ (by simp), at_new _ _ _ _ _ rfl]; rfl
  have c00 : ∀ p : BelowOf w0, p.u.cell? ⟨w.heap.size, 0, none⟩ = some (.int .i64 K) := fun p => (p.h.cell (p := ⟨w.heap.size, 0, none⟩) (show w.heap.size < w0.heap.size by omega)).trans d00
  have d01 : w0.cell? ⟨w.heap.size, 1, none⟩ = some (.int .u64 N) := by rw [hw0, at_old _ _ _ _ (by simp; omega), at_old _ _ _ _ (by simp), at_new _ _ _ _ _ rfl]; rfl
  have c01 : ∀ p : BelowOf w0, p.u.cell? ⟨w.heap.size, 1, none⟩ = some (.int .u64 N) := fun p => (p.h.cell (p := ⟨w.heap.size, 1, none⟩) (show w.heap.size < w0.heap.size by omega)).trans d01
  have d02 : w0.cell? ⟨w.heap.size, 2, none⟩ = some (.string S) := by rw [hw0, at_old _ _ _ _ (by simp; omega), at_old _ _ _ _ (by simp), at_new _ _ _ _ _ rfl]; rfl
  have c02 : ∀ p : BelowOf w0, p.u.cell? ⟨w.heap.size, 2, none⟩ = some (.string S) := fun p => (p.h.cell (p := ⟨w.heap.size, 2, none⟩) (show w.heap.size < w0.heap.size by omega)).trans d02
  have d03 : w0.cell? ⟨w.heap.size, 3, none⟩ = some (.int .i64 O) := by rw [hw0, at_old _ _ _ _ (by simp; omega), at_old _ _ _ _ (by simp), at_new _ _ _ _ _ rfl]; rfl
  have c03 : ∀ p : BelowOf w0, p.u.cell? ⟨w.heap.size, 3, none⟩ = some (.int .i64 O) := fun p => (p.h.cell (p := ⟨w.heap.size, 3, none⟩) (show w.heap.size < w0.heap.size by omega)).trans d03
  have d10 : w0.cell? ⟨w.heap.size + 1, 0, none⟩ = some (.int .i64 K') := by rw [hw0, at_old _ _ _ _ (by simp), at_new _ _ _ _ _ (by simp)]; rfl
  have c10 : ∀ p : BelowOf w0, p.u.cell? ⟨w.heap.size + 1, 0, none⟩ = some (.int .i64 K') := fun p => (p.h.cell (p := ⟨w.heap.size + 1, 0, none⟩) (show w.heap.size + 1 < w0.heap.size by omega)).trans d10
  have d11 : w0.cell? ⟨w.heap.size + 1, 1, none⟩ = some (.int .u64 N') := by rw [hw0, at_old _ _ _ _ (by simp), at_new _ _ _ _ _ (by simp)]; rfl
  have c11 : ∀ p : BelowOf w0, p.u.cell? ⟨w.heap.size + 1, 1, none⟩ = some (.int .u64 N') := fun p => (p.h.cell (p := ⟨w.heap.size + 1, 1, none⟩) (show w.heap.size + 1 < w0.heap.size by omega)).trans d11
  have d12 : w0.cell? ⟨w.heap.size + 1, 2, none⟩ = some (.string S') := by rw [hw0, at_old _ _ _ _ (by simp), at_new _ _ _ _ _ (by simp)]; rfl
  have c12 : ∀ p : BelowOf w0, p.u.cell? ⟨w.heap.size + 1, 2, none⟩ = some (.string S') := fun p => (p.h.cell (p := ⟨w.heap.size + 1, 2, none⟩) (show w.heap.size + 1 < w0.heap.size by omega)).trans d12
  have d13 : w0.cell? ⟨w.heap.size + 1, 3, none⟩ = some (.int .i64 O') := by rw [hw0, at_old _ _ _ _ (by simp), at_new _ _ _ _ _ (by simp)]; rfl
  have c13 : ∀ p : BelowOf w0, p.u.cell? ⟨w.heap.size + 1, 3, none⟩ = some (.int .i64 O') := fun p => (p.h.cell (p := ⟨w.heap.size + 1, 3, none⟩) (show w.heap.size + 1 < w0.heap.size by omega)).trans d13
  have d20 : w0.cell? ⟨w.heap.size + 2, 0, none⟩ = some (.int .i64 K2) := by rw [hw0, at_new _ _ _ _ _ (by simp)]; rfl
  have c20 : ∀ p : BelowOf w0, p.u.cell? ⟨w.heap.size + 2, 0, none⟩ = some (.int .i64 K2) := fun p => (p.h.cell (p := ⟨w.heap.size + 2, 0, none⟩) (show w.heap.size + 2 < w0.heap.size by omega)).trans d20
  have d21 : w0.cell? ⟨w.heap.size + 2, 1, none⟩ = some (.int .u64 N2) := by rw [hw0, at_new _ _ _ _ _ (by simp)]; rfl
  have c21 : ∀ p : BelowOf w0, p.u.cell? ⟨w.heap.size + 2, 1, none⟩ = some (.int .u64 N2) := fun p => (p.h.cell (p := ⟨w.heap.size + 2, 1, none⟩) (show w.heap.size + 2 < w0.heap.size by omega)).trans d21
  have d22 : w0.cell? ⟨w.heap.size + 2, 2, none⟩ = some (.string S2) := by rw [hw0, at_new _ _ _ _ _ (by simp)]; rfl
  have c22 : ∀ p : BelowOf w0, p.u.cell? ⟨w.heap.size + 2, 2, none⟩ = some (.string S2) := fun p => (p.h.cell (p := ⟨w.heap.size + 2, 2, none⟩) (show w.heap.size + 2 < w0.heap.size by omega)).trans d22
  have d23 : w0.cell? ⟨w.heap.size + 2, 3, none⟩ = some (.int .i64 O2) := by rw [hw0, at_new _ _ _ _ _ (by simp)]; rfl
  have c23 : ∀ p : BelowOf w0, p.u.cell? ⟨w.heap.size + 2, 3, none⟩ = some (.int .i64 O2) := fun p => (p.h.cell (p := ⟨w.heap.size + 2, 3, none⟩) (show w.heap.size + 2 < w0.heap.size by omega)).trans d23
  have HL : Hid (∀ p : BelowOf w0, Calls Tryd.prog 9 #[] p.u fun e w' => e = .returned (.bool true) ∧ Below p.u.heap.size p.u w') := fun p => vlives_any p.u ((HT.out.below hB0 h00).below p.h (by omega))
  have HB0 : Hid (Below w.heap.size w w0) := hB0
  have hInh : Inhabited (BelowOf w0) := ⟨⟨w0, Below.refl _ _⟩⟩
  clear hB0 hs0
  cases x <;> cases y
  case true.true =>
    obtain rfl : z = true := hz2 rfl rfl
    clear hz2
    go_enter Tryd.func5, Tryd.ntmps5
    go_wp2_with fail
    rw [← hw0]
    clear hw0
    refine wp_region_below (by kernel_rfl) (by kernel_rfl) ?_
    repeat (quiet_step (fail))
    quiet_step ((go_at_call 6; exact below_of (H1.out _)))
    repeat (quiet_step (fail))
    quiet_step ((go_at_call 6; exact below_of (H2.out _)))
    repeat (quiet_step (fail))
    quiet_step ((go_at_call 6; exact below_of (H3.out _)))
    repeat (quiet_step (fail))
    quiet_step ((go_at_call 6; exact below_of (H1.out _)))
    repeat (quiet_step (fail))
    quiet_step ((go_at_call 6; exact below_of (H4.out _)))
    repeat (quiet_step (fail))
    quiet_step ((go_at_call 9; exact below_of (HL.out _)))
    repeat (quiet_step (fail))
    refine wpQuiet_nil ?_
    intro _ hw'
    obtain ⟨⟨wq, hwq⟩, hw''⟩ := hw'
    subst hw''
    go_wp2
    go_ret
    exact ⟨rfl, HB0.out.trans (hwq.mono HB0.out.size)⟩
  case true.false =>
    go_enter Tryd.func5, Tryd.ntmps5
    go_wp2_with fail
    rw [← hw0]
    clear hw0
    refine wp_region_below (by kernel_rfl) (by kernel_rfl) ?_
    repeat (quiet_step (fail))
    quiet_step ((go_at_call 6; exact below_of (H1.out _)))
    repeat (quiet_step (fail))
    quiet_step ((go_at_call 6; exact below_of (H2.out _)))
    repeat (quiet_step (fail))
    quiet_step ((go_at_call 6; exact below_of (H1.out _)))
    repeat (quiet_step (fail))
    quiet_step ((go_at_call 6; exact below_of (H4.out _)))
    repeat (quiet_step (fail))
    quiet_step ((go_at_call 9; exact below_of (HL.out _)))
    repeat (quiet_step (fail))
    refine wpQuiet_nil ?_
    intro _ hw'
    obtain ⟨⟨wq, hwq⟩, hw''⟩ := hw'
    subst hw''
    go_wp2
    go_ret
    exact ⟨rfl, HB0.out.trans (hwq.mono HB0.out.size)⟩
  all_goals
    go_enter Tryd.func5, Tryd.ntmps5
    go_wp2_with fail
    rw [← hw0]
    clear hw0
    refine wp_region_below (by kernel_rfl) (by kernel_rfl) ?_
    repeat (quiet_step (fail))
    quiet_step ((go_at_call 6; exact below_of (H1.out _)))
    repeat (quiet_step (fail))
    quiet_step ((go_at_call 6; exact below_of (H1.out _)))
    repeat (quiet_step (fail))
    quiet_step ((go_at_call 6; exact below_of (H4.out _)))
    repeat (quiet_step (fail))
    quiet_step ((go_at_call 9; exact below_of (HL.out _)))
    repeat (quiet_step (fail))
    refine wpQuiet_nil ?_
    intro _ hw'
    obtain ⟨⟨wq, hwq⟩, hw''⟩ := hw'
    subst hw''
    go_wp2
    go_ret
    exact ⟨rfl, HB0.out.trans (hwq.mono HB0.out.size)⟩

end Go.Proofs.YtgbajhenmamjjaaDoor
