/-
  DigQuiet, ValueGroups, ValueSame, ValueForms, ValueFormsOwn
-/
import Derived.BigQuiet
import Derived.Test.YtgbajhenmamjjaaGreatDoorZ26

/-
  A region that draws its order, whose callees may make memory of their own: walked once, in the order of the text, in the class of worlds below which nothing has turned.
-/
namespace Go.Proofs.YtgbajhenmamjjaaGreatDoor
set_option maxRecDepth 100000
open Go.RowKit

/-- A world in which all that was there is as it was. -/
structure BelowOf (w : World) where
  u : World
  h : Below w.heap.size w u

theorem wp_region_below {P : Program} {id : Nat} {Q : Exit → Act → World → Prop} {a : Act} {w : World} {l : List Oper} (hm : P.follows .mixedOrders = true) (hB : Region.lexB .any l.toArray = true)
    (h : wpQuiet P l.toArray (fun w' => ∃ p : BelowOf w, w' = p.u) (fun a' => ∀ w', (∃ p : BelowOf w, w' = p.u) → Q .normal a' w') l a) : (Code.region id l.toArray true).wp P Q a w :=
  wp_region_quiet (C := fun w' => ∃ p : BelowOf w, w' = p.u) hm hB ⟨⟨w.drewN 1, below_drewN (Below.refl _ _) 1⟩, rfl⟩ (by simpa using h)

/-- A callee's contract, met in a world of the class. -/
theorem below_of {P : Program} {f : FuncId} {args : Array Value} {w : World} {p : BelowOf w} {v : Value}
    (h : Calls P f args p.u fun e w' => e = .returned v ∧ Below p.u.heap.size p.u w') : Calls P f args p.u fun e w'' => e = .returned v ∧ ∃ p' : BelowOf w, w'' = p'.u :=
  h.mono fun _ w' ⟨he, hb⟩ => ⟨he, ⟨⟨w', p.h.trans (hb.mono p.h.size)⟩, rfl⟩⟩

end Go.Proofs.YtgbajhenmamjjaaGreatDoor

/-
  ValueGroups: the walk.
-/
namespace Go.Proofs.YtgbajhenmamjjaaGreatDoor
set_option maxRecDepth 100000
open Go.RowKit Flo

theorem same_at {K N : Int} {S : ByteArray} {O K' N' : Int} {S' : ByteArray} {O' : Int} {x : Bool} (hN : U64 N) (hN' : U64 N') (h : sameB K N S O K' N' S' O' = x) (w : World) :
    Calls Tryz.prog 15 #[.agg #[.int .i64 K, .int .u64 N, .string S, .int .i64 O], .agg #[.int .i64 K', .int .u64 N', .string S', .int .i64 O']] w fun e w' => e = .returned (.bool x) ∧ Below w.heap.size w w' := by
  rw [← h]; exact same_any K N S O K' N' S' O' w hN hN'

theorem at_new (w : World) (cs : Array Value) (t n j : Nat) (h : n = w.heap.size) : (w.alloc (.cells cs t)).cell? ⟨n, j, none⟩ = cs[j]? := by
  subst h
  unfold World.cell?
  rw [heap_alloc_new]
  rfl
theorem at_old (w : World) (o : Obj) (n j : Nat) (h : n < w.heap.size) : (w.alloc o).cell? ⟨n, j, none⟩ = w.cell? ⟨n, j, none⟩ :=
  ((Below.refl _ _).alloc (Nat.le_refl _) _).cell (p := ⟨n, j, none⟩) h

end Go.Proofs.YtgbajhenmamjjaaGreatDoor

/-
  ValueSame: the walk.
-/
namespace Go.Proofs.YtgbajhenmamjjaaGreatDoor
set_option maxRecDepth 100000
open Go.RowKit Flo

/-- A value in a box. -/
def Bx (w : World) (b : Nat) (K N : Int) (S : ByteArray) (O : Int) : Prop :=
  b < w.heap.size ∧ w.cell? ⟨b, 0, none⟩ = some (.int .i64 K) ∧ w.cell? ⟨b, 1, none⟩ = some (.int .u64 N) ∧ w.cell? ⟨b, 2, none⟩ = some (.string S) ∧ w.cell? ⟨b, 3, none⟩ = some (.int .i64 O)
theorem Bx.below {w w' : World} {b : Nat} {K N : Int} {S : ByteArray} {O : Int} (h : Bx w b K N S O) (hg : Below w.heap.size w w') : Bx w' b K N S O :=
  ⟨Nat.lt_of_lt_of_le h.1 hg.size, (hg.cell (p := ⟨b, 0, none⟩) h.1).trans h.2.1, (hg.cell (p := ⟨b, 1, none⟩) h.1).trans h.2.2.1, (hg.cell (p := ⟨b, 2, none⟩) h.1).trans h.2.2.2.1, (hg.cell (p := ⟨b, 3, none⟩) h.1).trans h.2.2.2.2⟩
theorem Bx.new (w : World) (K N : Int) (S : ByteArray) (O : Int) (t : Nat) : Bx (w.alloc (.cells #[.int .i64 K, .int .u64 N, .string S, .int .i64 O] t)) w.heap.size K N S O :=
  ⟨by simp, at_new _ _ _ _ _ rfl, at_new _ _ _ _ _ rfl, at_new _ _ _ _ _ rfl, at_new _ _ _ _ _ rfl⟩
theorem Bx.old {w : World} {b : Nat} {K N : Int} {S : ByteArray} {O : Int} (h : Bx w b K N S O) (x : Obj) : Bx (w.alloc x) b K N S O := h.below ((Below.refl _ _).alloc (Nat.le_refl _) _)
theorem key_at {K N : Int} {S : ByteArray} {O : Int} {x : Bool} (hN : U64 N) (h : kok K N = x) (w : World) :
    Calls Tryz.prog 4 #[.agg #[.int .i64 K, .int .u64 N, .string S, .int .i64 O]] w fun e w' => e = .returned (.tuple #[.agg #[.int .i64 (yK K N), .int .u64 (yN K N), .string (yS K N S), .int .i64 (yO K N O)], .bool x]) ∧ Below w.heap.size w w' := by
  rw [← h]; exact key_any K N S O w hN

end Go.Proofs.YtgbajhenmamjjaaGreatDoor

/-
  ValueForms: the walk.
-/
namespace Go.Proofs.YtgbajhenmamjjaaGreatDoor
set_option maxRecDepth 100000
open Go.RowKit Flo

theorem refKey_at {K N : Int} {S : ByteArray} {O : Int} {x : Bool} (hN : U64 N) (h : kok K N = x) (w : World) :
    Calls Tryz.prog 5 #[.agg #[.int .i64 K, .int .u64 N, .string S, .int .i64 O]] w fun e w' => e = .returned (.tuple #[.agg #[.int .i64 (yK K N), .int .u64 (yN K N), .string (yS K N S), .int .i64 (yO K N O)], .bool x]) ∧ Below w.heap.size w w' := by
  rw [← h]; exact refKey_any K N S O w hN

set_option maxHeartbeats 4000000 in
theorem valueForms_walk (K N : Int) (S : ByteArray) (O : Int) (w : World) (hN : U64 N) (hT : Nb w) (hP : TB w) :
    Calls Tryz.prog 3 #[.agg #[.int .i64 K, .int .u64 N, .string S, .int .i64 O]] w fun e w' => e = .returned (.bool true) ∧ Below w.heap.size w w' := by
  have HT : Hid (Nb w) := hT
  have HP : Hid (TB w) := hP
  have h00 := hT.1
  obtain ⟨ok, hok⟩ : ∃ x, kok K N = x := ⟨_, rfl⟩
  obtain ⟨R, hR⟩ := shs_exists K S hN
  have G1 : Hid (∀ w, Calls Tryz.prog 4 #[.agg #[.int .i64 K, .int .u64 N, .string S, .int .i64 O]] w fun e w' => e = .returned (.tuple #[.agg #[.int .i64 (yK K N), .int .u64 (yN K N), .string (yS K N S), .int .i64 (yO K N O)], .bool ok]) ∧ Below w.heap.size w w') := key_at hN hok
  have G2 : Hid (∀ w, Calls Tryz.prog 5 #[.agg #[.int .i64 K, .int .u64 N, .string S, .int .i64 O]] w fun e w' => e = .returned (.tuple #[.agg #[.int .i64 (yK K N), .int .u64 (yN K N), .string (yS K N S), .int .i64 (yO K N O)], .bool ok]) ∧ Below w.heap.size w w') := refKey_at hN hok
  have G3 : Hid (∀ w, Calls Tryz.prog 6 #[.agg #[.int .i64 K, .int .u64 N, .string S, .int .i64 O]] w fun e w' => e = .returned (.agg #[.int .i64 (nK K), .int .u64 (nN K N), .string (nS K S), .int .i64 (nO K O)]) ∧ Below w.heap.size w w') := fun w => normal_any K N S O w hN
  have G4 : Hid (∀ w, Calls Tryz.prog 7 #[.agg #[.int .i64 K, .int .u64 N, .string S, .int .i64 O]] w fun e w' => e = .returned (.agg #[.int .i64 (nK K), .int .u64 (nN K N), .string (nS K S), .int .i64 (nO K O)]) ∧ Below w.heap.size w w') := fun w => refNormal_any K N S O w hN
  obtain ⟨t, ht⟩ : ∃ t, decide (2 ≤ nK K) = t := ⟨_, rfl⟩
  have G5 : Hid (∀ w, Calls Tryz.prog 8 #[.agg #[.int .i64 K, .int .u64 N, .string S, .int .i64 O]] w fun e w' => e = .returned (.bool t) ∧ Below w.heap.size w w') := fun w => by
    have := truth_any K N S O w hN
    rw [ht] at this
    exact this
  have G6 : Hid (∀ w, Calls Tryz.prog 9 #[.agg #[.int .i64 K, .int .u64 N, .string S, .int .i64 O]] w fun e w' => e = .returned (.bool t) ∧ Below w.heap.size w w') := fun w => by
    have := refTruth_any K N S O w hN
    rw [ht] at this
    exact this
  obtain ⟨m, hm⟩ : ∃ m, nmOf (nK K) = m := ⟨_, rfl⟩
  have G7 : Hid (∀ w, Nb w → Calls Tryz.prog 10 #[.agg #[.int .i64 K, .int .u64 N, .string S, .int .i64 O]] w fun e w' => e = .returned (.string m) ∧ Below w.heap.size w w') := fun w h => by
    have := name_any K N S O w hN h
    rw [hm] at this
    exact this
  have G8 : Hid (∀ w, Calls Tryz.prog 11 #[.agg #[.int .i64 K, .int .u64 N, .string S, .int .i64 O]] w fun e w' => e = .returned (.string m) ∧ Below w.heap.size w w') := fun w => by
    have := refName_any K N S O w hN
    rw [hm] at this
    exact this
  have G9 : Hid (∀ w, Nb w → TB w → Calls Tryz.prog 12 #[.agg #[.int .i64 K, .int .u64 N, .string S, .int .i64 O]] w fun e w' => e = .returned (.string R) ∧ Below w.heap.size w w') := fun w h1 h2 => show_any K N S O R w hN hR h1 h2
  have G10 : Hid (∀ w, Calls Tryz.prog 13 #[.agg #[.int .i64 K, .int .u64 N, .string S, .int .i64 O]] w fun e w' => e = .returned (.string R) ∧ Below w.heap.size w w') := fun w => refShow_any K N S O R w hN hR
  obtain ⟨w0, hw0⟩ : ∃ w0, w0 = w.alloc (.cells #[.int .i64 K, .int .u64 N, .string S, .int .i64 O] 25) := ⟨_, rfl⟩
  have hB0 : Below w.heap.size w w0 := by rw [hw0]; exact (Below.refl _ _).alloc (Nat.le_refl _) _
  have x0 : Bx w0 w.heap.size K N S O := by rw [hw0]; exact Bx.new _ _ _ _ _ _
  clear hok hT hP hN ht hm hR
  go_enter Tryz.func3, Tryz.ntmps3
  go_upto_region 1 with fail
  rw [← hw0]
  clear hw0
  have ⟨x0_z, x0_0, x0_1, x0_2, x0_3⟩ := x0
  go_wp2_with fail
  refine (G1.out _).mono ?_
  rintro e w1 ⟨rfl, hb1⟩
  have hB1 := hB0.trans (hb1.mono hB0.size)
  have x1 := x0.below hb1
  clear hb1
  have ⟨x1_z, x1_0, x1_1, x1_2, x1_3⟩ := x1
  go_upto_region 2 with fail
  obtain ⟨w2, hw2⟩ : ∃ x, x = w1.alloc (.cells #[.int .i64 (yK K N), .int .u64 (yN K N), .string (yS K N S), .int .i64 (yO K N O)] 25) := ⟨_, rfl⟩
  have hB2 : Below w.heap.size w w2 := by rw [hw2]; exact hB1.alloc hB1.size _
  have x2 : Bx w2 w.heap.size (K) (N) (S) (O) := by rw [hw2]; exact x1.old _
  have k2 : Bx w2 w1.heap.size (yK K N) (yN K N) (yS K N S) (yO K N O) := by rw [hw2]; exact Bx.new _ _ _ _ _ _
  rw [← hw2]
  clear hw2
  have ⟨x2_z, x2_0, x2_1, x2_2, x2_3⟩ := x2
  have ⟨k2_z, k2_0, k2_1, k2_2, k2_3⟩ := k2
  go_wp2_with fail
  refine (G2.out _).mono ?_
  rintro e w3 ⟨rfl, hb3⟩
  have hB3 := hB2.trans (hb3.mono hB2.size)
  have x3 := x2.below hb3
  have k3 := k2.below hb3
  clear hb3
  have ⟨x3_z, x3_0, x3_1, x3_2, x3_3⟩ := x3
  have ⟨k3_z, k3_0, k3_1, k3_2, k3_3⟩ := k3
  go_upto_region 3 with fail
  obtain ⟨w4, hw4⟩ : ∃ x, x = w3.alloc (.cells #[.int .i64 (yK K N), .int .u64 (yN K N), .string (yS K N S), .int .i64 (yO K N O)] 25) := ⟨_, rfl⟩
  have hB4 : Below w.heap.size w w4 := by rw [hw4]; exact hB3.alloc hB3.size _
  have x4 : Bx w4 w.heap.size (K) (N) (S) (O) := by rw [hw4]; exact x3.old _
  have k4 : Bx w4 w1.heap.size (yK K N) (yN K N) (yS K N S) (yO K N O) := by rw [hw4]; exact k3.old _
  have l4 : Bx w4 w3.heap.size (yK K N) (yN K N) (yS K N S) (yO K N O) := by rw [hw4]; exact Bx.new _ _ _ _ _ _
  rw [← hw4]
  clear hw4
  have ⟨x4_z, x4_0, x4_1, x4_2, x4_3⟩ := x4
  have ⟨k4_z, k4_0, k4_1, k4_2, k4_3⟩ := k4
  have ⟨l4_z, l4_0, l4_1, l4_2, l4_3⟩ := l4
  have qx0 : ∀ p : BelowOf w4, p.u.cell? ⟨w.heap.size, 0, none⟩ = some (.int .i64 (K)) := fun p => (p.h.cell (p := ⟨w.heap.size, 0, none⟩) x4_z).trans x4_0
  have qx1 : ∀ p : BelowOf w4, p.u.cell? ⟨w.heap.size, 1, none⟩ = some (.int .u64 (N)) := fun p => (p.h.cell (p := ⟨w.heap.size, 1, none⟩) x4_z).trans x4_1
  have qx2 : ∀ p : BelowOf w4, p.u.cell? ⟨w.heap.size, 2, none⟩ = some (.string (S)) := fun p => (p.h.cell (p := ⟨w.heap.size, 2, none⟩) x4_z).trans x4_2
  have qx3 : ∀ p : BelowOf w4, p.u.cell? ⟨w.heap.size, 3, none⟩ = some (.int .i64 (O)) := fun p => (p.h.cell (p := ⟨w.heap.size, 3, none⟩) x4_z).trans x4_3
  have qk0 : ∀ p : BelowOf w4, p.u.cell? ⟨w1.heap.size, 0, none⟩ = some (.int .i64 (yK K N)) := fun p => (p.h.cell (p := ⟨w1.heap.size, 0, none⟩) k4_z).trans k4_0
  have qk1 : ∀ p : BelowOf w4, p.u.cell? ⟨w1.heap.size, 1, none⟩ = some (.int .u64 (yN K N)) := fun p => (p.h.cell (p := ⟨w1.heap.size, 1, none⟩) k4_z).trans k4_1
  have qk2 : ∀ p : BelowOf w4, p.u.cell? ⟨w1.heap.size, 2, none⟩ = some (.string (yS K N S)) := fun p => (p.h.cell (p := ⟨w1.heap.size, 2, none⟩) k4_z).trans k4_2
  have qk3 : ∀ p : BelowOf w4, p.u.cell? ⟨w1.heap.size, 3, none⟩ = some (.int .i64 (yO K N O)) := fun p => (p.h.cell (p := ⟨w1.heap.size, 3, none⟩) k4_z).trans k4_3
  have ql0 : ∀ p : BelowOf w4, p.u.cell? ⟨w3.heap.size, 0, none⟩ = some (.int .i64 (yK K N)) := fun p => (p.h.cell (p := ⟨w3.heap.size, 0, none⟩) l4_z).trans l4_0
  have ql1 : ∀ p : BelowOf w4, p.u.cell? ⟨w3.heap.size, 1, none⟩ = some (.int .u64 (yN K N)) := fun p => (p.h.cell (p := ⟨w3.heap.size, 1, none⟩) l4_z).trans l4_1
  have ql2 : ∀ p : BelowOf w4, p.u.cell? ⟨w3.heap.size, 2, none⟩ = some (.string (yS K N S)) := fun p => (p.h.cell (p := ⟨w3.heap.size, 2, none⟩) l4_z).trans l4_2
  have ql3 : ∀ p : BelowOf w4, p.u.cell? ⟨w3.heap.size, 3, none⟩ = some (.int .i64 (yO K N O)) := fun p => (p.h.cell (p := ⟨w3.heap.size, 3, none⟩) l4_z).trans l4_3
  have HT4 : Hid (∀ p : BelowOf w4, Nb p.u) := fun p => (HT.out.below hB4 h00).below p.h (by have := x4_z; omega)
  have HP4 : Hid (∀ p : BelowOf w4, TB p.u) := fun p => (HP.out.below hB4).below p.h
  have hInh : Inhabited (BelowOf w4) := ⟨⟨w4, Below.refl _ _⟩⟩
  cases ok
  all_goals
    go_wp2_with fail
    refine wp_region_below (by kernel_rfl) (by kernel_rfl) ?_
    repeat (quiet_step (fail))
    quiet_step ((go_at_call 6; exact below_of (G3.out _)))
    repeat (quiet_step (fail))
    quiet_step ((go_at_call 7; exact below_of (G4.out _)))
    repeat (quiet_step (fail))
    quiet_step ((go_at_call 8; exact below_of (G5.out _)))
    repeat (quiet_step (fail))
    quiet_step ((go_at_call 9; exact below_of (G6.out _)))
    repeat (quiet_step (fail))
    quiet_step ((go_at_call 10; exact below_of (G7.out _ (HT4.out _))))
    repeat (quiet_step (fail))
    quiet_step ((go_at_call 11; exact below_of (G8.out _)))
    repeat (quiet_step (fail))
    quiet_step ((go_at_call 12; exact below_of (G9.out _ (HT4.out _) (HP4.out _))))
    repeat (quiet_step (fail))
    quiet_step ((go_at_call 13; exact below_of (G10.out _)))
    repeat (quiet_step (fail))
    quiet_step ((go_at_call 14; exact below_of (vlives_any _ (HT4.out _))))
    repeat (quiet_step (fail))
    refine wpQuiet_nil ?_
    intro _ hw'
    obtain ⟨⟨w7, hwq⟩, hw''⟩ := hw'
    subst hw''
    have HB7 : Hid (Below w.heap.size w _) := hB4.trans (hwq.mono hB4.size)
    clear hwq
    go_wp2
    go_ret
    exact ⟨rfl, HB7.out⟩

end Go.Proofs.YtgbajhenmamjjaaGreatDoor

/-
  For every value: what of it plays a part, what it is as a key, whether it is true, what it is called and shown as are the document's, as the reference has them: the statement ValueForms, with no condition.
-/
namespace Go.Proofs.YtgbajhenmamjjaaGreatDoor.valueForms
set_option maxRecDepth 100000
open Go.ChangeShapes Go.WideShapes Go.ChangeAt Go.RowKit

theorem contract (H : Type) (enc : TypeId × Value → H) (W : World) (base : Nat) (args : Array Value) (ds gs : List (DataW H)) (before : List MemPlace)
    (hval0 : ∀ (j : Nat) t v, Tryz.f3.params[j]? = some t → args[j]? = some v → Value.okWide Tryz.prog W .any base t v)
    (hW : DataW.Whole enc Tryz.prog Tryz.f3.params.toList Rows.valueFormsSpec.vars false W args.toList ds gs before) (hL : laidMetH Tryz.prog laidBoth W)
    (hsz : (DataW.weightsEach Tryz.prog (Tryz.f3.params.toList ++ (OpenSpec.ofChange Rows.valueFormsSpec).bare.plain.varTypes Tryz.prog) (ds ++ gs)).all (· ≤ reachBytes) = true) :
    Calls Tryz.prog 3 args W fun e W' => ∃ v, e = .returned v ∧ Rows.valueFormsSpec.post enc Tryz.prog Tryz.f3 false true false false W args v W' := by
  have hval : ∀ (j : Nat) t v, Tryz.f3.params[j]? = some t → args[j]? = some v → Value.okWide Tryz.prog W .any base t v := hval0
  have hW' := hW
  obtain ⟨p, q, hA0, hV, rfl, hfz, hnd⟩ := hW
  have hA : DataW.TrodAll enc Tryz.prog W 0 (fun _ => true) true Tryz.f3.params.toList args.toList ds p := hA0
  rw [Tryz.params3] at hA hval hsz
  obtain ⟨v0, vs0, d0, ds0, p0, q0, hargs, rfl, rfl, h0, r0⟩ := trodAll_cons hA
  obtain ⟨rfl, rfl, rfl⟩ := trodAll_nil r0
  obtain rfl : args = #[v0] := by cases args; simp_all
  obtain ⟨rfl, rfl⟩ := trodVars_none hV
  have lt0 : ∀ x ∈ p0, x.block < W.heap.size := by obtain ⟨m, hm⟩ := h0; exact DataW.trod_lt m _ _ _ hm
  obtain ⟨K0, N0, S0, O0, rfl, u0, m0⟩ := open_value (hval 0 25 v0 rfl rfl)
  have ⟨hT, hP⟩ := bothTabs hL
  clear hA0 hval0
  refine (valueForms_walk K0 N0 S0 O0 W u0 hT hP).mono fun e W' ⟨he, bel⟩ => ?_
  subst he
  exact ⟨_, rfl, _, _, _, [], _, [], hW', trodAll_mk1 (shut_bool Tryz.underlying4 _), (trodAll_cons_mk (Below.trod laidOut (by kernel_rfl) (of_decide_eq_true (by kernel_rfl)) h0 bel lt0) trodAll_mk0), rfl, bel.frame _, fun h => by cases h⟩

theorem laid_met (os : Os) : laidMet Tryz.prog Rows.valueFormsRow.laid ((World.doorLaid Tryz.prog 4000 os).forCall (fun _ _ => 0) ⟨#[], #[.agg #[.int .i64 0, .int .u64 0, .string ⟨#[]⟩, .int .i64 0]], []⟩).memory :=
  laidMet_of_run' 8 (by kernel_rfl) (by kernel_rfl)
theorem reads (os : Os) {H : Type} (enc : TypeId × Value → H) : ∃ places, DataW.whole enc Tryz.prog ((World.doorLaid Tryz.prog 4000 os).forCall (fun _ _ => 0) ⟨#[], #[.agg #[.int .i64 0, .int .u64 0, .string ⟨#[]⟩, .int .i64 0]], []⟩).memory Tryz.f3.params.toList Rows.valueFormsSpec.vars false (#[.agg #[.int .i64 0, .int .u64 0, .string ⟨#[]⟩, .int .i64 0]] : Array Value).toList 8 = some ([.agg [.lit (.int .i64 0), .lit (.int .u64 0), .lit (.string []), .lit (.int .i64 0)]], [], places) :=
  ⟨[], by kernel_rfl⟩

set_option maxRecDepth 100000 in
theorem lifted (os : Os) (started : os.Started) (H : Type) (enc : TypeId × Value → H) (F : Stop.Interp) :
    ReturnsInHanded {} Tryz.checked os 3 .any ((OpenSpec.ofChange Rows.valueFormsSpec).preRow enc Tryz.prog Tryz.f3 Rows.valueFormsRow.domain false Rows.valueFormsRow.laid) (((OpenSpec.ofChange Rows.valueFormsSpec).at F).post enc Tryz.prog Tryz.f3 false true false false) := by
  obtain ⟨places, hx⟩ := reads os enc
  refine returnsInHanded_of_row (C := Tryz.checked) (s := OpenSpec.ofChange Rows.valueFormsSpec) ownKnob_none started (by kernel_rfl) Tryz.func3
    (witness_row_at (enc := enc) (C := Tryz.checked) false (World.doorLaid Tryz.prog 4000 os) #[.agg #[.int .i64 0, .int .u64 0, .string ⟨#[]⟩, .int .i64 0]] rfl (by kernel_rfl) (by kernel_rfl) (by kernel_rfl)
      (OpenSpec.preRow_of_cond 8 hx (by kernel_rfl) (fun k hk => by cases hk) (by kernel_rfl) (laid_met os))) ?_
  intro W base args ds gs before hval hW _ _ hsz hL _ _
  exact contract H enc W base args ds gs before hval hW hL hsz

theorem said : Rows.ValueFormsSaid :=
  OpenClaim.holds_of_cond 3 Tryz.f3 rfl rfl rfl rfl rfl rfl rfl ⟨rfl, rfl, rfl, rfl, rfl⟩ rfl rfl rfl rfl rfl (by kernel_rfl) Tryz.func3 (by kernel_rfl)
    (of_decide_eq_true (by kernel_rfl)) (by unfold Func.isWrapper; first | (rw [if_pos (by decide +kernel)]; kernel_rfl) | (rw [if_neg (by decide +kernel)]; exact ⟨rfl, rfl⟩))
    (fun os started H enc _ F => by rw [OpenClaim.pre_eq_preRow]; exact lifted os started H enc F)

theorem plain (f : FuncId) (fn : Func) (hf : Tryz.pinned.checked.prog.funcNamed "minstrel/minstrellaw08.ValueForms" = some f) (hfn : Tryz.pinned.checked.prog.funcs[f]? = some fn) :
    false = Tryz.pinned.checked.prog.looks [] ∧ ∀ (j : Nat) t, fn.params[j]? = some t → Tryz.pinned.checked.prog.wantsStandIn t = false := by
  obtain rfl : f = 3 := Option.some.inj ((show Tryz.prog.funcNamed "minstrel/minstrellaw08.ValueForms" = some 3 by kernel_rfl).symm.trans hf) |>.symm
  obtain rfl : fn = Tryz.f3 := (Option.some.inj (Tryz.func3.symm.trans hfn)).symm
  refine ⟨by kernel_rfl, fun j t ht => ?_⟩
  rw [Tryz.params3] at ht
  have hm : t ∈ [25] := by simpa using Array.mem_of_getElem? ht
  have hall : ([25].all fun u => !Tryz.prog.wantsStandIn u) = true := by kernel_rfl
  exact (show Tryz.prog.wantsStandIn t = false by simpa using List.all_eq_true.1 hall t hm)

/-- The statement. -/
theorem proved : Rows.ValueFormsCardSaid :=
  Claim7.holds_tied_plain_at .later [] _ _ _ _ said (fun _ h => by cases h) (by kernel_rfl) (fun _ h => by cases h) valueForms_row_tie rfl ⟨rfl, rfl⟩ (by kernel_rfl) rfl plain (by kernel_rfl)
end Go.Proofs.YtgbajhenmamjjaaGreatDoor.valueForms
