/-
  HpAsks
-/
import Derived.Test.YthmocdabakkfhaaGreatDoorZ38

/-
  Layer 9: what both heaps are asked.
-/
namespace Go.Proofs.YthmocdabakkfhaaGreatDoor
set_option maxRecDepth 100000
open Go.RowKit Flo

/-- The cells of a call that are asked of. -/
structure Kc (w : World) (b : Nat) (c : Ac) : Prop where
  c1 : w.cell? ⟨b, 1, none⟩ = some (.int .i64 c.o)
  c4 : w.cell? ⟨b, 4, none⟩ = some (.int .i64 c.n)
  c5 : w.cell? ⟨b, 5, none⟩ = some (.int .i64 c.k.K)
  c6 : w.cell? ⟨b, 6, none⟩ = some (.int .u64 c.k.N)
  c7 : w.cell? ⟨b, 7, none⟩ = some (.string c.k.S)
  c8 : w.cell? ⟨b, 8, none⟩ = some (.int .i64 c.k.O)
theorem Kc.below {w w' : World} {b : Nat} {c : Ac} (h : Kc w b c) (k : Below w.heap.size w w') : Kc w' b c := by
  have hl : b < w.heap.size := World.block_lt_of_cell? w _ h.c1
  exact ⟨(k.cell hl).trans h.c1, (k.cell hl).trans h.c4, (k.cell hl).trans h.c5, (k.cell hl).trans h.c6, (k.cell hl).trans h.c7, (k.cell hl).trans h.c8⟩
theorem below_same {w w' : World} {v : Value} {e : Ending} (h : e = .returned v ∧ w' = w) : e = .returned v ∧ Below w.heap.size w w' := ⟨h.1, by rw [h.2]; exact Below.refl _ _⟩
theorem below_drawn {w w' : World} {v : Value} {e : Ending} (h : e = .returned v ∧ ∃ q, w' = w.drewN q) : e = .returned v ∧ Below w.heap.size w w' := ⟨h.1, by obtain ⟨q, hq⟩ := h.2; rw [hq]; exact hp_drewN w q⟩

set_option maxHeartbeats 4000000 in
theorem asks_any {w : World} {hb db lim B : Nat} {L : List Om} {Z Q : Nat → Prop} (h : Dv w hb db lim B L Z Q) (hn : Nn L) (c : Ac) (hc : c.Ok) :
    Calls Tryz.prog 12 #[.pointer (some ⟨hb, 0, none⟩), .pointer (some ⟨db, 0, none⟩), c.val] w fun e w' => e = .returned (.bool true) ∧ Below w.heap.size w w' := by
  obtain ⟨RR, rs, hrv, hrs⟩ := h.r
  have hkN := hc.kn
  have hkS := hc.ks
  have HD := hide_p h
  obtain ⟨R, hR⟩ : ∃ R, R = nextM L c.o c.k := ⟨_, rfl⟩
  have HN1 : Hid (∀ w', Below w.heap.size w w' → Calls Tryz.prog 8 #[.pointer (some ⟨hb, 0, none⟩), .int .i64 c.o, .agg #[.int .i64 c.k.K, .int .u64 c.k.N, .string c.k.S, .int .i64 c.k.O]] w' fun e w2 => e = .returned (.tuple #[.agg #[.int .i64 R.1.K, .int .u64 R.1.N, .string R.1.S, .int .i64 R.1.O], .agg #[.int .i64 R.2.1.K, .int .u64 R.2.1.N, .string R.2.1.S, .int .i64 R.2.1.O], .int .i64 R.2.2]) ∧ Below w'.heap.size w' w2) := fun w' hb => by
    have := lnext_any (h.below hb).l c.o c.k hkN hkS
    rw [← hR] at this
    exact this
  have HN2 : Hid (∀ w', Below w.heap.size w w' → Calls Tryz.prog 37 #[.pointer (some ⟨db, 0, none⟩), .int .i64 c.o, .agg #[.int .i64 c.k.K, .int .u64 c.k.N, .string c.k.S, .int .i64 c.k.O]] w' fun e w2 => e = .returned (.tuple #[.agg #[.int .i64 R.1.K, .int .u64 R.1.N, .string R.1.S, .int .i64 R.1.O], .agg #[.int .i64 R.2.1.K, .int .u64 R.2.1.N, .string R.2.1.S, .int .i64 R.2.1.O], .int .i64 R.2.2]) ∧ Below w'.heap.size w' w2) := fun w' hb => by
    have := rnext_any (hrv.below hb) c.o c.k hkN
    rw [hrs, ← hR] at this
    exact this
  obtain ⟨G, hG⟩ : ∃ G, G = getVal L c.o c.k := ⟨_, rfl⟩
  have HG1 : Hid (∀ w', Below w.heap.size w w' → Calls Tryz.prog 9 #[.pointer (some ⟨hb, 0, none⟩), .int .i64 c.o, .agg #[.int .i64 c.k.K, .int .u64 c.k.N, .string c.k.S, .int .i64 c.k.O]] w' fun e w2 => e = .returned (.agg #[.int .i64 G.K, .int .u64 G.N, .string G.S, .int .i64 G.O]) ∧ Below w'.heap.size w' w2) := fun w' hb => by
    have := lget_any (h.below hb).l c.o c.k hkN hkS
    rw [← hG] at this
    exact this
  have HG2 : Hid (∀ w', Below w.heap.size w w' → Calls Tryz.prog 38 #[.pointer (some ⟨db, 0, none⟩), .int .i64 c.o, .agg #[.int .i64 c.k.K, .int .u64 c.k.N, .string c.k.S, .int .i64 c.k.O]] w' fun e w2 => e = .returned (.agg #[.int .i64 G.K, .int .u64 G.N, .string G.S, .int .i64 G.O]) ∧ Below w'.heap.size w' w2) := fun w' hb => by
    have := rget_any (hrv.below hb) c.o c.k hkN
    rw [hrs, ← hG] at this
    exact this
  obtain ⟨K, hK⟩ : ∃ K, K = lookM L c.k 17 c.o := ⟨_, rfl⟩
  have HK1 : Hid (∀ w', Below w.heap.size w w' → Calls Tryz.prog 39 #[.pointer (some ⟨hb, 0, none⟩), .int .i64 c.o, .agg #[.int .i64 c.k.K, .int .u64 c.k.N, .string c.k.S, .int .i64 c.k.O]] w' fun e w2 => e = .returned (.agg #[.int .i64 K.K, .int .u64 K.N, .string K.S, .int .i64 K.O]) ∧ Below w'.heap.size w' w2) := fun w' hb => by
    have := llook_any (h.below hb).l hn c.o c.k hkN hkS
    rw [← hK] at this
    exact this
  have HK2 : Hid (∀ w', Below w.heap.size w w' → Calls Tryz.prog 40 #[.pointer (some ⟨db, 0, none⟩), .int .i64 c.o, .agg #[.int .i64 c.k.K, .int .u64 c.k.N, .string c.k.S, .int .i64 c.k.O]] w' fun e w2 => e = .returned (.agg #[.int .i64 K.K, .int .u64 K.N, .string K.S, .int .i64 K.O]) ∧ Below w'.heap.size w' w2) := fun w' hb => by
    have := rlook_any (hrv.below hb) c.o c.k hkN
    rw [hrs, ← hK] at this
    exact this
  obtain ⟨sz, hz1, hz2⟩ := siz_ex h.l c.o
  have HS1 : Hid (∀ w', Below w.heap.size w w' → Calls Tryz.prog 19 #[.pointer (some ⟨hb, 0, none⟩), .int .i64 c.o] w' fun e w2 => e = .returned (.int .i64 (sz : Int)) ∧ Below w'.heap.size w' w2) := fun w' hb => (lsize_any (h.below hb).l c.o).mono (fun e w2 ⟨s, h1, h2, _, h4⟩ => ⟨by rw [h1, sizOk_uniq h2 hz1], by rw [h4]; exact Below.refl _ _⟩)
  have HS2 : Hid (∀ w', Below w.heap.size w w' → Calls Tryz.prog 41 #[.pointer (some ⟨db, 0, none⟩), .int .i64 c.o] w' fun e w2 => e = .returned (.int .i64 (sz : Int)) ∧ Below w'.heap.size w' w2) := fun w' hb => rsize_any (hrv.below hb) c.o sz (by rw [hrs]; exact hz1) hz2
  obtain ⟨T, hT⟩ : ∃ T, T = slotVal L c.o c.n := ⟨_, rfl⟩
  have HT1 : Hid (∀ w', Below w.heap.size w w' → Calls Tryz.prog 42 #[.pointer (some ⟨hb, 0, none⟩), .int .i64 c.o, .int .i64 c.n] w' fun e w2 => e = .returned (.agg #[.int .i64 T.K, .int .u64 T.N, .string T.S, .int .i64 T.O]) ∧ Below w'.heap.size w' w2) := fun w' hb => by
    have := lslotV_any (h.below hb).l c.o c.n
    rw [← hT] at this
    exact this
  have HT2 : Hid (∀ w', Below w.heap.size w w' → Calls Tryz.prog 43 #[.pointer (some ⟨db, 0, none⟩), .int .i64 c.o, .int .i64 c.n] w' fun e w2 => e = .returned (.agg #[.int .i64 T.K, .int .u64 T.N, .string T.S, .int .i64 T.O]) ∧ Below w'.heap.size w' w2) := fun w' hb => by
    have := rslotV_any (hrv.below hb) c.o c.n
    rw [hrs, ← hT] at this
    exact this
  obtain ⟨U, hU⟩ : ∃ U, U = usedM L := ⟨_, rfl⟩
  have HU1 : Hid (∀ w', Below w.heap.size w w' → Calls Tryz.prog 20 #[.pointer (some ⟨hb, 0, none⟩)] w' fun e w2 => e = .returned (.int .i64 (U : Int)) ∧ Below w'.heap.size w' w2) := fun w' hb => by
    have := (lused_any (h.below hb).l).mono (fun e w2 h => below_same h)
    rw [← hU] at this
    exact this
  have HU2 : Hid (∀ w', Below w.heap.size w w' → Calls Tryz.prog 44 #[.pointer (some ⟨db, 0, none⟩)] w' fun e w2 => e = .returned (.int .i64 (U : Int)) ∧ Below w'.heap.size w' w2) := fun w' hb => by
    have := (rused2_any (h.below hb).r).mono (fun e w2 h => below_drawn h)
    rw [← hU] at this
    exact this
  obtain ⟨M, hM⟩ : ∃ M, M = L.length := ⟨_, rfl⟩
  have HL1 : Hid (∀ w', Below w.heap.size w w' → Calls Tryz.prog 45 #[.pointer (some ⟨hb, 0, none⟩)] w' fun e w2 => e = .returned (.int .i64 (M : Int)) ∧ Below w'.heap.size w' w2) := fun w' hb => by
    have := (llen_any (h.below hb).l).mono (fun e w2 h => below_same h)
    rw [← hM] at this
    exact this
  have HD0 : Hid (∃ a cap, ∀ w', Below w.heap.size w w' → w'.cell? ⟨db, 0, none⟩ = some (.slice a M cap)) := by
    obtain ⟨a, cap, e1, _⟩ := hrv.form
    refine ⟨a, cap, fun w' hb => ?_⟩
    have h0 := (hrv.below hb).c0
    rw [e1] at h0
    have e2 : rs.length = M := by rw [hM, ← hrs, List.length_map]
    rw [e2] at h0
    exact h0
  obtain ⟨a, cap, hd0⟩ := HD0.out
  replace HD0 := hide_p hd0
  have hb0 : Below w.heap.size w (w.alloc (.cells #[.int .i64 c.kind, .int .i64 c.o, .int .i64 c.a, .int .i64 c.b, .int .i64 c.n, .int .i64 c.k.K, .int .u64 c.k.N, .string c.k.S, .int .i64 c.k.O, .int .i64 c.v.K, .int .u64 c.v.N, .string c.v.S, .int .i64 c.v.O] 49)) := (Below.refl _ _).alloc (Nat.le_refl _) _
  have HB := hide_p hb0
  have HKC : Hid (Kc (w.alloc (.cells #[.int .i64 c.kind, .int .i64 c.o, .int .i64 c.a, .int .i64 c.b, .int .i64 c.n, .int .i64 c.k.K, .int .u64 c.k.N, .string c.k.S, .int .i64 c.k.O, .int .i64 c.v.K, .int .u64 c.v.N, .string c.v.S, .int .i64 c.v.O] 49)) w.heap.size c) := by
    refine ⟨?_, ?_, ?_, ?_, ?_, ?_⟩ <;> go_simp
  clear hz1 hz2 hd0 hb0 hR hG hK hT hU hM hrv hrs h hn hkN hkS hc
  unfold Ac.val
  go_enter Tryz.func12, Tryz.ntmps12
  obtain ⟨r1, r5, r6, r7, r8, r9⟩ := HKC.out
  go_wp2_with fail
  refine (HN1.out _ HB.out).mono ?_
  rintro e w1 ⟨rfl, hb1⟩
  clear r1 r5 r6 r7 r8 r9
  replace HKC := hide_p (HKC.out.below hb1)
  replace HB := hide_p (HB.out.trans (hb1.mono HB.out.size))
  clear hb1
  obtain ⟨r1, r5, r6, r7, r8, r9⟩ := HKC.out
  go_upto_region 2 with fail
  obtain ⟨w2, hw2⟩ : ∃ w2, w2 = ((w1.alloc (.cells #[.int .i64 R.1.K, .int .u64 R.1.N, .string R.1.S, .int .i64 R.1.O] 37)).alloc (.cells #[.int .i64 R.2.1.K, .int .u64 R.2.1.N, .string R.2.1.S, .int .i64 R.2.1.O] 37)) := ⟨_, rfl⟩
  have hb2 : Below w1.heap.size w1 w2 := by rw [hw2]; exact ((Below.refl _ _).alloc (Nat.le_refl _) _).alloc (by simp) _
  have p7 : w2.cell? ⟨w1.heap.size, 0, none⟩ = some (.int .i64 R.1.K) ∧ w2.cell? ⟨w1.heap.size, 1, none⟩ = some (.int .u64 R.1.N) ∧ w2.cell? ⟨w1.heap.size, 2, none⟩ = some (.string R.1.S) ∧ w2.cell? ⟨w1.heap.size, 3, none⟩ = some (.int .i64 R.1.O) := by
    rw [hw2]
    refine ⟨?_, ?_, ?_, ?_⟩ <;> go_simp
  have p8 : w2.cell? ⟨w1.heap.size + 1, 0, none⟩ = some (.int .i64 R.2.1.K) ∧ w2.cell? ⟨w1.heap.size + 1, 1, none⟩ = some (.int .u64 R.2.1.N) ∧ w2.cell? ⟨w1.heap.size + 1, 2, none⟩ = some (.string R.2.1.S) ∧ w2.cell? ⟨w1.heap.size + 1, 3, none⟩ = some (.int .i64 R.2.1.O) := by
    rw [hw2]
    refine ⟨?_, ?_, ?_, ?_⟩ <;> go_simp
  rw [← hw2]
  clear hw2
  clear r1 r5 r6 r7 r8 r9
  replace HKC := hide_p (HKC.out.below hb2)
  replace HB := hide_p (HB.out.trans (hb2.mono HB.out.size))
  clear hb2
  obtain ⟨r1, r5, r6, r7, r8, r9⟩ := HKC.out
  go_wp2_with fail
  refine (HN2.out _ HB.out).mono ?_
  rintro e w3 ⟨rfl, hb3⟩
  clear r1 r5 r6 r7 r8 r9
  obtain ⟨q0, q1, q2, q3⟩ := keep4 p7 hb3
  obtain ⟨u0, u1, u2, u3⟩ := keep4 p8 hb3
  have hl7 : w1.heap.size < w3.heap.size := World.block_lt_of_cell? w3 _ q0
  have hl8 : w1.heap.size + 1 < w3.heap.size := World.block_lt_of_cell? w3 _ u0
  clear p7 p8
  have hba : Below w3.heap.size w3 ((w3.alloc (.cells #[.int .i64 R.1.K, .int .u64 R.1.N, .string R.1.S, .int .i64 R.1.O] 37)).alloc (.cells #[.int .i64 R.2.1.K, .int .u64 R.2.1.N, .string R.2.1.S, .int .i64 R.2.1.O] 37)) := ((Below.refl _ _).alloc (Nat.le_refl _) _).alloc (by simp) _
  replace HKC := hide_p ((HKC.out.below hb3).below hba)
  replace HB := hide_p ((HB.out.trans (hb3.mono HB.out.size)).trans (hba.mono (Nat.le_trans HB.out.size hb3.size)))
  obtain ⟨w4, hw4⟩ : ∃ w4, w4 = ((w3.alloc (.cells #[.int .i64 R.1.K, .int .u64 R.1.N, .string R.1.S, .int .i64 R.1.O] 37)).alloc (.cells #[.int .i64 R.2.1.K, .int .u64 R.2.1.N, .string R.2.1.S, .int .i64 R.2.1.O] 37)) := ⟨_, rfl⟩
  have HS : Hid (∀ p : BelowOf w4, Below w.heap.size w p.u) := fun p => by
    have h4 := HB.out
    rw [← hw4] at h4
    exact h4.trans (p.h.mono h4.size)
  have HKP : Hid (∀ p : BelowOf w4, Kc p.u w.heap.size c) := fun p => by
    have h4 := HKC.out
    rw [← hw4] at h4
    exact h4.below p.h
  have HQ4 : Hid (∀ p : BelowOf w4, (p.u.cell? ⟨w1.heap.size, 0, none⟩ = some (.int .i64 R.1.K) ∧ p.u.cell? ⟨w1.heap.size, 1, none⟩ = some (.int .u64 R.1.N) ∧ p.u.cell? ⟨w1.heap.size, 2, none⟩ = some (.string R.1.S) ∧ p.u.cell? ⟨w1.heap.size, 3, none⟩ = some (.int .i64 R.1.O)) ∧ (p.u.cell? ⟨w1.heap.size + 1, 0, none⟩ = some (.int .i64 R.2.1.K) ∧ p.u.cell? ⟨w1.heap.size + 1, 1, none⟩ = some (.int .u64 R.2.1.N) ∧ p.u.cell? ⟨w1.heap.size + 1, 2, none⟩ = some (.string R.2.1.S) ∧ p.u.cell? ⟨w1.heap.size + 1, 3, none⟩ = some (.int .i64 R.2.1.O)) ∧
      (p.u.cell? ⟨w3.heap.size, 0, none⟩ = some (.int .i64 R.1.K) ∧ p.u.cell? ⟨w3.heap.size, 1, none⟩ = some (.int .u64 R.1.N) ∧ p.u.cell? ⟨w3.heap.size, 2, none⟩ = some (.string R.1.S) ∧ p.u.cell? ⟨w3.heap.size, 3, none⟩ = some (.int .i64 R.1.O)) ∧ (p.u.cell? ⟨w3.heap.size + 1, 0, none⟩ = some (.int .i64 R.2.1.K) ∧ p.u.cell? ⟨w3.heap.size + 1, 1, none⟩ = some (.int .u64 R.2.1.N) ∧ p.u.cell? ⟨w3.heap.size + 1, 2, none⟩ = some (.string R.2.1.S) ∧ p.u.cell? ⟨w3.heap.size + 1, 3, none⟩ = some (.int .i64 R.2.1.O))) := fun p => by
    have hba2 := hba
    rw [← hw4] at hba2
    refine ⟨keep4 (keep4 ⟨q0, q1, q2, q3⟩ hba2) p.h, keep4 (keep4 ⟨u0, u1, u2, u3⟩ hba2) p.h, keep4 ?_ p.h, keep4 ?_ p.h⟩
    · rw [hw4]; refine ⟨?_, ?_, ?_, ?_⟩ <;> go_simp
    · rw [hw4]; refine ⟨?_, ?_, ?_, ?_⟩ <;> go_simp
  go_upto_region 3 with fail
  rw [← hw4]
  clear hb3 hba HN1 HN2 hw4 HB HKC q0 q1 q2 q3 u0 u1 u2 u3 hl7 hl8
  have A0 : ∀ p : BelowOf w4, p.u.cell? ⟨w1.heap.size, 0, none⟩ = some (.int .i64 R.1.K) := fun p => (HQ4.out p).1.1
  have A1 : ∀ p : BelowOf w4, p.u.cell? ⟨w1.heap.size, 1, none⟩ = some (.int .u64 R.1.N) := fun p => (HQ4.out p).1.2.1
  have A2 : ∀ p : BelowOf w4, p.u.cell? ⟨w1.heap.size, 2, none⟩ = some (.string R.1.S) := fun p => (HQ4.out p).1.2.2.1
  have A3 : ∀ p : BelowOf w4, p.u.cell? ⟨w1.heap.size, 3, none⟩ = some (.int .i64 R.1.O) := fun p => (HQ4.out p).1.2.2.2
  have B0 : ∀ p : BelowOf w4, p.u.cell? ⟨w1.heap.size + 1, 0, none⟩ = some (.int .i64 R.2.1.K) := fun p => (HQ4.out p).2.1.1
  have B1 : ∀ p : BelowOf w4, p.u.cell? ⟨w1.heap.size + 1, 1, none⟩ = some (.int .u64 R.2.1.N) := fun p => (HQ4.out p).2.1.2.1
  have B2 : ∀ p : BelowOf w4, p.u.cell? ⟨w1.heap.size + 1, 2, none⟩ = some (.string R.2.1.S) := fun p => (HQ4.out p).2.1.2.2.1
  have B3 : ∀ p : BelowOf w4, p.u.cell? ⟨w1.heap.size + 1, 3, none⟩ = some (.int .i64 R.2.1.O) := fun p => (HQ4.out p).2.1.2.2.2
  have C0 : ∀ p : BelowOf w4, p.u.cell? ⟨w3.heap.size, 0, none⟩ = some (.int .i64 R.1.K) := fun p => (HQ4.out p).2.2.1.1
  have C1 : ∀ p : BelowOf w4, p.u.cell? ⟨w3.heap.size, 1, none⟩ = some (.int .u64 R.1.N) := fun p => (HQ4.out p).2.2.1.2.1
  have C2 : ∀ p : BelowOf w4, p.u.cell? ⟨w3.heap.size, 2, none⟩ = some (.string R.1.S) := fun p => (HQ4.out p).2.2.1.2.2.1
  have C3 : ∀ p : BelowOf w4, p.u.cell? ⟨w3.heap.size, 3, none⟩ = some (.int .i64 R.1.O) := fun p => (HQ4.out p).2.2.1.2.2.2
  have D0 : ∀ p : BelowOf w4, p.u.cell? ⟨w3.heap.size + 1, 0, none⟩ = some (.int .i64 R.2.1.K) := fun p => (HQ4.out p).2.2.2.1
  have D1 : ∀ p : BelowOf w4, p.u.cell? ⟨w3.heap.size + 1, 1, none⟩ = some (.int .u64 R.2.1.N) := fun p => (HQ4.out p).2.2.2.2.1
  have D2 : ∀ p : BelowOf w4, p.u.cell? ⟨w3.heap.size + 1, 2, none⟩ = some (.string R.2.1.S) := fun p => (HQ4.out p).2.2.2.2.2.1
  have D3 : ∀ p : BelowOf w4, p.u.cell? ⟨w3.heap.size + 1, 3, none⟩ = some (.int .i64 R.2.1.O) := fun p => (HQ4.out p).2.2.2.2.2.2
  have E1 : ∀ p : BelowOf w4, p.u.cell? ⟨w.heap.size, 1, none⟩ = some (.int .i64 c.o) := fun p => (HKP.out p).c1
  have E4 : ∀ p : BelowOf w4, p.u.cell? ⟨w.heap.size, 4, none⟩ = some (.int .i64 c.n) := fun p => (HKP.out p).c4
  have E5 : ∀ p : BelowOf w4, p.u.cell? ⟨w.heap.size, 5, none⟩ = some (.int .i64 c.k.K) := fun p => (HKP.out p).c5
  have E6 : ∀ p : BelowOf w4, p.u.cell? ⟨w.heap.size, 6, none⟩ = some (.int .u64 c.k.N) := fun p => (HKP.out p).c6
  have E7 : ∀ p : BelowOf w4, p.u.cell? ⟨w.heap.size, 7, none⟩ = some (.string c.k.S) := fun p => (HKP.out p).c7
  have E8 : ∀ p : BelowOf w4, p.u.cell? ⟨w.heap.size, 8, none⟩ = some (.int .i64 c.k.O) := fun p => (HKP.out p).c8
  have F0 : ∀ p : BelowOf w4, p.u.cell? ⟨db, 0, none⟩ = some (.slice a M cap) := fun p => HD0.out _ (HS.out p)
  clear HQ4 HKP HD0
  refine wp_region_below (by kernel_rfl) (by kernel_rfl) ?_
  dsimp only [List.append]
  repeat (go_big_quiet_step (rfl))
  go_big_quiet_step ((go_at_call 9; exact below_of (HG1.out _ (HS.out _))))
  repeat (go_big_quiet_step (rfl))
  go_big_quiet_step ((go_at_call 38; exact below_of (HG2.out _ (HS.out _))))
  repeat (go_big_quiet_step (rfl))
  go_big_quiet_step ((go_at_call 39; exact below_of (HK1.out _ (HS.out _))))
  repeat (go_big_quiet_step (rfl))
  go_big_quiet_step ((go_at_call 40; exact below_of (HK2.out _ (HS.out _))))
  repeat (go_big_quiet_step (rfl))
  go_big_quiet_step ((go_at_call 19; exact below_of (HS1.out _ (HS.out _))))
  repeat (go_big_quiet_step (rfl))
  go_big_quiet_step ((go_at_call 41; exact below_of (HS2.out _ (HS.out _))))
  repeat (go_big_quiet_step (rfl))
  go_big_quiet_step ((go_at_call 42; exact below_of (HT1.out _ (HS.out _))))
  repeat (go_big_quiet_step (rfl))
  go_big_quiet_step ((go_at_call 43; exact below_of (HT2.out _ (HS.out _))))
  repeat (go_big_quiet_step (rfl))
  go_big_quiet_step ((go_at_call 20; exact below_of (HU1.out _ (HS.out _))))
  repeat (go_big_quiet_step (rfl))
  go_big_quiet_step ((go_at_call 44; exact below_of (HU2.out _ (HS.out _))))
  repeat (go_big_quiet_step (rfl))
  go_big_quiet_step ((go_at_call 45; exact below_of (HL1.out _ (HS.out _))))
  repeat (go_big_quiet_step (rfl))
  refine wpQuiet_nil ?_
  intro wq hw'
  obtain ⟨⟨w9, hwq⟩, hw''⟩ := hw'
  subst hw''
  have HE : Hid (Below w.heap.size w wq) := HS.out ⟨_, hwq⟩
  clear hwq A0 A1 A2 A3 B0 B1 B2 B3 C0 C1 C2 C3 D0 D1 D2 D3 E1 E4 E5 E6 E7 E8 F0
  go_wp2
  go_ret
  exact ⟨rfl, HE.out⟩

end Go.Proofs.YthmocdabakkfhaaGreatDoor
