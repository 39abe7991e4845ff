/-
  ValueTwice
-/
import Derived.Test.YtgbajhenmamjjaaDoorZ16

/-
  ValueTwice: the walk.
-/
namespace Go.Proofs.YtgbajhenmamjjaaDoor
set_option maxRecDepth 100000
open Go.RowKit Flo

/-- A key's key is itself. -/
theorem key_twice (K N : Int) (S : ByteArray) (O : Int) : kok (yK K N) (yN K N) = kok K N ∧ yK (yK K N) (yN K N) = yK K N ∧ yN (yK K N) (yN K N) = yN K N ∧ yS (yK K N) (yN K N) (yS K N S) = yS K N S ∧ yO (yK K N) (yN K N) (yO K N O) = yO K N O := by
  cases h : kok K N
  · obtain ⟨a1, a2, a3, a4⟩ := key_zero S O h
    rw [a1, a2, a3, a4]
    exact ⟨by decide, by decide, by decide, rfl, by decide⟩
  · obtain ⟨a1, a2, a3, a4⟩ := key_some S O h
    obtain ⟨b1, b2, b3, b4, b5⟩ := key_key S O h
    obtain ⟨c1, c2, c3, c4⟩ := key_some (nS K S) (nO K O) b1
    rw [a1, a2, a3, a4]
    exact ⟨b1, c1.trans b2, c2.trans b3, c3.trans b4, c4.trans b5⟩
theorem yN_u64 {K N : Int} (h : U64 N) : U64 (yN K N) := by
  unfold yN; split
  · exact kN_u64 h
  · exact ⟨by decide, by decide⟩
theorem same_of_key {K N : Int} (S : ByteArray) (O : Int) (hN : U64 N) (h : kok K N = true) : sameB (yK K N) (yN K N) (yS K N S) (yO K N O) K N S O = true ∧ sameB (nK K) (nN K N) (nS K S) (nO K O) K N S O = true := by
  obtain ⟨a1, a2, a3, a4⟩ := key_some S O h
  obtain ⟨b1, b2, b3, b4, b5⟩ := key_key S O h
  rw [a1, a2, a3, a4]
  refine ⟨(same_key (kN_u64 hN) hN).2 (Or.inl ⟨b1, h, b2, b3, b4, b5⟩), (same_key (nN_u64 hN) hN).2 (Or.inl ⟨(kok_norm K N).trans h, h, nK_nK K, kN_norm K N, nS_nS K S, nO_nO K O⟩)⟩

set_option maxHeartbeats 4000000 in
theorem valueTwice_walk (K N : Int) (S : ByteArray) (O : Int) (w : World) (hN : U64 N) (hT : Nb w) :
    Calls Tryd.prog 4 #[.agg #[.int .i64 K, .int .u64 N, .string S, .int .i64 O]] w fun e w' => e = .returned (.bool true) ∧ Below w.heap.size w w' := by
  have HT : Hid (Nb w) := hT
  have h00 := hT.1
  obtain ⟨ok, hok⟩ : ∃ x, kok K N = x := ⟨_, rfl⟩
  obtain ⟨k1, k2, k3, k4, k5⟩ := key_twice K N S O
  have G1 : Hid (∀ w, Calls Tryd.prog 11 #[.agg #[.int .i64 K, .int .u64 N, .string S, .int .i64 O]] w fun e w' => e = .returned (.agg #[.int .i64 (nK K), .int .u64 (nN K N), .string (nS K S), .int .i64 (nO K O)]) ∧ Below w.heap.size w w') := fun w => normal_any K N S O w hN
  have G2 : Hid (∀ w, Calls Tryd.prog 8 #[.agg #[.int .i64 K, .int .u64 N, .string S, .int .i64 O]] w fun e w' => e = .returned (.tuple #[.agg #[.int .i64 (yK K N), .int .u64 (yN K N), .string (yS K N S), .int .i64 (yO K N O)], .bool ok]) ∧ Below w.heap.size w w') := key_at hN hok
  have G3 : Hid (∀ w, Calls Tryd.prog 8 #[.agg #[.int .i64 (yK K N), .int .u64 (yN K N), .string (yS K N S), .int .i64 (yO K N O)]] w fun e w' => e = .returned (.tuple #[.agg #[.int .i64 (yK K N), .int .u64 (yN K N), .string (yS K N S), .int .i64 (yO K N O)], .bool ok]) ∧ Below w.heap.size w w') := fun w => by
    have := key_at (S := yS K N S) (O := yO K N O) (yN_u64 (K := K) hN) (k1.trans hok) w
    rw [k2, k3, k4, k5] at this
    exact this
  have G4 : Hid (∀ w, Calls Tryd.prog 11 #[.agg #[.int .i64 (nK K), .int .u64 (nN K N), .string (nS K S), .int .i64 (nO K O)]] w fun e w' => e = .returned (.agg #[.int .i64 (nK K), .int .u64 (nN K N), .string (nS K S), .int .i64 (nO K O)]) ∧ Below w.heap.size w w') := fun w => by
    have := normal_any (nK K) (nN K N) (nS K S) (nO K O) w (nN_u64 hN)
    unfold nv vl at this
    rw [nK_nK, nN_nN, nS_nS, nO_nO] at this
    exact this
  obtain ⟨t, ht⟩ : ∃ t, decide (2 ≤ nK K) = t := ⟨_, rfl⟩
  have G5 : Hid (∀ w, Calls Tryd.prog 12 #[.agg #[.int .i64 (nK K), .int .u64 (nN K N), .string (nS K S), .int .i64 (nO K O)]] w fun e w' => e = .returned (.bool t) ∧ Below w.heap.size w w') := fun w => by
    have := truth_any (nK K) (nN K N) (nS K S) (nO K O) w (nN_u64 hN)
    rw [nK_nK, ht] at this
    exact this
  have G6 : Hid (∀ w, Calls Tryd.prog 12 #[.agg #[.int .i64 K, .int .u64 N, .string S, .int .i64 O]] w fun e w' => e = .returned (.bool t) ∧ Below w.heap.size w w') := fun w => by
    have := truth_any K N S O w hN
    rw [ht] at this
    exact this
  obtain ⟨m, hm⟩ : ∃ m, nmOf (nK K) = m := ⟨_, rfl⟩
  have G7 : Hid (∀ w, Nb w → Calls Tryd.prog 13 #[.agg #[.int .i64 (nK K), .int .u64 (nN K N), .string (nS K S), .int .i64 (nO K O)]] w fun e w' => e = .returned (.string m) ∧ Below w.heap.size w w') := fun w h => by
    have := name_any (nK K) (nN K N) (nS K S) (nO K O) w (nN_u64 hN) h
    rw [nK_nK, hm] at this
    exact this
  have G8 : Hid (∀ w, Nb w → Calls Tryd.prog 13 #[.agg #[.int .i64 K, .int .u64 N, .string S, .int .i64 O]] w fun e w' => e = .returned (.string m) ∧ Below w.heap.size w w') := fun w h => by
    have := name_any K N S O w hN h
    rw [hm] at this
    exact this
  have G9 : Hid (∀ w, ok = true → Calls Tryd.prog 6 #[.agg #[.int .i64 (yK K N), .int .u64 (yN K N), .string (yS K N S), .int .i64 (yO K N O)], .agg #[.int .i64 K, .int .u64 N, .string S, .int .i64 O]] w fun e w' => e = .returned (.bool true) ∧ Below w.heap.size w w') := fun w h => same_at (yN_u64 hN) hN (same_of_key S O hN (hok.trans h)).1 w
  have G10 : Hid (∀ w, ok = true → Calls Tryd.prog 6 #[.agg #[.int .i64 (nK K), .int .u64 (nN K N), .string (nS K S), .int .i64 (nO K O)], .agg #[.int .i64 K, .int .u64 N, .string S, .int .i64 O]] w fun e w' => e = .returned (.bool true) ∧ Below w.heap.size w w') := fun w h => same_at (nN_u64 hN) hN (same_of_key S O hN (hok.trans h)).2 w
  obtain ⟨w0, hw0⟩ : ∃ w0, w0 = w.alloc (.cells #[.int .i64 K, .int .u64 N, .string S, .int .i64 O] 25) := ⟨_, rfl⟩
  have hB0 : Below w.heap.size w w0 := by rw [hw0]; exact (Below.refl _ _).alloc (Nat.le_refl _) _
  have x0 : Bx w0 w.heap.size K N S O := by rw [hw0]; exact Bx.new _ _ _ _ _ _
  clear hok hT hN k1 k2 k3 k4 k5 ht hm
  go_enter Tryd.func4, Tryd.ntmps4
  go_upto_region 1 with fail
  rw [← hw0]
  clear hw0
  have ⟨x0_z, x0_0, x0_1, x0_2, x0_3⟩ := x0
  go_wp2_with fail
  refine (G1.out _).mono ?_
  rintro e w1 ⟨rfl, hb1⟩
  have hB1 := hB0.trans (hb1.mono hB0.size)
  have x1 := x0.below hb1
  clear hb1
  have ⟨x1_z, x1_0, x1_1, x1_2, x1_3⟩ := x1
  go_upto_region 2 with fail
  obtain ⟨w2, hw2⟩ : ∃ x, x = w1.alloc (.cells #[.int .i64 (nK K), .int .u64 (nN K N), .string (nS K S), .int .i64 (nO K O)] 25) := ⟨_, rfl⟩
  have hB2 : Below w.heap.size w w2 := by rw [hw2]; exact hB1.alloc hB1.size _
  have x2 : Bx w2 w.heap.size (K) (N) (S) (O) := by rw [hw2]; exact x1.old _
  have n2 : Bx w2 w1.heap.size (nK K) (nN K N) (nS K S) (nO K O) := by rw [hw2]; exact Bx.new _ _ _ _ _ _
  rw [← hw2]
  clear hw2
  have ⟨x2_z, x2_0, x2_1, x2_2, x2_3⟩ := x2
  have ⟨n2_z, n2_0, n2_1, n2_2, n2_3⟩ := n2
  go_wp2_with fail
  refine (G2.out _).mono ?_
  rintro e w3 ⟨rfl, hb3⟩
  have hB3 := hB2.trans (hb3.mono hB2.size)
  have x3 := x2.below hb3
  have n3 := n2.below hb3
  clear hb3
  have ⟨x3_z, x3_0, x3_1, x3_2, x3_3⟩ := x3
  have ⟨n3_z, n3_0, n3_1, n3_2, n3_3⟩ := n3
  go_upto_region 3 with fail
  obtain ⟨w4, hw4⟩ : ∃ x, x = w3.alloc (.cells #[.int .i64 (yK K N), .int .u64 (yN K N), .string (yS K N S), .int .i64 (yO K N O)] 25) := ⟨_, rfl⟩
  have hB4 : Below w.heap.size w w4 := by rw [hw4]; exact hB3.alloc hB3.size _
  have x4 : Bx w4 w.heap.size (K) (N) (S) (O) := by rw [hw4]; exact x3.old _
  have n4 : Bx w4 w1.heap.size (nK K) (nN K N) (nS K S) (nO K O) := by rw [hw4]; exact n3.old _
  have k4 : Bx w4 w3.heap.size (yK K N) (yN K N) (yS K N S) (yO K N O) := by rw [hw4]; exact Bx.new _ _ _ _ _ _
  rw [← hw4]
  clear hw4
  have ⟨x4_z, x4_0, x4_1, x4_2, x4_3⟩ := x4
  have ⟨n4_z, n4_0, n4_1, n4_2, n4_3⟩ := n4
  have ⟨k4_z, k4_0, k4_1, k4_2, k4_3⟩ := k4
  go_wp2_with fail
  refine (G3.out _).mono ?_
  rintro e w5 ⟨rfl, hb5⟩
  have hB5 := hB4.trans (hb5.mono hB4.size)
  have x5 := x4.below hb5
  have n5 := n4.below hb5
  have k5 := k4.below hb5
  clear hb5
  have ⟨x5_z, x5_0, x5_1, x5_2, x5_3⟩ := x5
  have ⟨n5_z, n5_0, n5_1, n5_2, n5_3⟩ := n5
  have ⟨k5_z, k5_0, k5_1, k5_2, k5_3⟩ := k5
  go_upto_region 4 with fail
  obtain ⟨w6, hw6⟩ : ∃ x, x = w5.alloc (.cells #[.int .i64 (yK K N), .int .u64 (yN K N), .string (yS K N S), .int .i64 (yO K N O)] 25) := ⟨_, rfl⟩
  have hB6 : Below w.heap.size w w6 := by rw [hw6]; exact hB5.alloc hB5.size _
  have x6 : Bx w6 w.heap.size (K) (N) (S) (O) := by rw [hw6]; exact x5.old _
  have n6 : Bx w6 w1.heap.size (nK K) (nN K N) (nS K S) (nO K O) := by rw [hw6]; exact n5.old _
  have k6 : Bx w6 w3.heap.size (yK K N) (yN K N) (yS K N S) (yO K N O) := by rw [hw6]; exact k5.old _
  have l6 : Bx w6 w5.heap.size (yK K N) (yN K N) (yS K N S) (yO K N O) := by rw [hw6]; exact Bx.new _ _ _ _ _ _
  rw [← hw6]
  clear hw6
  have ⟨x6_z, x6_0, x6_1, x6_2, x6_3⟩ := x6
  have ⟨n6_z, n6_0, n6_1, n6_2, n6_3⟩ := n6
  have ⟨k6_z, k6_0, k6_1, k6_2, k6_3⟩ := k6
  have ⟨l6_z, l6_0, l6_1, l6_2, l6_3⟩ := l6
  have hz6 : w.heap.size < w6.heap.size := x6_z
  have qx0 : ∀ p : BelowOf w6, p.u.cell? ⟨w.heap.size, 0, none⟩ = some (.int .i64 (K)) := fun p => (p.h.cell (p := ⟨w.heap.size, 0, none⟩) x6_z).trans x6_0
  have qx1 : ∀ p : BelowOf w6, p.u.cell? ⟨w.heap.size, 1, none⟩ = some (.int .u64 (N)) := fun p => (p.h.cell (p := ⟨w.heap.size, 1, none⟩) x6_z).trans x6_1
  have qx2 : ∀ p : BelowOf w6, p.u.cell? ⟨w.heap.size, 2, none⟩ = some (.string (S)) := fun p => (p.h.cell (p := ⟨w.heap.size, 2, none⟩) x6_z).trans x6_2
  have qx3 : ∀ p : BelowOf w6, p.u.cell? ⟨w.heap.size, 3, none⟩ = some (.int .i64 (O)) := fun p => (p.h.cell (p := ⟨w.heap.size, 3, none⟩) x6_z).trans x6_3
  have qn0 : ∀ p : BelowOf w6, p.u.cell? ⟨w1.heap.size, 0, none⟩ = some (.int .i64 (nK K)) := fun p => (p.h.cell (p := ⟨w1.heap.size, 0, none⟩) n6_z).trans n6_0
  have qn1 : ∀ p : BelowOf w6, p.u.cell? ⟨w1.heap.size, 1, none⟩ = some (.int .u64 (nN K N)) := fun p => (p.h.cell (p := ⟨w1.heap.size, 1, none⟩) n6_z).trans n6_1
  have qn2 : ∀ p : BelowOf w6, p.u.cell? ⟨w1.heap.size, 2, none⟩ = some (.string (nS K S)) := fun p => (p.h.cell (p := ⟨w1.heap.size, 2, none⟩) n6_z).trans n6_2
  have qn3 : ∀ p : BelowOf w6, p.u.cell? ⟨w1.heap.size, 3, none⟩ = some (.int .i64 (nO K O)) := fun p => (p.h.cell (p := ⟨w1.heap.size, 3, none⟩) n6_z).trans n6_3
  have qk0 : ∀ p : BelowOf w6, p.u.cell? ⟨w3.heap.size, 0, none⟩ = some (.int .i64 (yK K N)) := fun p => (p.h.cell (p := ⟨w3.heap.size, 0, none⟩) k6_z).trans k6_0
  have qk1 : ∀ p : BelowOf w6, p.u.cell? ⟨w3.heap.size, 1, none⟩ = some (.int .u64 (yN K N)) := fun p => (p.h.cell (p := ⟨w3.heap.size, 1, none⟩) k6_z).trans k6_1
  have qk2 : ∀ p : BelowOf w6, p.u.cell? ⟨w3.heap.size, 2, none⟩ = some (.string (yS K N S)) := fun p => (p.h.cell (p := ⟨w3.heap.size, 2, none⟩) k6_z).trans k6_2
  have qk3 : ∀ p : BelowOf w6, p.u.cell? ⟨w3.heap.size, 3, none⟩ = some (.int .i64 (yO K N O)) := fun p => (p.h.cell (p := ⟨w3.heap.size, 3, none⟩) k6_z).trans k6_3
  have ql0 : ∀ p : BelowOf w6, p.u.cell? ⟨w5.heap.size, 0, none⟩ = some (.int .i64 (yK K N)) := fun p => (p.h.cell (p := ⟨w5.heap.size, 0, none⟩) l6_z).trans l6_0
  have ql1 : ∀ p : BelowOf w6, p.u.cell? ⟨w5.heap.size, 1, none⟩ = some (.int .u64 (yN K N)) := fun p => (p.h.cell (p := ⟨w5.heap.size, 1, none⟩) l6_z).trans l6_1
  have ql2 : ∀ p : BelowOf w6, p.u.cell? ⟨w5.heap.size, 2, none⟩ = some (.string (yS K N S)) := fun p => (p.h.cell (p := ⟨w5.heap.size, 2, none⟩) l6_z).trans l6_2
  have ql3 : ∀ p : BelowOf w6, p.u.cell? ⟨w5.heap.size, 3, none⟩ = some (.int .i64 (yO K N O)) := fun p => (p.h.cell (p := ⟨w5.heap.size, 3, none⟩) l6_z).trans l6_3
  have HT6 : Hid (∀ p : BelowOf w6, Nb p.u) := fun p => (HT.out.below hB6 h00).below p.h (by omega)
  have hInh : Inhabited (BelowOf w6) := ⟨⟨w6, Below.refl _ _⟩⟩
  go_wp2_with fail
  refine wp_region_below (by kernel_rfl) (by kernel_rfl) ?_
  repeat (quiet_step (fail))
  quiet_step ((go_at_call 11; exact below_of (G4.out _)))
  repeat (quiet_step (fail))
  quiet_step ((go_at_call 12; exact below_of (G5.out _)))
  repeat (quiet_step (fail))
  quiet_step ((go_at_call 12; exact below_of (G6.out _)))
  repeat (quiet_step (fail))
  quiet_step ((go_at_call 13; exact below_of (G7.out _ (HT6.out _))))
  repeat (quiet_step (fail))
  quiet_step ((go_at_call 13; exact below_of (G8.out _ (HT6.out _))))
  repeat (quiet_step (fail))
  refine wpQuiet_nil ?_
  intro _ hw'
  obtain ⟨⟨w7, hwq⟩, hw''⟩ := hw'
  subst hw''
  have hB7 := hB6.trans (hwq.mono hB6.size)
  have x7 := x6.below hwq
  have n7 := n6.below hwq
  have k7 := k6.below hwq
  have l7 := l6.below hwq
  have ⟨x7_z, x7_0, x7_1, x7_2, x7_3⟩ := x7
  have ⟨n7_z, n7_0, n7_1, n7_2, n7_3⟩ := n7
  have ⟨k7_z, k7_0, k7_1, k7_2, k7_3⟩ := k7
  have ⟨l7_z, l7_0, l7_1, l7_2, l7_3⟩ := l7
  clear hwq
  cases ok
  · go_wp2_with fail
    refine (vlives_any _ (HT.out.below (hB7) h00)).mono ?_
    rintro e wz ⟨rfl, hbz⟩
    have HBz : Hid (Below w.heap.size w wz) := (hB7).trans (hbz.mono (hB7).size)
    clear hbz
    go_wp2
    go_ret
    exact ⟨rfl, HBz.out⟩
  · go_wp2_with fail
    refine (G9.out _ (by trivial)).mono ?_
    rintro e w8 ⟨rfl, hb8⟩
    have hB8 := hB7.trans (hb8.mono hB7.size)
    have x8 := x7.below hb8
    have n8 := n7.below hb8
    clear hb8
    have ⟨x8_z, x8_0, x8_1, x8_2, x8_3⟩ := x8
    have ⟨n8_z, n8_0, n8_1, n8_2, n8_3⟩ := n8
    go_wp2_with fail
    refine (G10.out _ (by trivial)).mono ?_
    rintro e w9 ⟨rfl, hb9⟩
    have hB9 := hB8.trans (hb9.mono hB8.size)
    have x9 := x8.below hb9
    have n9 := n8.below hb9
    clear hb9
    have ⟨x9_z, x9_0, x9_1, x9_2, x9_3⟩ := x9
    have ⟨n9_z, n9_0, n9_1, n9_2, n9_3⟩ := n9
    go_wp2_with fail
    refine (vlives_any _ (HT.out.below (hB9) h00)).mono ?_
    rintro e wz ⟨rfl, hbz⟩
    have HBz : Hid (Below w.heap.size w wz) := (hB9).trans (hbz.mono (hB9).size)
    clear hbz
    go_wp2
    go_ret
    exact ⟨rfl, HBz.out⟩

end Go.Proofs.YtgbajhenmamjjaaDoor
