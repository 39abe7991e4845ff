/-
  ValueSame
-/
import Derived.Test.YtgbajhenmamjjaaDoorZ15

/-
  ValueSame: the walk.
-/
namespace Go.Proofs.YtgbajhenmamjjaaDoor
set_option maxRecDepth 100000
open Go.RowKit Flo

/-- A value in a box. -/
def Bx (w : World) (b : Nat) (K N : Int) (S : ByteArray) (O : Int) : Prop :=
  b < w.heap.size ∧ w.cell? ⟨b, 0, none⟩ = some (.int .i64 K) ∧ w.cell? ⟨b, 1, none⟩ = some (.int .u64 N) ∧ w.cell? ⟨b, 2, none⟩ = some (.string S) ∧ w.cell? ⟨b, 3, none⟩ = some (.int .i64 O)
theorem Bx.below {w w' : World} {b : Nat} {K N : Int} {S : ByteArray} {O : Int} (h : Bx w b K N S O) (hg : Below w.heap.size w w') : Bx w' b K N S O :=
  ⟨Nat.lt_of_lt_of_le h.1 hg.size, (hg.cell (p := ⟨b, 0, none⟩) h.1).trans h.2.1, (hg.cell (p := ⟨b, 1, none⟩) h.1).trans h.2.2.1, (hg.cell (p := ⟨b, 2, none⟩) h.1).trans h.2.2.2.1, (hg.cell (p := ⟨b, 3, none⟩) h.1).trans h.2.2.2.2⟩
theorem Bx.new (w : World) (K N : Int) (S : ByteArray) (O : Int) (t : Nat) : Bx (w.alloc (.cells #[.int .i64 K, .int .u64 N, .string S, .int .i64 O] t)) w.heap.size K N S O :=
  ⟨by simp, at_new _ _ _ _ _ rfl, at_new _ _ _ _ _ rfl, at_new _ _ _ _ _ rfl, at_new _ _ _ _ _ rfl⟩
theorem Bx.old {w : World} {b : Nat} {K N : Int} {S : ByteArray} {O : Int} (h : Bx w b K N S O) (x : Obj) : Bx (w.alloc x) b K N S O := h.below ((Below.refl _ _).alloc (Nat.le_refl _) _)
theorem refSame_at {K N : Int} {S : ByteArray} {O K' N' : Int} {S' : ByteArray} {O' : Int} {x : Bool} (hN : U64 N) (hN' : U64 N') (h : sameB K N S O K' N' S' O' = x) (w : World) :
    Calls Tryd.prog 7 #[.agg #[.int .i64 K, .int .u64 N, .string S, .int .i64 O], .agg #[.int .i64 K', .int .u64 N', .string S', .int .i64 O']] w fun e w' => e = .returned (.bool x) ∧ Below w.heap.size w w' := by
  rw [← h]; exact refSame_any K N S O K' N' S' O' w hN hN'
theorem key_at {K N : Int} {S : ByteArray} {O : Int} {x : Bool} (hN : U64 N) (h : kok K N = x) (w : World) :
    Calls Tryd.prog 8 #[.agg #[.int .i64 K, .int .u64 N, .string S, .int .i64 O]] w fun e w' => e = .returned (.tuple #[.agg #[.int .i64 (yK K N), .int .u64 (yN K N), .string (yS K N S), .int .i64 (yO K N O)], .bool x]) ∧ Below w.heap.size w w' := by
  rw [← h]; exact key_any K N S O w hN

set_option maxHeartbeats 4000000 in
theorem valueSame_walk (K N : Int) (S : ByteArray) (O : Int) (K' N' : Int) (S' : ByteArray) (O' : Int) (w : World) (hN : U64 N) (hN' : U64 N') (hT : Nb w) :
    Calls Tryd.prog 3 #[.agg #[.int .i64 K, .int .u64 N, .string S, .int .i64 O], .agg #[.int .i64 K', .int .u64 N', .string S', .int .i64 O']] w fun e w' => e = .returned (.bool true) ∧ Below w.heap.size w w' := by
  have HT : Hid (Nb w) := hT
  have h00 := hT.1
  obtain ⟨x, hx⟩ : ∃ x, sameB K N S O K' N' S' O' = x := ⟨_, rfl⟩
  obtain ⟨p, hp⟩ : ∃ x, kok K N = x := ⟨_, rfl⟩
  obtain ⟨q, hq⟩ : ∃ x, kok K' N' = x := ⟨_, rfl⟩
  have H1 : Hid (∀ w, Calls Tryd.prog 6 #[.agg #[.int .i64 K, .int .u64 N, .string S, .int .i64 O], .agg #[.int .i64 K', .int .u64 N', .string S', .int .i64 O']] w fun e w' => e = .returned (.bool x) ∧ Below w.heap.size w w') := same_at hN hN' hx
  have H2 : Hid (∀ w, Calls Tryd.prog 7 #[.agg #[.int .i64 K, .int .u64 N, .string S, .int .i64 O], .agg #[.int .i64 K', .int .u64 N', .string S', .int .i64 O']] w fun e w' => e = .returned (.bool x) ∧ Below w.heap.size w w') := refSame_at hN hN' hx
  have H3 : Hid (∀ w, Calls Tryd.prog 6 #[.agg #[.int .i64 K', .int .u64 N', .string S', .int .i64 O'], .agg #[.int .i64 K, .int .u64 N, .string S, .int .i64 O]] w fun e w' => e = .returned (.bool x) ∧ Below w.heap.size w w') := same_at hN' hN ((same_symm hN hN').trans hx)
  have H4 : Hid (∀ w, Calls Tryd.prog 8 #[.agg #[.int .i64 K, .int .u64 N, .string S, .int .i64 O]] w fun e w' => e = .returned (.tuple #[.agg #[.int .i64 (yK K N), .int .u64 (yN K N), .string (yS K N S), .int .i64 (yO K N O)], .bool p]) ∧ Below w.heap.size w w') := key_at hN hp
  have H5 : Hid (∀ w, Calls Tryd.prog 8 #[.agg #[.int .i64 K', .int .u64 N', .string S', .int .i64 O']] w fun e w' => e = .returned (.tuple #[.agg #[.int .i64 (yK K' N'), .int .u64 (yN K' N'), .string (yS K' N' S'), .int .i64 (yO K' N' O')], .bool q]) ∧ Below w.heap.size w w') := key_at hN' hq
  have H6 : Hid (∀ w, Calls Tryd.prog 10 #[.agg #[.int .i64 K, .int .u64 N, .string S, .int .i64 O]] w fun e w' => e = .returned (.agg #[.int .i64 (nK K), .int .u64 (nN K N), .string (nS K S), .int .i64 (nO K O)]) ∧ Below w.heap.size w w') := fun w => refNormal_any K N S O w hN
  have H7 : Hid (∀ w, Calls Tryd.prog 10 #[.agg #[.int .i64 K', .int .u64 N', .string S', .int .i64 O']] w fun e w' => e = .returned (.agg #[.int .i64 (nK K'), .int .u64 (nN K' N'), .string (nS K' S'), .int .i64 (nO K' O')]) ∧ Below w.heap.size w w') := fun w => refNormal_any K' N' S' O' w hN'
  have HV : Hid ((p = true → q = true → x = decide (yK K N = yK K' N' ∧ yN K N = yN K' N' ∧ yS K N S = yS K' N' S' ∧ yO K N O = yO K' N' O')) ∧ (¬ (p = true ∧ q = true) → x = decide (nK K = 0 ∧ nK K' = 0))) := by
    refine ⟨?_, ?_⟩
    · rintro rfl rfl
      obtain ⟨a1, a2, a3, a4⟩ := key_some S O hp
      obtain ⟨b1, b2, b3, b4⟩ := key_some S' O' hq
      rw [a1, a2, a3, a4, b1, b2, b3, b4, ← hx, Bool.eq_iff_iff, same_key hN hN', decide_eq_true_iff]
      constructor
      · rintro (⟨_, _, h⟩ | ⟨h, _⟩)
        · exact h
        · exact absurd h (kok_nil hp)
      · intro h; exact Or.inl ⟨hp, hq, h⟩
    · intro hnq
      rw [← hx, Bool.eq_iff_iff, same_key hN hN', decide_eq_true_iff, hp, hq]
      constructor
      · rintro (⟨h1, h2, _⟩ | h)
        · exact absurd ⟨h1, h2⟩ hnq
        · exact h
      · intro h; exact Or.inr h
  obtain ⟨w0, hw0⟩ : ∃ w0, w0 = (w.alloc (.cells #[.int .i64 K, .int .u64 N, .string S, .int .i64 O] 25)).alloc (.cells #[.int .i64 K', .int .u64 N', .string S', .int .i64 O'] 25) := ⟨_, rfl⟩
  have hB0 : Below w.heap.size w w0 := by rw [hw0]; exact ((Below.refl _ _).alloc (Nat.le_refl _) _).alloc (by simp) _
  have x0 : Bx w0 w.heap.size K N S O := by rw [hw0]; exact (Bx.new _ _ _ _ _ _).old _
  have y0 : Bx w0 (w.heap.size + 1) K' N' S' O' := by
    rw [hw0]
    have := Bx.new (w.alloc (.cells #[.int .i64 K, .int .u64 N, .string S, .int .i64 O] 25)) K' N' S' O' 25
    rw [show (w.alloc (.cells #[.int .i64 K, .int .u64 N, .string S, .int .i64 O] 25)).heap.size = w.heap.size + 1 by simp] at this
    exact this
  clear hx hp hq hT hN hN'
  go_enter Tryd.func3, Tryd.ntmps3
  go_upto_region 1 with fail
  rw [← hw0]
  clear hw0
  have ⟨x0_z, x0_0, x0_1, x0_2, x0_3⟩ := x0
  have ⟨y0_z, y0_0, y0_1, y0_2, y0_3⟩ := y0
  go_wp2_with fail
  refine (H1.out _).mono ?_
  rintro e w1 ⟨rfl, hb1⟩
  have hB1 := hB0.trans (hb1.mono hB0.size)
  have x1 := x0.below hb1
  have y1 := y0.below hb1
  clear hb1
  have ⟨x1_z, x1_0, x1_1, x1_2, x1_3⟩ := x1
  have ⟨y1_z, y1_0, y1_1, y1_2, y1_3⟩ := y1
  cases x
  all_goals
    go_wp2_with fail
    refine (H2.out _).mono ?_
    rintro e w2 ⟨rfl, hb2⟩
    have hB2 := hB1.trans (hb2.mono hB1.size)
    have x2 := x1.below hb2
    have y2 := y1.below hb2
    clear hb2
    have ⟨x2_z, x2_0, x2_1, x2_2, x2_3⟩ := x2
    have ⟨y2_z, y2_0, y2_1, y2_2, y2_3⟩ := y2
    go_wp2_with fail
    refine (H3.out _).mono ?_
    rintro e w3 ⟨rfl, hb3⟩
    have hB3 := hB2.trans (hb3.mono hB2.size)
    have x3 := x2.below hb3
    have y3 := y2.below hb3
    clear hb3
    have ⟨x3_z, x3_0, x3_1, x3_2, x3_3⟩ := x3
    have ⟨y3_z, y3_0, y3_1, y3_2, y3_3⟩ := y3
    go_wp2_with fail
    refine (H4.out _).mono ?_
    rintro e w4 ⟨rfl, hb4⟩
    have hB4 := hB3.trans (hb4.mono hB3.size)
    have x4 := x3.below hb4
    have y4 := y3.below hb4
    clear hb4
    have ⟨x4_z, x4_0, x4_1, x4_2, x4_3⟩ := x4
    have ⟨y4_z, y4_0, y4_1, y4_2, y4_3⟩ := y4
    go_upto_region 5 with fail
    obtain ⟨w5, hw5⟩ : ∃ w5, w5 = w4.alloc (.cells #[.int .i64 (yK K N), .int .u64 (yN K N), .string (yS K N S), .int .i64 (yO K N O)] 25) := ⟨_, rfl⟩
    have hB5 : Below w.heap.size w w5 := by rw [hw5]; exact hB4.alloc hB4.size _
    have x5 : Bx w5 w.heap.size K N S O := by rw [hw5]; exact x4.old _
    have y5 : Bx w5 (w.heap.size + 1) K' N' S' O' := by rw [hw5]; exact y4.old _
    have u5 : Bx w5 w4.heap.size (yK K N) (yN K N) (yS K N S) (yO K N O) := by rw [hw5]; exact Bx.new _ _ _ _ _ _
    rw [← hw5]
    clear hw5
    have ⟨x5_z, x5_0, x5_1, x5_2, x5_3⟩ := x5
    have ⟨y5_z, y5_0, y5_1, y5_2, y5_3⟩ := y5
    have ⟨u5_z, u5_0, u5_1, u5_2, u5_3⟩ := u5
    go_wp2_with fail
    refine (H5.out _).mono ?_
    rintro e w6 ⟨rfl, hb6⟩
    have hB6 := hB5.trans (hb6.mono hB5.size)
    have x6 := x5.below hb6
    have y6 := y5.below hb6
    have u6 := u5.below hb6
    clear hb6
    have ⟨x6_z, x6_0, x6_1, x6_2, x6_3⟩ := x6
    have ⟨y6_z, y6_0, y6_1, y6_2, y6_3⟩ := y6
    have ⟨u6_z, u6_0, u6_1, u6_2, u6_3⟩ := u6
    go_upto_region 6 with fail
    obtain ⟨w7, hw7⟩ : ∃ w7, w7 = w6.alloc (.cells #[.int .i64 (yK K' N'), .int .u64 (yN K' N'), .string (yS K' N' S'), .int .i64 (yO K' N' O')] 25) := ⟨_, rfl⟩
    have hB7 : Below w.heap.size w w7 := by rw [hw7]; exact hB6.alloc hB6.size _
    have x7 : Bx w7 w.heap.size K N S O := by rw [hw7]; exact x6.old _
    have y7 : Bx w7 (w.heap.size + 1) K' N' S' O' := by rw [hw7]; exact y6.old _
    have u7 : Bx w7 w4.heap.size (yK K N) (yN K N) (yS K N S) (yO K N O) := by rw [hw7]; exact u6.old _
    have v7 : Bx w7 w6.heap.size (yK K' N') (yN K' N') (yS K' N' S') (yO K' N' O') := by rw [hw7]; exact Bx.new _ _ _ _ _ _
    rw [← hw7]
    clear hw7
    have ⟨x7_z, x7_0, x7_1, x7_2, x7_3⟩ := x7
    have ⟨y7_z, y7_0, y7_1, y7_2, y7_3⟩ := y7
    have ⟨u7_z, u7_0, u7_1, u7_2, u7_3⟩ := u7
    have ⟨v7_z, v7_0, v7_1, v7_2, v7_3⟩ := v7
    clear x0 y0 x1 y1 x2 y2 x3 y3 x4 y4 x5 y5 u5 x6 y6 u6
    by_cases hpq : p = true ∧ q = true
    · obtain ⟨rfl, rfl⟩ := hpq
      have hv := HV.out.1 rfl rfl
      by_cases ce : yK K N = yK K' N' ∧ yN K N = yN K' N' ∧ yS K N S = yS K' N' S' ∧ yO K N O = yO K' N' O'
      · rw [decide_eq_true ce] at hv
        first
          | (exfalso; revert hv; decide)
          | (obtain ⟨e1, e2, e3, e4⟩ := ce
             clear hv
             go_wp2_with fail
             refine (vlives_any _ (HT.out.below (hB7) h00)).mono ?_
             rintro e w9 ⟨rfl, hb9⟩
             have HB9 : Hid (Below w.heap.size w w9) := (hB7).trans (hb9.mono (hB7).size)
             clear hb9
             go_wp2
             go_ret
             exact ⟨rfl, HB9.out⟩)
      · rw [decide_eq_false ce] at hv
        first
          | (exfalso; revert hv; decide)
          | (have HCE : Hid (¬ (yK K N = yK K' N' ∧ yN K N = yN K' N' ∧ yS K N S = yS K' N' S' ∧ yO K N O = yO K' N' O')) := ce
             clear hv ce
             go_wp2_with fail
             all_goals
               first
                 | (exfalso; exact HCE.out ⟨by assumption, by assumption, text_inj (by assumption), by assumption⟩)
                 | (refine (vlives_any _ (HT.out.below (hB7) h00)).mono ?_
                    rintro e w9 ⟨rfl, hb9⟩
                    have HB9 : Hid (Below w.heap.size w w9) := (hB7).trans (hb9.mono (hB7).size)
                    clear hb9
                    go_wp2
                    go_ret
                    exact ⟨rfl, HB9.out⟩))
    · have hv := HV.out.2 hpq
      have hf1 := field0 (nK K) (nN K N) (nO K O) (nS K S)
      have hf2 := field0 (nK K') (nN K' N') (nO K' O') (nS K' S')
      by_cases z1 : nK K = 0
      · rw [z1] at hf1
        by_cases z2 : nK K' = 0
        · rw [z2] at hf2
          rw [decide_eq_true ⟨z1, z2⟩] at hv
          first
            | (exfalso; revert hv; decide)
            | (clear hv
               cases p <;> cases q <;> first | exact absurd ⟨rfl, rfl⟩ hpq | skip
               all_goals
                 go_wp2_with fail
                 refine (H6.out _).mono ?_
                 rintro e w8 ⟨rfl, hb8⟩
                 have hB8 := hB7.trans (hb8.mono hB7.size)
                 have x8 := x7.below hb8
                 have y8 := y7.below hb8
                 clear hb8
                 have ⟨x8_z, x8_0, x8_1, x8_2, x8_3⟩ := x8
                 have ⟨y8_z, y8_0, y8_1, y8_2, y8_3⟩ := y8
                 go_wp2_with fail
                 refine (H7.out _).mono ?_
                 rintro e w9 ⟨rfl, hb9⟩
                 have hB9 := hB8.trans (hb9.mono hB8.size)
                 have x9 := x8.below hb9
                 have y9 := y8.below hb9
                 clear hb9
                 have ⟨x9_z, x9_0, x9_1, x9_2, x9_3⟩ := x9
                 have ⟨y9_z, y9_0, y9_1, y9_2, y9_3⟩ := y9
                 go_wp2_with fail
                 refine (vlives_any _ (HT.out.below (hB9) h00)).mono ?_
                 rintro e wz ⟨rfl, hbz⟩
                 have HBz : Hid (Below w.heap.size w wz) := (hB9).trans (hbz.mono (hB9).size)
                 clear hbz
                 go_wp2
                 go_ret
                 exact ⟨rfl, HBz.out⟩)
        · rw [decide_eq_false (fun h => z2 h.2)] at hv
          have z3 : (nK K' == 0) = false := by simpa using z2
          first
            | (exfalso; revert hv; decide)
            | (clear hv
               cases p <;> cases q <;> first | exact absurd ⟨rfl, rfl⟩ hpq | skip
               all_goals
                 go_wp2_with fail
                 refine (H6.out _).mono ?_
                 rintro e w8 ⟨rfl, hb8⟩
                 have hB8 := hB7.trans (hb8.mono hB7.size)
                 have x8 := x7.below hb8
                 have y8 := y7.below hb8
                 clear hb8
                 have ⟨x8_z, x8_0, x8_1, x8_2, x8_3⟩ := x8
                 have ⟨y8_z, y8_0, y8_1, y8_2, y8_3⟩ := y8
                 go_wp2_with fail
                 refine (H7.out _).mono ?_
                 rintro e w9 ⟨rfl, hb9⟩
                 have hB9 := hB8.trans (hb9.mono hB8.size)
                 have x9 := x8.below hb9
                 have y9 := y8.below hb9
                 clear hb9
                 have ⟨x9_z, x9_0, x9_1, x9_2, x9_3⟩ := x9
                 have ⟨y9_z, y9_0, y9_1, y9_2, y9_3⟩ := y9
                 go_wp2_with fail
                 refine (vlives_any _ (HT.out.below (hB9) h00)).mono ?_
                 rintro e wz ⟨rfl, hbz⟩
                 have HBz : Hid (Below w.heap.size w wz) := (hB9).trans (hbz.mono (hB9).size)
                 clear hbz
                 go_wp2
                 go_ret
                 exact ⟨rfl, HBz.out⟩)
      · rw [decide_eq_false (fun h => z1 h.1)] at hv
        have z3 : (nK K == 0) = false := by simpa using z1
        first
          | (exfalso; revert hv; decide)
          | (clear hv
             cases p <;> cases q <;> first | exact absurd ⟨rfl, rfl⟩ hpq | skip
             all_goals
               go_wp2_with fail
               refine (H6.out _).mono ?_
               rintro e w8 ⟨rfl, hb8⟩
               have hB8 := hB7.trans (hb8.mono hB7.size)
               have x8 := x7.below hb8
               have y8 := y7.below hb8
               clear hb8
               have ⟨x8_z, x8_0, x8_1, x8_2, x8_3⟩ := x8
               have ⟨y8_z, y8_0, y8_1, y8_2, y8_3⟩ := y8
               go_wp2_with fail
               refine (vlives_any _ (HT.out.below (hB8) h00)).mono ?_
               rintro e wz ⟨rfl, hbz⟩
               have HBz : Hid (Below w.heap.size w wz) := (hB8).trans (hbz.mono (hB8).size)
               clear hbz
               go_wp2
               go_ret
               exact ⟨rfl, HBz.out⟩)

end Go.Proofs.YtgbajhenmamjjaaDoor
