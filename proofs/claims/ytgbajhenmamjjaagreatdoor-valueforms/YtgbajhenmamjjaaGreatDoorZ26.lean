/-
  Val5
-/
import Derived.Test.YtgbajhenmamjjaaGreatDoorZ25

/-
  Layer 8: the reference's Key, Truth, Name, both Shows, walked.
-/
namespace Go.Proofs.YtgbajhenmamjjaaGreatDoor
set_option maxRecDepth 100000
open Go.RowKit Flo

set_option maxHeartbeats 4000000 in
theorem refKey_any (K N : Int) (S : ByteArray) (O : Int) (w : World) (hN : U64 N) :
    Calls Tryz.prog 5 #[.agg #[.int .i64 K, .int .u64 N, .string S, .int .i64 O]] w fun e w' => e = .returned (.tuple #[.agg #[.int .i64 (yK K N), .int .u64 (yN K N), .string (yS K N S), .int .i64 (yO K N O)], .bool (kok K N)]) ∧ Below w.heap.size w w' := by
  have HN : Hid (∀ w, Calls Tryz.prog 7 #[.agg #[.int .i64 K, .int .u64 N, .string S, .int .i64 O]] w fun e w' => e = .returned (.agg #[.int .i64 (nK K), .int .u64 (nN K N), .string (nS K S), .int .i64 (nO K O)]) ∧ Below w.heap.size w w') := fun w => refNormal_any K N S O w hN
  have HKi : Hid (∀ w, Calls Tryz.prog 18 #[.int .u64 (nN K N)] w fun e w' => e = .returned (.int .i64 (kindZ (nN K N))) ∧ w' = w) := fun w => refKind_any _ w (nN_u64 hN)
  have HY : Hid (kok K N = false → yK K N = 0 ∧ yN K N = 0 ∧ yS K N S = ⟨#[]⟩ ∧ yO K N O = 0) := key_zero S O
  have HY2 : Hid (kok K N = true → yK K N = nK K ∧ yN K N = kN K N ∧ yS K N S = nS K S ∧ yO K N O = nO K O) := key_some S O
  go_enter Tryz.func5, Tryz.ntmps5
  go_upto_region 1 with fail
  go_cut [3] (fun t wx => t = .bool false ∧ wx.cell? ⟨w.heap.size, 0, none⟩ = some (.int .i64 (nK K)) ∧ wx.cell? ⟨w.heap.size, 1, none⟩ = some (.int .u64 (nN K N)) ∧ wx.cell? ⟨w.heap.size, 2, none⟩ = some (.string (nS K S)) ∧ wx.cell? ⟨w.heap.size, 3, none⟩ = some (.int .i64 (nO K O)) ∧
    wx.cell? ⟨w.heap.size + 1, 0, none⟩ = some (.int .i64 0) ∧ wx.cell? ⟨w.heap.size + 1, 1, none⟩ = some (.int .u64 0) ∧ wx.cell? ⟨w.heap.size + 1, 2, none⟩ = some (.string ⟨#[]⟩) ∧ wx.cell? ⟨w.heap.size + 1, 3, none⟩ = some (.int .i64 0) ∧ (∀ i, wx.frozen? ⟨w.heap.size, i, none⟩ = false) ∧ (∀ i, wx.frozen? ⟨w.heap.size + 1, i, none⟩ = false) ∧ w.heap.size + 1 < wx.heap.size ∧ Hid (Below w.heap.size w wx))
  case first =>
    go_wp2_with fail
    refine (HN.out _).mono ?_
    rintro e wn ⟨rfl, hb⟩
    obtain ⟨hc, hf⟩ := bcell hb
    have hsz := hb.size
    simp at hsz
    have a0 : wn.cell? ⟨w.heap.size, 0, none⟩ = some (.int .i64 K) := by rw [hc _ _ (by simp; try omega)]; simp
    have a1 : wn.cell? ⟨w.heap.size, 1, none⟩ = some (.int .u64 N) := by rw [hc _ _ (by simp; try omega)]; simp
    have a2 : wn.cell? ⟨w.heap.size, 2, none⟩ = some (.string S) := by rw [hc _ _ (by simp; try omega)]; simp
    have a3 : wn.cell? ⟨w.heap.size, 3, none⟩ = some (.int .i64 O) := by rw [hc _ _ (by simp; try omega)]; simp
    have b0 : wn.cell? ⟨w.heap.size + 1, 0, none⟩ = some (.int .i64 0) := by rw [hc _ _ (by simp; try omega)]; simp
    have b1 : wn.cell? ⟨w.heap.size + 1, 1, none⟩ = some (.int .u64 0) := by rw [hc _ _ (by simp; try omega)]; simp
    have b2 : wn.cell? ⟨w.heap.size + 1, 2, none⟩ = some (.string ⟨#[]⟩) := by rw [hc _ _ (by simp; try omega)]; simp
    have b3 : wn.cell? ⟨w.heap.size + 1, 3, none⟩ = some (.int .i64 0) := by rw [hc _ _ (by simp; try omega)]; simp
    have f0 : ∀ i, wn.frozen? ⟨w.heap.size, i, none⟩ = false := fun i => by rw [hf _ _ (by simp; try omega)]; simp
    have f1 : ∀ i, wn.frozen? ⟨w.heap.size + 1, i, none⟩ = false := fun i => by rw [hf _ _ (by simp; try omega)]; simp
    have hB : Below w.heap.size w wn := (((Below.refl _ _).alloc (Nat.le_refl _) _).alloc (by simp) _).trans (hb.mono (by simp; omega))
    have q1 := stored4 wn _ w.heap.size (.int .i64 (nK K)) (.int .u64 (nN K N)) (.string (nS K S)) (.int .i64 (nO K O)) _ _ _ _ a0 a1 a2 a3 rfl
    have hB1 := set4 (i0 := 0) (i1 := 1) (i2 := 2) (i3 := 3) hB (Nat.le_refl _) (.int .i64 (nK K)) (.int .u64 (nN K N)) (.string (nS K S)) (.int .i64 (nO K O))
    go_wp2_with fail
    go_meet
    exact ⟨rfl, q1.1.1, q1.1.2.1, q1.1.2.2.1, q1.1.2.2.2, (q1.2 _ _ (by omega)).trans b0, (q1.2 _ _ (by omega)).trans b1, (q1.2 _ _ (by omega)).trans b2, (q1.2 _ _ (by omega)).trans b3, fun i => by simp [f0], fun i => by simp [f1], by simp; omega, hB1⟩
  case rest =>
    obtain ⟨rfl, a0, a1, a2, a3, b0, b1, b2, b3, f0, f1, hz, HB⟩ := hcut
    have hz0 : w.heap.size < wc.heap.size := by omega
    by_cases h0 : nK K = 0
    · have hk : kok K N = false := by unfold kok; rw [h0]; rfl
      go_wp2
      obtain ⟨y1, y2, y3, y4⟩ := HY.out hk
      exact bodyPost_ret (v := .tuple #[.agg #[.int .i64 0, .int .u64 0, .string ⟨#[]⟩, .int .i64 0], .bool false]) (by simp [results, Tryz.results5, go_sem, b0, b1, b2, b3]) rfl ⟨by rw [y1, y2, y3, y4, hk], set4 HB.out (by omega) _ _ _ _⟩
    · have hb0 : (nK K == 0) = false := by simpa using h0
      by_cases h3 : nK K = 3
      · have hK3 : K = 3 := (nK_3 K).1 h3
        have hkn := kind_nan (nN K N)
        cases hk : kok K N
        · have hnan : nanB (nN K N) = true := by
            have h5 := hk
            rw [hK3, kok_3] at h5
            rw [hK3]
            show nanB (canonZ N) = true
            rw [nan_canon]; simpa using h5
          rw [hnan] at hkn
          have HYY := HY.out hk
          have HK : Hid (kok K N = false) := hk
          clear hnan hk HY HY2 hK3
          go_wp2_with fail
          refine (HKi.out _).mono ?_
          rintro e w' ⟨rfl, rfl⟩
          go_wp2
          obtain ⟨y1, y2, y3, y4⟩ := HYY
          exact bodyPost_ret (v := .tuple #[.agg #[.int .i64 0, .int .u64 0, .string ⟨#[]⟩, .int .i64 0], .bool false]) (by simp [results, Tryz.results5, go_sem, b0, b1, b2, b3]) rfl ⟨by rw [y1, y2, y3, y4, HK.out], set4 HB.out (by omega) _ _ _ _⟩
        · have hnan : nanB N = false := by
            have h5 := hk
            rw [hK3, kok_3] at h5
            simpa using h5
          have hnn : nN K N = N := by rw [hK3]; show canonZ N = N; unfold canonZ; rw [hnan]; rfl
          rw [hnn, hnan] at hkn
          have HYY := HY2.out hk
          have HK : Hid (kok K N = true) := hk
          have HkN : Hid (kN K N = if mag N = 0 then 0 else N) := by show _ = _; unfold kN; rw [hnn]
          rw [hnn] at a1 HKi
          obtain ⟨u1, u2⟩ := hN
          by_cases c63 : N = 9223372036854775808
          · have HM : Hid (kN K N = 0) := by show _ = _; rw [HkN.out, if_pos (by rw [c63]; decide)]
            subst c63
            clear hnan hk HY HY2 hK3 hnn HkN u1 u2
            go_wp2_with fail
            refine (HKi.out _).mono ?_
            rintro e w' ⟨rfl, rfl⟩
            go_wp2
            obtain ⟨y1, y2, y3, y4⟩ := HYY
            exact bodyPost_ret (v := .tuple #[.agg #[.int .i64 3, .int .u64 0, .string (nS K S), .int .i64 (nO K O)], .bool true]) (by simp [results, Tryz.results5, go_sem, b0, b1, b2, b3]) rfl ⟨by rw [y1, h3, y2, y3, y4, HM.out, HK.out], set4 (HB.out.setCell (p := ⟨w.heap.size, 1, none⟩) (Nat.le_refl _) _) (by omega) _ _ _ _⟩
          · have HM : Hid (kN K N = N) := by
              show _ = _
              rw [HkN.out]
              split
              · next z => unfold mag at z; split at z <;> omega
              · rfl
            have cb : (N == 9223372036854775808) = false := by simpa using c63
            clear hnan hk HY HY2 hK3 hnn HkN
            go_wp2_with fail
            refine (HKi.out _).mono ?_
            rintro e w' ⟨rfl, rfl⟩
            go_wp2
            obtain ⟨y1, y2, y3, y4⟩ := HYY
            exact bodyPost_ret (v := .tuple #[.agg #[.int .i64 3, .int .u64 N, .string (nS K S), .int .i64 (nO K O)], .bool true]) (by simp [results, Tryz.results5, go_sem, b0, b1, b2, b3]) rfl ⟨by rw [y1, h3, y2, y3, y4, HM.out, HK.out], set4 HB.out (by omega) _ _ _ _⟩
      · have h3b : (nK K == 3) = false := by simpa using h3
        have hK3 : K ≠ 3 := fun e => h3 ((nK_3 K).2 e)
        have hk : kok K N = true := (kok_plain N hK3).2 h0
        have HYY := HY2.out hk
        have HK : Hid (kok K N = true) := hk
        have HM : Hid (kN K N = nN K N) := by
          have := kN_plain N hK3
          rw [this.1, this.2]; exact rfl
        clear hk HY HY2
        go_wp2
        obtain ⟨y1, y2, y3, y4⟩ := HYY
        exact bodyPost_ret (v := .tuple #[.agg #[.int .i64 (nK K), .int .u64 (nN K N), .string (nS K S), .int .i64 (nO K O)], .bool true]) (by simp [results, Tryz.results5, go_sem, b0, b1, b2, b3]) rfl ⟨by rw [y1, y2, y3, y4, HM.out, HK.out], set4 HB.out (by omega) _ _ _ _⟩

set_option maxHeartbeats 1000000 in
theorem refTruth_any (K N : Int) (S : ByteArray) (O : Int) (w : World) (hN : U64 N) :
    Calls Tryz.prog 9 #[.agg #[.int .i64 K, .int .u64 N, .string S, .int .i64 O]] w fun e w' => e = .returned (.bool (decide (2 ≤ nK K))) ∧ Below w.heap.size w w' := by
  have HN : Hid (∀ w, Calls Tryz.prog 7 #[.agg #[.int .i64 K, .int .u64 N, .string S, .int .i64 O]] w fun e w' => e = .returned (.agg #[.int .i64 (nK K), .int .u64 (nN K N), .string (nS K S), .int .i64 (nO K O)]) ∧ Below w.heap.size w w') := fun w => refNormal_any K N S O w hN
  have hfd := field0 (nK K) (nN K N) (nO K O) (nS K S)
  go_enter Tryz.func9, Tryz.ntmps9
  go_wp2_with fail
  refine (HN.out _).mono ?_
  rintro e wn ⟨rfl, hb⟩
  have HB : Hid (Below w.heap.size w wn) := ((Below.refl _ _).alloc (Nat.le_refl _) _).trans (hb.mono (by simp))
  clear hb
  go_wp2
  all_goals
    go_ret
    exact ⟨by first | rfl | (congr 2; simp; omega), HB.out⟩

set_option maxHeartbeats 1000000 in
theorem refName_any (K N : Int) (S : ByteArray) (O : Int) (w : World) (hN : U64 N) :
    Calls Tryz.prog 11 #[.agg #[.int .i64 K, .int .u64 N, .string S, .int .i64 O]] w fun e w' => e = .returned (.string (nmOf (nK K))) ∧ Below w.heap.size w w' := by
  have HN : Hid (∀ w, Calls Tryz.prog 7 #[.agg #[.int .i64 K, .int .u64 N, .string S, .int .i64 O]] w fun e w' => e = .returned (.agg #[.int .i64 (nK K), .int .u64 (nN K N), .string (nS K S), .int .i64 (nO K O)]) ∧ Below w.heap.size w w') := fun w => refNormal_any K N S O w hN
  obtain ⟨g1, g2⟩ := nK_bd K
  have hc : nK K = 0 ∨ nK K = 1 ∨ nK K = 2 ∨ nK K = 3 ∨ nK K = 4 ∨ nK K = 5 ∨ nK K = 6 ∨ nK K = 7 ∨ nK K = 8 := by omega
  have hfd := field0 (nK K) (nN K N) (nO K O) (nS K S)
  clear g1 g2
  rcases hc with hk | hk | hk | hk | hk | hk | hk | hk | hk
  all_goals
    rw [hk] at HN hfd ⊢
    clear hk
    go_enter Tryz.func11, Tryz.ntmps11
    go_wp2_with fail
    refine (HN.out _).mono ?_
    rintro e wn ⟨rfl, hb⟩
    obtain ⟨hc, hf⟩ := bcell hb
    have HB : Hid (Below w.heap.size w wn) := (((Below.refl _ _).alloc (Nat.le_refl _) _).alloc (by simp) _).trans (hb.mono (by simp; omega))
    clear hb
    go_wp2
    go_ret
    exact ⟨rfl, HB.out⟩

/-- A value's text. -/
def ShS (K N : Int) (S : ByteArray) (R : ByteArray) : Prop :=
  (K = 1 ∧ R = ⟨#[102, 97, 108, 115, 101]⟩) ∨ (K = 2 ∧ R = ⟨#[116, 114, 117, 101]⟩) ∨ (K = 3 ∧ ∃ L, PrS N L ∧ R = Txt.bs L) ∨ (K = 4 ∧ R = S) ∨ ((K ≤ 0 ∨ 5 ≤ K) ∧ R = nmOf (nK K))
theorem shs_exists (K : Int) {N : Int} (S : ByteArray) (hN : U64 N) : ∃ R, ShS K N S R := by
  have h : K = 1 ∨ K = 2 ∨ K = 3 ∨ K = 4 ∨ (K ≤ 0 ∨ 5 ≤ K) := by omega
  rcases h with h | h | h | h | h
  · exact ⟨_, Or.inl ⟨h, rfl⟩⟩
  · exact ⟨_, Or.inr (Or.inl ⟨h, rfl⟩)⟩
  · obtain ⟨L, hL⟩ := prs_exists hN
    exact ⟨_, Or.inr (Or.inr (Or.inl ⟨h, L, hL, rfl⟩))⟩
  · exact ⟨_, Or.inr (Or.inr (Or.inr (Or.inl ⟨h, rfl⟩)))⟩
  · exact ⟨_, Or.inr (Or.inr (Or.inr (Or.inr ⟨h, rfl⟩)))⟩

set_option maxHeartbeats 1000000 in
theorem show_any (K N : Int) (S : ByteArray) (O : Int) (R : ByteArray) (w : World) (hN : U64 N) (hR : ShS K N S R) (hT : Nb w) (hP : TB w) :
    Calls Tryz.prog 12 #[.agg #[.int .i64 K, .int .u64 N, .string S, .int .i64 O]] w fun e w' => e = .returned (.string R) ∧ Below w.heap.size w w' := by
  have hBa : Below w.heap.size w (w.alloc (.cells #[.int .i64 K, .int .u64 N, .string S, .int .i64 O] 25)) := (Below.refl _ _).alloc (Nat.le_refl _) _
  have HT1 : Hid (Nb (w.alloc (.cells #[.int .i64 K, .int .u64 N, .string S, .int .i64 O] 25))) := hT.below hBa hT.1
  have HP1 : Hid (TB (w.alloc (.cells #[.int .i64 K, .int .u64 N, .string S, .int .i64 O] 25))) := hP.below hBa
  have HBa : Hid (Below w.heap.size w (w.alloc (.cells #[.int .i64 K, .int .u64 N, .string S, .int .i64 O] 25))) := hBa
  clear hBa
  rcases hR with ⟨hk, rfl⟩ | ⟨hk, rfl⟩ | ⟨hk, L, hL, rfl⟩ | ⟨hk, rfl⟩ | ⟨hk, rfl⟩
  · subst hk
    go_enter Tryz.func12, Tryz.ntmps12
    go_wp2
    go_ret
    exact ⟨rfl, HBa.out⟩
  · subst hk
    go_enter Tryz.func12, Tryz.ntmps12
    go_wp2
    go_ret
    exact ⟨rfl, HBa.out⟩
  · subst hk
    have HPr : Hid (∀ w, TB w → Calls Tryz.prog 23 #[.int .u64 N] w fun e w' => e = .returned (.string (Txt.bs L)) ∧ Below w.heap.size w w') := fun w h => print_any N L w hN hL h
    generalize Txt.bs L = s at *
    go_enter Tryz.func12, Tryz.ntmps12
    go_wp2_with fail
    refine (HPr.out _ HP1.out).mono ?_
    rintro e w1 ⟨rfl, hb1⟩
    have HB : Hid (Below w.heap.size w w1) := HBa.out.trans (hb1.mono HBa.out.size)
    clear hb1
    go_wp2
    go_ret
    exact ⟨rfl, HB.out⟩
  · subst hk
    go_enter Tryz.func12, Tryz.ntmps12
    go_wp2
    go_ret
    exact ⟨rfl, HBa.out⟩
  · have HNm : Hid (∀ w, Nb w → Calls Tryz.prog 10 #[.agg #[.int .i64 K, .int .u64 N, .string S, .int .i64 O]] w fun e w' => e = .returned (.string (nmOf (nK K))) ∧ Below w.heap.size w w') := fun w h => name_any K N S O w hN h
    generalize nmOf (nK K) = s at *
    have b1 : (K == 1) = false := by rw [beq_eq_false_iff_ne]; omega
    have b2 : (K == 2) = false := by rw [beq_eq_false_iff_ne]; omega
    have b3 : (K == 3) = false := by rw [beq_eq_false_iff_ne]; omega
    have b4 : (K == 4) = false := by rw [beq_eq_false_iff_ne]; omega
    rcases hk with hk | hk
    all_goals
      go_enter Tryz.func12, Tryz.ntmps12
      go_wp2_with fail
      refine (HNm.out _ HT1.out).mono ?_
      rintro e w1 ⟨rfl, hb1⟩
      have HB : Hid (Below w.heap.size w w1) := HBa.out.trans (hb1.mono HBa.out.size)
      clear hb1
      go_wp2
      go_ret
      exact ⟨rfl, HB.out⟩

set_option maxHeartbeats 1000000 in
theorem refShow_any (K N : Int) (S : ByteArray) (O : Int) (R : ByteArray) (w : World) (hN : U64 N) (hR : ShS K N S R) :
    Calls Tryz.prog 13 #[.agg #[.int .i64 K, .int .u64 N, .string S, .int .i64 O]] w fun e w' => e = .returned (.string R) ∧ Below w.heap.size w w' := by
  have hBa : Below w.heap.size w (w.alloc (.cells #[.int .i64 K, .int .u64 N, .string S, .int .i64 O] 25)) := (Below.refl _ _).alloc (Nat.le_refl _) _
  have HBa : Hid (Below w.heap.size w (w.alloc (.cells #[.int .i64 K, .int .u64 N, .string S, .int .i64 O] 25))) := hBa
  clear hBa
  rcases hR with ⟨hk, rfl⟩ | ⟨hk, rfl⟩ | ⟨hk, L, hL, rfl⟩ | ⟨hk, rfl⟩ | ⟨hk, rfl⟩
  · subst hk
    go_enter Tryz.func13, Tryz.ntmps13
    go_wp2
    go_ret
    exact ⟨rfl, HBa.out⟩
  · subst hk
    go_enter Tryz.func13, Tryz.ntmps13
    go_wp2
    go_ret
    exact ⟨rfl, HBa.out⟩
  · subst hk
    have HPr : Hid (∀ w, Calls Tryz.prog 24 #[.int .u64 N] w fun e w' => e = .returned (.string (Txt.bs L)) ∧ Below w.heap.size w w') := fun w => refPrint_any N L w hN hL
    generalize Txt.bs L = s at *
    go_enter Tryz.func13, Tryz.ntmps13
    go_wp2_with fail
    refine (HPr.out _).mono ?_
    rintro e w1 ⟨rfl, hb1⟩
    have HB : Hid (Below w.heap.size w w1) := HBa.out.trans (hb1.mono HBa.out.size)
    clear hb1
    go_wp2
    go_ret
    exact ⟨rfl, HB.out⟩
  · subst hk
    go_enter Tryz.func13, Tryz.ntmps13
    go_wp2
    go_ret
    exact ⟨rfl, HBa.out⟩
  · have HNm : Hid (∀ w, Calls Tryz.prog 11 #[.agg #[.int .i64 K, .int .u64 N, .string S, .int .i64 O]] w fun e w' => e = .returned (.string (nmOf (nK K))) ∧ Below w.heap.size w w') := fun w => refName_any K N S O w hN
    generalize nmOf (nK K) = s at *
    have b1 : (K == 1) = false := by rw [beq_eq_false_iff_ne]; omega
    have b2 : (K == 2) = false := by rw [beq_eq_false_iff_ne]; omega
    have b3 : (K == 3) = false := by rw [beq_eq_false_iff_ne]; omega
    have b4 : (K == 4) = false := by rw [beq_eq_false_iff_ne]; omega
    rcases hk with hk | hk
    all_goals
      go_enter Tryz.func13, Tryz.ntmps13
      go_wp2_with fail
      refine (HNm.out _).mono ?_
      rintro e w1 ⟨rfl, hb1⟩
      have HB : Hid (Below w.heap.size w w1) := HBa.out.trans (hb1.mono HBa.out.size)
      clear hb1
      go_wp2
      go_ret
      exact ⟨rfl, HB.out⟩

end Go.Proofs.YtgbajhenmamjjaaGreatDoor
