/-
  DecParse, Val3, Val4, DigQuiet
-/
import Derived.Deep.DeepCutAuto
import Derived.Test.YtgbajhenmamjjaaDoorZ13

/-
  The landed Parse, walked: what is said of any text.
-/
namespace Go.Proofs.YtgbajhenmamjjaaDoor
set_option maxRecDepth 100000
open Go.RowKit Pt Flo Txt

theorem numL_all {l D : List UInt8} {E : Int} (h : numL l = some (D, E)) : AllD D ∧ D.length ≤ l.length := by
  have hlen := congrArg List.length (dig_rst l)
  rw [List.length_append] at hlen
  unfold numL at h
  split at h
  · simp at h
  · split at h
    · simp at h
      obtain ⟨rfl, rfl⟩ := h
      exact ⟨allD_take l, by omega⟩
    · next c r hr =>
      rw [hr, List.length_cons] at hlen
      have hlen2 := congrArg List.length (dig_rst r)
      rw [List.length_append] at hlen2
      split at h
      · split at h
        · simp at h
        · obtain ⟨x, hx, h2⟩ := Option.map_eq_some_iff.1 h
          simp at h2
          obtain ⟨rfl, rfl⟩ := h2
          refine ⟨?_, by rw [List.length_append]; omega⟩
          intro c hc
          rcases List.mem_append.1 hc with q | q
          · exact allD_take l c q
          · exact allD_take r c q
      · obtain ⟨x, hx, h2⟩ := Option.map_eq_some_iff.1 h
        simp at h2
        obtain ⟨rfl, rfl⟩ := h2
        exact ⟨allD_take l, by omega⟩
theorem dv_bound {D : List UInt8} (hD : AllD D) (hl : D.length ≤ 400) : dv D 0 < 10 ^ DG := by
  have := dv_lt D 0 hD
  rw [Nat.zero_add, Nat.one_mul] at this
  exact Nat.lt_of_lt_of_le this (Nat.pow_le_pow_right (by decide) (by rw [DG_eq]; exact hl))
theorem nearest_any (D : List UInt8) (x : Int) (w : World) (hD : AllD D) (hl : D.length ≤ 400) (hx1 : -41000 ≤ x) (hx2 : x ≤ 41000) :
    Calls Tryd.prog 37 #[.agg #[.string (bs D), .int .i64 x]] w fun e w' => e = .returned (.int .u64 (decN (dv D 0) x : Nat)) ∧ Below w.heap.size w w' := by
  have hsz := bs_size D
  refine nearest_gen (bs D) (fun k => dv (D.take k) 0) (dv D 0) x w hx1 hx2 (by omega) ?_ ?_ ?_ ?_
  · intro k h
    have h2 : k < D.length := by omega
    rw [bs_get _ _ h]
    have := isD_get hD h2
    exact ⟨by omega, dv_take h2⟩
  · show dv (D.take _) 0 = _; rw [hsz, List.take_length]
  · rfl
  · intro k hk
    exact dv_bound (fun c hc => hD c (List.mem_of_mem_take hc)) (by rw [List.length_take]; omega)

/-- What Parse answers. -/
def parseW (l : List UInt8) : Nat × Nat :=
  if 400 < l.length then (0, 2) else
  match numL l with
  | none => (0, 4)
  | some (D, E) => (decN (dv D 0) E, 0)
theorem parseW_long {l : List UInt8} (h : 400 < l.length) : parseW l = (0, 2) := by unfold parseW; rw [if_pos h]
theorem parseW_none {l : List UInt8} (h : l.length ≤ 400) (h2 : numL l = none) : parseW l = (0, 4) := by unfold parseW; rw [if_neg (by omega), h2]
theorem parseW_some {l D : List UInt8} {E : Int} (h : l.length ≤ 400) (h2 : numL l = some (D, E)) : parseW l = (decN (dv D 0) E, 0) := by unfold parseW; rw [if_neg (by omega), h2]

set_option maxHeartbeats 1000000 in
theorem parse_any (l : List UInt8) (w : World) (hl : l.length ≤ maxLen) :
    Calls Tryd.prog 33 #[.string (bs l)] w fun e w' => e = .returned (.tuple #[.int .u64 ((parseW l).1 : Nat), .int .i64 ((parseW l).2 : Nat)]) ∧ Below w.heap.size w w' := by
  have hsz := bs_size l
  unfold maxLen at hl
  by_cases c : 400 < l.length
  · rw [parseW_long c]
    have h1 : (400 : Int) < ((bs l).size : Int) := by omega
    clear c hl
    generalize bs l = s at *
    clear hsz
    go_enter Tryd.func33, Tryd.ntmps33
    go_wp2
    go_ret2
    exact ⟨rfl, Below.refl _ _⟩
  · have h1 : ¬ (400 : Int) < ((bs l).size : Int) := by omega
    cases hn : numL l with
    | none =>
      rw [parseW_none (by omega) hn]
      have HR : Hid (∀ w, Calls Tryd.prog 36 #[.string (bs l)] w fun e w' => e = .returned (.tuple #[.agg #[.string ⟨#[]⟩, .int .i64 0], .bool false]) ∧ Below w.heap.size w w') := fun w => read_none l w (by omega) hn
      clear hn c hl
      generalize bs l = s at *
      clear hsz
      go_enter Tryd.func33, Tryd.ntmps33
      go_wp2_with (go_at_call 36; refine (HR.out _).mono ?_; rintro e w1 ⟨rfl, hb1⟩)
      go_ret2
      exact ⟨rfl, hb1.alloc hb1.size _⟩
    | some p =>
      obtain ⟨D, E⟩ := p
      rw [parseW_some (by omega) hn]
      obtain ⟨hD, hDl⟩ := numL_all hn
      have HR : Hid (∀ w, Calls Tryd.prog 36 #[.string (bs l)] w fun e w' => (∃ x, Held x E ∧ -41000 ≤ x ∧ x ≤ 41000 ∧ e = .returned (.tuple #[.agg #[.string (bs D), .int .i64 x], .bool true])) ∧ Below w.heap.size w w') := fun w => read_yes l D E w (by omega) hn
      have HX : Hid (∀ x w, Held x E → -41000 ≤ x → x ≤ 41000 → Calls Tryd.prog 37 #[.agg #[.string (bs D), .int .i64 x]] w fun e w' => e = .returned (.int .u64 (decN (dv D 0) E : Nat)) ∧ Below w.heap.size w w') := by
        intro x w h0 h1 h2
        rw [← dec_held (dv_bound hD (by omega)) h0]
        exact nearest_any D x w hD (by omega) h1 h2
      clear hn c hl hD hDl
      generalize bs l = s at *
      clear hsz
      go_enter Tryd.func33, Tryd.ntmps33
      go_wp2_with fail
      refine (HR.out _).mono ?_
      rintro e w1 ⟨⟨x, hx0, hx1, hx2, rfl⟩, hb1⟩
      have HH : Hid (Held x E) := hx0
      clear hx0
      go_wp2_with fail
      refine (HX.out x _ HH.out hx1 hx2).mono ?_
      rintro e w2 ⟨rfl, hb2⟩
      go_wp2
      go_ret2
      exact ⟨rfl, (hb1.alloc hb1.size _).trans (hb2.mono (by have := hb1.size; simp; omega))⟩

end Go.Proofs.YtgbajhenmamjjaaDoor

/-
  Layer 8: the landed Key, Truth, Name, and lives, walked.
-/
namespace Go.Proofs.YtgbajhenmamjjaaDoor
set_option maxRecDepth 100000
open Go.RowKit Flo

theorem same_self {K N : Int} (S : ByteArray) (O : Int) (hN : U64 N) (h : nK K ≠ 0) : sameB (nK K) (nN K N) (nS K S) (nO K O) (nK K) (nN K N) (nS K S) (nO K O) = kok K N := by
  rw [Bool.eq_iff_iff, same_key (nN_u64 hN) (nN_u64 hN), kok_norm, nK_nK]
  constructor
  · rintro (⟨a, _⟩ | ⟨a, _⟩)
    · exact a
    · exact absurd a h
  · intro a
    exact Or.inl ⟨a, a, rfl, rfl, rfl, rfl⟩
theorem key_zero {K N : Int} (S : ByteArray) (O : Int) (h : kok K N = false) : yK K N = 0 ∧ yN K N = 0 ∧ yS K N S = ⟨#[]⟩ ∧ yO K N O = 0 := by
  unfold yK yN yS yO
  rw [h]
  exact ⟨rfl, rfl, rfl, rfl⟩
theorem key_some {K N : Int} (S : ByteArray) (O : Int) (h : kok K N = true) : yK K N = nK K ∧ yN K N = kN K N ∧ yS K N S = nS K S ∧ yO K N O = nO K O := by
  unfold yK yN yS yO
  rw [h]
  exact ⟨rfl, rfl, rfl, rfl⟩
theorem kN_abs {N : Int} (h : mag (nN 3 N) = 0) : absZ (nN 3 N) = 0 := by
  unfold absZ nanB
  rw [h]; rfl

set_option maxHeartbeats 4000000 in
theorem key_any (K N : Int) (S : ByteArray) (O : Int) (w : World) (hN : U64 N) :
    Calls Tryd.prog 8 #[.agg #[.int .i64 K, .int .u64 N, .string S, .int .i64 O]] w fun e w' => e = .returned (.tuple #[.agg #[.int .i64 (yK K N), .int .u64 (yN K N), .string (yS K N S), .int .i64 (yO K N O)], .bool (kok K N)]) ∧ Below w.heap.size w w' := by
  have HN : Hid (∀ w, Calls Tryd.prog 11 #[.agg #[.int .i64 K, .int .u64 N, .string S, .int .i64 O]] w fun e w' => e = .returned (.agg #[.int .i64 (nK K), .int .u64 (nN K N), .string (nS K S), .int .i64 (nO K O)]) ∧ Below w.heap.size w w') := fun w => normal_any K N S O w hN
  have HS : Hid (∀ w, Calls Tryd.prog 6 #[.agg #[.int .i64 (nK K), .int .u64 (nN K N), .string (nS K S), .int .i64 (nO K O)], .agg #[.int .i64 (nK K), .int .u64 (nN K N), .string (nS K S), .int .i64 (nO K O)]] w fun e w' => e = .returned (.bool (sameB (nK K) (nN K N) (nS K S) (nO K O) (nK K) (nN K N) (nS K S) (nO K O))) ∧ Below w.heap.size w w') := fun w => same_any _ _ _ _ _ _ _ _ w (nN_u64 hN) (nN_u64 hN)
  have HKi : Hid (∀ w, Calls Tryd.prog 16 #[.int .u64 (nN K N)] w fun e w' => e = .returned (.int .i64 (kindZ (nN K N))) ∧ w' = w) := fun w => kind_any _ w (nN_u64 hN)
  have HAb : Hid (∀ w, Calls Tryd.prog 17 #[.int .u64 (nN K N)] w fun e w' => e = .returned (.int .u64 (absZ (nN K N))) ∧ w' = w) := fun w => abs_any _ w (nN_u64 hN)
  have HY : Hid (kok K N = false → yK K N = 0 ∧ yN K N = 0 ∧ yS K N S = ⟨#[]⟩ ∧ yO K N O = 0) := key_zero S O
  have HY2 : Hid (kok K N = true → yK K N = nK K ∧ yN K N = kN K N ∧ yS K N S = nS K S ∧ yO K N O = nO K O) := key_some S O
  go_enter Tryd.func8, Tryd.ntmps8
  go_upto_region 1 with fail
  go_cut [3] (fun t wx => t = .bool false ∧ wx.cell? ⟨w.heap.size, 0, none⟩ = some (.int .i64 (nK K)) ∧ wx.cell? ⟨w.heap.size, 1, none⟩ = some (.int .u64 (nN K N)) ∧ wx.cell? ⟨w.heap.size, 2, none⟩ = some (.string (nS K S)) ∧ wx.cell? ⟨w.heap.size, 3, none⟩ = some (.int .i64 (nO K O)) ∧
    wx.cell? ⟨w.heap.size + 1, 0, none⟩ = some (.int .i64 0) ∧ wx.cell? ⟨w.heap.size + 1, 1, none⟩ = some (.int .u64 0) ∧ wx.cell? ⟨w.heap.size + 1, 2, none⟩ = some (.string ⟨#[]⟩) ∧ wx.cell? ⟨w.heap.size + 1, 3, none⟩ = some (.int .i64 0) ∧ (∀ i, wx.frozen? ⟨w.heap.size, i, none⟩ = false) ∧ (∀ i, wx.frozen? ⟨w.heap.size + 1, i, none⟩ = false) ∧ w.heap.size + 1 < wx.heap.size ∧ Hid (Below w.heap.size w wx))
  case first =>
    go_wp2_with fail
    refine (HN.out _).mono ?_
    rintro e wn ⟨rfl, hb⟩
    obtain ⟨hc, hf⟩ := bcell hb
    have hsz := hb.size
    simp at hsz
    have a0 : wn.cell? ⟨w.heap.size, 0, none⟩ = some (.int .i64 K) := by rw [hc _ _ (by simp; try omega)]; simp
    have a1 : wn.cell? ⟨w.heap.size, 1, none⟩ = some (.int .u64 N) := by rw [hc _ _ (by simp; try omega)]; simp
    have a2 : wn.cell? ⟨w.heap.size, 2, none⟩ = some (.string S) := by rw [hc _ _ (by simp; try omega)]; simp
    have a3 : wn.cell? ⟨w.heap.size, 3, none⟩ = some (.int .i64 O) := by rw [hc _ _ (by simp; try omega)]; simp
    have b0 : wn.cell? ⟨w.heap.size + 1, 0, none⟩ = some (.int .i64 0) := by rw [hc _ _ (by simp; try omega)]; simp
    have b1 : wn.cell? ⟨w.heap.size + 1, 1, none⟩ = some (.int .u64 0) := by rw [hc _ _ (by simp; try omega)]; simp
    have b2 : wn.cell? ⟨w.heap.size + 1, 2, none⟩ = some (.string ⟨#[]⟩) := by rw [hc _ _ (by simp; try omega)]; simp
    have b3 : wn.cell? ⟨w.heap.size + 1, 3, none⟩ = some (.int .i64 0) := by rw [hc _ _ (by simp; try omega)]; simp
    have f0 : ∀ i, wn.frozen? ⟨w.heap.size, i, none⟩ = false := fun i => by rw [hf _ _ (by simp; try omega)]; simp
    have f1 : ∀ i, wn.frozen? ⟨w.heap.size + 1, i, none⟩ = false := fun i => by rw [hf _ _ (by simp; try omega)]; simp
    have hB : Below w.heap.size w wn := (((Below.refl _ _).alloc (Nat.le_refl _) _).alloc (by simp) _).trans (hb.mono (by simp; omega))
    have q1 := stored4 wn _ w.heap.size (.int .i64 (nK K)) (.int .u64 (nN K N)) (.string (nS K S)) (.int .i64 (nO K O)) _ _ _ _ a0 a1 a2 a3 rfl
    have hB1 := set4 (i0 := 0) (i1 := 1) (i2 := 2) (i3 := 3) hB (Nat.le_refl _) (.int .i64 (nK K)) (.int .u64 (nN K N)) (.string (nS K S)) (.int .i64 (nO K O))
    go_wp2_with fail
    go_meet
    exact ⟨rfl, q1.1.1, q1.1.2.1, q1.1.2.2.1, q1.1.2.2.2, (q1.2 _ _ (by omega)).trans b0, (q1.2 _ _ (by omega)).trans b1, (q1.2 _ _ (by omega)).trans b2, (q1.2 _ _ (by omega)).trans b3, fun i => by simp [f0], fun i => by simp [f1], by simp; omega, hB1⟩
  case rest =>
    obtain ⟨rfl, a0, a1, a2, a3, b0, b1, b2, b3, f0, f1, hz, HB⟩ := hcut
    have hz0 : w.heap.size < wc.heap.size := by omega
    by_cases h0 : nK K = 0
    · have hk : kok K N = false := by unfold kok; rw [h0]; rfl
      go_wp2
      obtain ⟨y1, y2, y3, y4⟩ := HY.out hk
      exact bodyPost_ret (v := .tuple #[.agg #[.int .i64 0, .int .u64 0, .string ⟨#[]⟩, .int .i64 0], .bool false]) (by simp [results, Tryd.results8, go_sem, b0, b1, b2, b3]) rfl ⟨by rw [y1, y2, y3, y4, hk], set4 HB.out (by omega) _ _ _ _⟩
    · have hb0 : (nK K == 0) = false := by simpa using h0
      have hs := same_self S O hN h0
      rw [hs] at HS
      clear hs
      cases hk : kok K N
      · rw [hk] at HS
        go_wp2_with fail
        refine (HS.out _).mono ?_
        rintro e w1 ⟨rfl, hb⟩
        obtain ⟨hc, hf⟩ := bcell hb
        have k0 := (hc _ 0 hz).trans b0
        have k1 := (hc _ 1 hz).trans b1
        have k2 := (hc _ 2 hz).trans b2
        have k3 := (hc _ 3 hz).trans b3
        have kf : ∀ i, w1.frozen? ⟨w.heap.size + 1, i, none⟩ = false := fun i => (hf _ i hz).trans (f1 i)
        have HB1 : Hid (Below w.heap.size w w1) := HB.out.trans (hb.mono (by omega))
        go_wp2
        obtain ⟨y1, y2, y3, y4⟩ := HY.out hk
        exact bodyPost_ret (v := .tuple #[.agg #[.int .i64 0, .int .u64 0, .string ⟨#[]⟩, .int .i64 0], .bool false]) (by simp [results, Tryd.results8, go_sem, k0, k1, k2, k3]) rfl ⟨by rw [y1, y2, y3, y4, hk], set4 HB1.out (by omega) _ _ _ _⟩
      · rw [hk] at HS
        go_wp2_with fail
        refine (HS.out _).mono ?_
        rintro e w1 ⟨rfl, hb⟩
        obtain ⟨hc, hf⟩ := bcell hb
        have k0 := (hc _ 0 hz).trans b0
        have k1 := (hc _ 1 hz).trans b1
        have k2 := (hc _ 2 hz).trans b2
        have k3 := (hc _ 3 hz).trans b3
        have kf : ∀ i, w1.frozen? ⟨w.heap.size + 1, i, none⟩ = false := fun i => (hf _ i hz).trans (f1 i)
        have j0 := (hc _ 0 hz0).trans a0
        have j1 := (hc _ 1 hz0).trans a1
        have j2 := (hc _ 2 hz0).trans a2
        have j3 := (hc _ 3 hz0).trans a3
        have jf : ∀ i, w1.frozen? ⟨w.heap.size, i, none⟩ = false := fun i => (hf _ i hz0).trans (f0 i)
        have HB1 : Hid (Below w.heap.size w w1) := HB.out.trans (hb.mono (by omega))
        have HYY : Hid (yK K N = nK K ∧ yN K N = kN K N ∧ yS K N S = nS K S ∧ yO K N O = nO K O) := HY2.out hk
        have HK : Hid (kok K N = true) := hk
        clear hb hc hf a0 a1 a2 a3 b0 b1 b2 b3 f0 f1 hz hz0 HB HN HS HY HY2 hk
        by_cases h3 : nK K = 3
        · have hK3 : K = 3 := (nK_3 K).1 h3
          have hkz := kind_zero (nN K N)
          by_cases hm : mag (nN K N) = 0
          · have HM : Hid (kN K N = 0) := if_pos hm
            have HA : Hid (absZ (nN K N) = 0) := by have := kN_abs (N := N); rw [hK3] at hm ⊢; exact this hm
            rw [decide_eq_true hm] at hkz
            clear hm hK3
            go_wp2_with fail
            refine (HKi.out _).mono ?_
            rintro e w' ⟨rfl, rfl⟩
            go_wp2_with fail
            refine (HAb.out _).mono ?_
            rintro e w' ⟨rfl, rfl⟩
            rw [HA.out]
            go_wp2
            obtain ⟨y1, y2, y3, y4⟩ := HYY.out
            exact bodyPost_ret (v := .tuple #[.agg #[.int .i64 3, .int .u64 0, .string (nS K S), .int .i64 (nO K O)], .bool true]) (by simp [results, Tryd.results8, go_sem, k0, k1, k2, k3]) rfl ⟨by rw [y1, h3, y2, y3, y4, HM.out, HK.out], set4 (HB1.out.setCell (p := ⟨w.heap.size, 1, none⟩) (Nat.le_refl _) _) (by omega) _ _ _ _⟩
          · have HM : Hid (kN K N = nN K N) := if_neg hm
            rw [decide_eq_false hm] at hkz
            clear hm hK3
            go_wp2_with fail
            refine (HKi.out _).mono ?_
            rintro e w' ⟨rfl, rfl⟩
            go_wp2
            obtain ⟨y1, y2, y3, y4⟩ := HYY.out
            exact bodyPost_ret (v := .tuple #[.agg #[.int .i64 3, .int .u64 (nN K N), .string (nS K S), .int .i64 (nO K O)], .bool true]) (by simp [results, Tryd.results8, go_sem, k0, k1, k2, k3]) rfl ⟨by rw [y1, h3, y2, y3, y4, HM.out, HK.out], set4 HB1.out (by omega) _ _ _ _⟩
        · have h3b : (nK K == 3) = false := by simpa using h3
          have HM : Hid (kN K N = nN K N) := by
            have := kN_plain N (fun e : K = 3 => h3 ((nK_3 K).2 e))
            rw [this.1, this.2]; exact rfl
          go_wp2
          obtain ⟨y1, y2, y3, y4⟩ := HYY.out
          exact bodyPost_ret (v := .tuple #[.agg #[.int .i64 (nK K), .int .u64 (nN K N), .string (nS K S), .int .i64 (nO K O)], .bool true]) (by simp [results, Tryd.results8, go_sem, k0, k1, k2, k3]) rfl ⟨by rw [y1, y2, y3, y4, HM.out, HK.out], set4 HB1.out (by omega) _ _ _ _⟩

set_option maxHeartbeats 1000000 in
theorem truth_any (K N : Int) (S : ByteArray) (O : Int) (w : World) (hN : U64 N) :
    Calls Tryd.prog 12 #[.agg #[.int .i64 K, .int .u64 N, .string S, .int .i64 O]] w fun e w' => e = .returned (.bool (decide (2 ≤ nK K))) ∧ Below w.heap.size w w' := by
  have HN : Hid (∀ w, Calls Tryd.prog 11 #[.agg #[.int .i64 K, .int .u64 N, .string S, .int .i64 O]] w fun e w' => e = .returned (.agg #[.int .i64 (nK K), .int .u64 (nN K N), .string (nS K S), .int .i64 (nO K O)]) ∧ Below w.heap.size w w') := fun w => normal_any K N S O w hN
  obtain ⟨g1, g2⟩ := nK_bd K
  go_enter Tryd.func12, Tryd.ntmps12
  go_upto_region 1 with fail
  go_cut [2] (fun t wx => t = .bool false ∧ wx.cell? ⟨w.heap.size, 0, none⟩ = some (.int .i64 (nK K)) ∧ Hid (Below w.heap.size w wx))
  case first =>
    go_wp2_with fail
    refine (HN.out _).mono ?_
    rintro e wn ⟨rfl, hb⟩
    obtain ⟨hc, hf⟩ := bcell hb
    have hsz := hb.size
    simp at hsz
    have a0 : wn.cell? ⟨w.heap.size, 0, none⟩ = some (.int .i64 K) := by rw [hc _ _ (by simp; try omega)]; simp
    have a1 : wn.cell? ⟨w.heap.size, 1, none⟩ = some (.int .u64 N) := by rw [hc _ _ (by simp; try omega)]; simp
    have a2 : wn.cell? ⟨w.heap.size, 2, none⟩ = some (.string S) := by rw [hc _ _ (by simp; try omega)]; simp
    have a3 : wn.cell? ⟨w.heap.size, 3, none⟩ = some (.int .i64 O) := by rw [hc _ _ (by simp; try omega)]; simp
    have hB : Below w.heap.size w wn := ((Below.refl _ _).alloc (Nat.le_refl _) _).trans (hb.mono (by simp))
    have q1 := stored4 wn _ w.heap.size (.int .i64 (nK K)) (.int .u64 (nN K N)) (.string (nS K S)) (.int .i64 (nO K O)) _ _ _ _ a0 a1 a2 a3 rfl
    have hB1 := set4 (i0 := 0) (i1 := 1) (i2 := 2) (i3 := 3) hB (Nat.le_refl _) (.int .i64 (nK K)) (.int .u64 (nN K N)) (.string (nS K S)) (.int .i64 (nO K O))
    go_wp2_with fail
    go_meet
    exact ⟨rfl, q1.1.1, hB1⟩
  case rest =>
    obtain ⟨rfl, a0, HB⟩ := hcut
    by_cases h0 : nK K = 0
    · have HV : Hid (decide (2 ≤ nK K) = false) := decide_eq_false (by omega)
      go_wp2
      go_ret
      exact ⟨ret_bool HV.out.symm, HB.out⟩
    · by_cases h1 : nK K = 1
      · have HV : Hid (decide (2 ≤ nK K) = false) := decide_eq_false (by omega)
        go_wp2
        go_ret
        exact ⟨ret_bool HV.out.symm, HB.out⟩
      · have HV : Hid (decide (2 ≤ nK K) = true) := decide_eq_true (by omega)
        have hb0 : (nK K != 0) = true := by simpa using h0
        have hb1 : (nK K != 1) = true := by simpa using h1
        go_wp2
        go_ret
        exact ⟨ret_bool HV.out.symm, HB.out⟩

end Go.Proofs.YtgbajhenmamjjaaDoor

/-
  Layer 8: the landed Name, and lives, walked.
-/
namespace Go.Proofs.YtgbajhenmamjjaaDoor
set_option maxRecDepth 100000
open Go.RowKit Flo

/-- The names of the kinds. -/
def nms : List ByteArray := [⟨#[110, 105, 108]⟩, ⟨#[98, 111, 111, 108, 101, 97, 110]⟩, ⟨#[98, 111, 111, 108, 101, 97, 110]⟩, ⟨#[110, 117, 109, 98, 101, 114]⟩, ⟨#[115, 116, 114, 105, 110, 103]⟩, ⟨#[116, 97, 98, 108, 101]⟩, ⟨#[102, 117, 110, 99, 116, 105, 111, 110]⟩, ⟨#[116, 104, 114, 101, 97, 100]⟩, ⟨#[102, 117, 110, 99, 116, 105, 111, 110]⟩]
def nmOf (k : Int) : ByteArray := nms.getD k.toNat ⟨#[]⟩
/-- The table of names lies in block 0. -/
def Nb (w : World) : Prop := 0 < w.heap.size ∧ ∀ r, r < 9 → w.cell? ⟨0, r, none⟩ = some (.string (nms.getD r ⟨#[]⟩))
theorem Nb.below {w w' : World} {B : Nat} (h : Nb w) (hg : Below B w w') (hB : 0 < B) : Nb w' := ⟨Nat.lt_of_lt_of_le h.1 hg.size, fun r hr => (hg.cell hB).trans (h.2 r hr)⟩

theorem field0 (k n o : Int) (s : ByteArray) (w : World) : Sem.run Tryd.prog (Instr.field 25 (.agg #[.int .i64 k, .int .u64 n, .string s, .int .i64 o]) 0) w = .ok (.int .i64 k) w := by kernel_rfl

set_option maxHeartbeats 1000000 in
theorem name_any (K N : Int) (S : ByteArray) (O : Int) (w : World) (hN : U64 N) (hT : Nb w) :
    Calls Tryd.prog 13 #[.agg #[.int .i64 K, .int .u64 N, .string S, .int .i64 O]] w fun e w' => e = .returned (.string (nmOf (nK K))) ∧ Below w.heap.size w w' := by
  have HN : Hid (∀ w, Calls Tryd.prog 11 #[.agg #[.int .i64 K, .int .u64 N, .string S, .int .i64 O]] w fun e w' => e = .returned (.agg #[.int .i64 (nK K), .int .u64 (nN K N), .string (nS K S), .int .i64 (nO K O)]) ∧ Below w.heap.size w w') := fun w => normal_any K N S O w hN
  obtain ⟨g1, g2⟩ := nK_bd K
  obtain ⟨r, hr⟩ := Int.eq_ofNat_of_zero_le g1
  have hnm : nmOf (nK K) = nms.getD r ⟨#[]⟩ := by unfold nmOf; rw [hr]; rfl
  rw [hnm]
  rw [hr] at HN g2
  have hr8 : r < 9 := by omega
  clear hnm hr g1
  generalize hx : nms.getD r ⟨#[]⟩ = X
  have hcell := hT.2 r hr8
  rw [hx] at hcell
  have h00 := hT.1
  clear hx
  go_enter Tryd.func13, Tryd.ntmps13
  go_wp2_with fail
  refine (HN.out _).mono ?_
  rintro e wn ⟨rfl, hb⟩
  have hB : Below w.heap.size w wn := ((Below.refl _ _).alloc (Nat.le_refl _) _).trans (hb.mono (by simp))
  have hc2 : wn.cell? ⟨0, r, none⟩ = some (.string X) := (hB.cell (p := ⟨0, r, none⟩) h00).trans hcell
  have HB : Hid (Below w.heap.size w wn) := hB
  have hfd := fun w => field0 r (nN K N) (nO K O) (nS K S) w
  clear hB hb
  go_wp2
  go_ret
  exact ⟨rfl, HB.out⟩

theorem vbool_true (w : World) : Calls Tryd.prog 20 #[.bool true] w fun e w' => e = .returned (.agg #[.int .i64 2, .int .u64 0, .string ⟨#[]⟩, .int .i64 0]) ∧ Below w.heap.size w w' := by
  go_enter Tryd.func20, Tryd.ntmps20
  go_wp2
  exact bodyPost_ret (v := .agg #[.int .i64 2, .int .u64 0, .string ⟨#[]⟩, .int .i64 0]) (by simp [results, Tryd.results20, go_sem]) rfl ⟨rfl, (Below.refl _ _).alloc (Nat.le_refl _) _⟩

theorem near_3_2 : nearR 15 10 = 4609434218613702656 := by
  rw [← near_bits (A := 15) (B := 10) (k := 53) (by decide) (by decide) (by decide +kernel)]
  decide +kernel
theorem parse_3_2 : parseW [49, 46, 53] = (4609434218613702656, 0) := by
  rw [parseW_some (by decide) (show Txt.numL [49, 46, 53] = some ([49, 53], -1) by decide +kernel)]
  have e0 : Txt.dv [49, 53] 0 = 15 := by decide
  have e : decN 15 (-1) = nearR 15 10 := by unfold decN; rw [if_neg (by decide), show (-(-1 : Int)).toNat = 1 from rfl, Nat.pow_one]
  rw [e0, e, near_3_2]

theorem ex_3_2 : ((⟨#[45, 49, 46, 53]⟩ : ByteArray).extract 0 1).toList = [45] := by decide +kernel
theorem pre_3_2 (w : World) : Calls Tryd.prog 38 #[.string ⟨#[45, 49, 46, 53]⟩, .string ⟨#[45]⟩] w fun e w' => e = .returned (.bool true) ∧ w' = w := by
  have hx := ex_3_2
  go_enter Tryd.func38, Tryd.ntmps38
  go_wp2
  go_ret
  exact ⟨rfl, rfl⟩
theorem cutl_3_2 (w : World) : Calls Tryd.prog 35 #[.string ⟨#[45, 49, 46, 53]⟩, .string ⟨#[45]⟩] w fun e w' => e = .returned (.tuple #[.string ⟨#[49, 46, 53]⟩, .bool true]) ∧ w' = w := by
  go_enter Tryd.func35, Tryd.ntmps35
  go_wp2_with fail
  refine (pre_3_2 _).mono ?_
  rintro e w0 ⟨rfl, rfl⟩
  go_wp2
  go_ret2
  exact ⟨rfl, rfl⟩
theorem cut_3_2 (w : World) : Calls Tryd.prog 32 #[.string ⟨#[45, 49, 46, 53]⟩, .string ⟨#[45]⟩] w fun e w' => e = .returned (.tuple #[.string ⟨#[49, 46, 53]⟩, .bool true]) ∧ w' = w := by
  go_enter Tryd.func32, Tryd.ntmps32
  go_wp2_with fail
  refine (cutl_3_2 _).mono ?_
  rintro e w0 ⟨rfl, rfl⟩
  go_wp2
  go_ret2
  exact ⟨rfl, rfl⟩

set_option maxHeartbeats 1000000 in
theorem vread_3_2 (w : World) : Calls Tryd.prog 28 #[.string ⟨#[45, 49, 46, 53]⟩] w fun e w' => e = .returned (.tuple #[.int .u64 13832806255468478464, .bool true]) ∧ Below w.heap.size w w' := by
  have HP : Hid (∀ w, Calls Tryd.prog 33 #[.string ⟨#[49, 46, 53]⟩] w fun e w' => e = .returned (.tuple #[.int .u64 4609434218613702656, .int .i64 0]) ∧ Below w.heap.size w w') := fun w => by
    have h := parse_any [49, 46, 53] w (by unfold maxLen; decide)
    rw [parse_3_2] at h
    exact h
  have HNeg : Hid (∀ w, Calls Tryd.prog 34 #[.int .u64 4609434218613702656] w fun e w' => e = .returned (.int .u64 13832806255468478464) ∧ w' = w) := fun w => neg_any 4609434218613702656 w ⟨by decide, by decide⟩
  go_enter Tryd.func28, Tryd.ntmps28
  go_wp2_with fail
  refine (cut_3_2 _).mono ?_
  rintro e w0 ⟨rfl, rfl⟩
  go_wp2_with fail
  refine (HP.out _).mono ?_
  rintro e w1 ⟨rfl, hb1⟩
  go_wp2_with fail
  refine (HNeg.out _).mono ?_
  rintro e w2 ⟨rfl, rfl⟩
  go_wp2
  go_ret2
  exact ⟨rfl, hb1⟩

set_option maxHeartbeats 1000000 in
theorem toNum_3_2 (w : World) : Calls Tryd.prog 18 #[.agg #[.int .i64 4, .int .u64 0, .string ⟨#[45, 49, 46, 53]⟩, .int .i64 0]] w fun e w' => e = .returned (.tuple #[.int .u64 13832806255468478464, .bool true]) ∧ Below w.heap.size w w' := by
  go_enter Tryd.func18, Tryd.ntmps18
  go_wp2_with fail
  refine (vread_3_2 _).mono ?_
  rintro e w1 ⟨rfl, hb1⟩
  go_wp2
  go_ret2
  exact ⟨rfl, ((Below.refl _ _).alloc (Nat.le_refl _) _).trans (hb1.mono (by simp))⟩

set_option maxHeartbeats 1000000 in
theorem vlives_any (w : World) (hT : Nb w) : Calls Tryd.prog 9 #[] w fun e w' => e = .returned (.bool true) ∧ Below w.heap.size w w' := by
  have HTx : Hid (Nb w) := hT
  have h00 := hT.1
  have HNm : Hid (∀ w, Nb w → Calls Tryd.prog 13 #[.agg #[.int .i64 2, .int .u64 0, .string ⟨#[]⟩, .int .i64 0]] w fun e w' => e = .returned (.string ⟨#[98, 111, 111, 108, 101, 97, 110]⟩) ∧ Below w.heap.size w w') := fun w h => name_any 2 0 ⟨#[]⟩ 0 w ⟨by decide, by decide⟩ h
  have HTr : Hid (∀ w, Calls Tryd.prog 12 #[.agg #[.int .i64 3, .int .u64 0, .string ⟨#[]⟩, .int .i64 0]] w fun e w' => e = .returned (.bool true) ∧ Below w.heap.size w w') := fun w => truth_any 3 0 ⟨#[]⟩ 0 w ⟨by decide, by decide⟩
  clear hT
  go_enter Tryd.func9, Tryd.ntmps9
  go_wp2_with fail
  refine (vtext_any _ _).mono ?_
  rintro e w1 ⟨rfl, hb1⟩
  go_wp2_with fail
  refine (toNum_3_2 _).mono ?_
  rintro e w2 ⟨rfl, hb2⟩
  have hB2 := hb1.trans (hb2.mono hb1.size)
  clear hb1 hb2
  go_wp2_with fail
  refine (vbool_true _).mono ?_
  rintro e w3 ⟨rfl, hb3⟩
  have hB3 := hB2.trans (hb3.mono hB2.size)
  go_wp2_with fail
  refine (HNm.out _ (HTx.out.below hB3 h00)).mono ?_
  rintro e w4 ⟨rfl, hb4⟩
  have hB4 := hB3.trans (hb4.mono hB3.size)
  go_wp2_with fail
  refine (vnum_any _ _).mono ?_
  rintro e w5 ⟨rfl, hb5⟩
  have hB5 := hB4.trans (hb5.mono hB4.size)
  go_wp2_with fail
  refine (HTr.out _).mono ?_
  rintro e w6 ⟨rfl, hb6⟩
  have HB6 : Hid (Below w.heap.size w w6) := hB5.trans (hb6.mono hB5.size)
  clear hb6
  go_wp2
  go_ret
  exact ⟨rfl, HB6.out⟩

end Go.Proofs.YtgbajhenmamjjaaDoor

/-
  A region that draws its order, whose callees may make memory of their own: walked once, in the order of the text, in the class of worlds below which nothing has turned.
-/
namespace Go.Proofs.YtgbajhenmamjjaaDoor
set_option maxRecDepth 100000
open Go.RowKit

/-- A world in which all that was there is as it was. -/
structure BelowOf (w : World) where
  u : World
  h : Below w.heap.size w u

theorem wp_region_below {P : Program} {id : Nat} {Q : Exit → Act → World → Prop} {a : Act} {w : World} {l : List Oper} (hm : P.follows .mixedOrders = true) (hB : Region.lexB .any l.toArray = true)
    (h : wpQuiet P l.toArray (fun w' => ∃ p : BelowOf w, w' = p.u) (fun a' => ∀ w', (∃ p : BelowOf w, w' = p.u) → Q .normal a' w') l a) : (Code.region id l.toArray true).wp P Q a w :=
  wp_region_quiet (C := fun w' => ∃ p : BelowOf w, w' = p.u) hm hB ⟨⟨w.drewN 1, below_drewN (Below.refl _ _) 1⟩, rfl⟩ (by simpa using h)

/-- A callee's contract, met in a world of the class. -/
theorem below_of {P : Program} {f : FuncId} {args : Array Value} {w : World} {p : BelowOf w} {v : Value}
    (h : Calls P f args p.u fun e w' => e = .returned v ∧ Below p.u.heap.size p.u w') : Calls P f args p.u fun e w'' => e = .returned v ∧ ∃ p' : BelowOf w, w'' = p'.u :=
  h.mono fun _ w' ⟨he, hb⟩ => ⟨he, ⟨⟨w', p.h.trans (hb.mono p.h.size)⟩, rfl⟩⟩

end Go.Proofs.YtgbajhenmamjjaaDoor
