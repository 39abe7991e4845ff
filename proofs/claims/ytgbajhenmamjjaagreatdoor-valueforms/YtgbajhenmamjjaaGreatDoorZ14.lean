/-
  DecParse, Val3, Val4, ValClose, Prt, Prt2
-/
import Derived.Deep.DeepCutAuto
import Derived.Test.YtgbajhenmamjjaaGreatDoorCards
import Derived.Test.YtgbajhenmamjjaaGreatDoorTie
import Derived.SizedLaws
import Derived.Carry
import Derived.ShutString
import Derived.OpenShut
import Derived.Deep.DeepHandedRow
import Derived.Lib.LaidTab
import Derived.LaidMore
import Derived.Deep.RegionHeld3
import Derived.Test.YtgbajhenmamjjaaGreatDoorZ13

/-
  The landed Parse, walked: what is said of any text.
-/
namespace Go.Proofs.YtgbajhenmamjjaaGreatDoor
set_option maxRecDepth 100000
open Go.RowKit Pt Flo Txt

theorem numL_all {l D : List UInt8} {E : Int} (h : numL l = some (D, E)) : AllD D ∧ D.length ≤ l.length := by
  have hlen := congrArg List.length (dig_rst l)
  rw [List.length_append] at hlen
  unfold numL at h
  split at h
  · simp at h
  · split at h
    · simp at h
      obtain ⟨rfl, rfl⟩ := h
      exact ⟨allD_take l, by omega⟩
    · next c r hr =>
      rw [hr, List.length_cons] at hlen
      have hlen2 := congrArg List.length (dig_rst r)
      rw [List.length_append] at hlen2
      split at h
      · split at h
        · simp at h
        · obtain ⟨x, hx, h2⟩ := Option.map_eq_some_iff.1 h
          simp at h2
          obtain ⟨rfl, rfl⟩ := h2
          refine ⟨?_, by rw [List.length_append]; omega⟩
          intro c hc
          rcases List.mem_append.1 hc with q | q
          · exact allD_take l c q
          · exact allD_take r c q
      · obtain ⟨x, hx, h2⟩ := Option.map_eq_some_iff.1 h
        simp at h2
        obtain ⟨rfl, rfl⟩ := h2
        exact ⟨allD_take l, by omega⟩
theorem dv_bound {D : List UInt8} (hD : AllD D) (hl : D.length ≤ 400) : dv D 0 < 10 ^ DG := by
  have := dv_lt D 0 hD
  rw [Nat.zero_add, Nat.one_mul] at this
  exact Nat.lt_of_lt_of_le this (Nat.pow_le_pow_right (by decide) (by rw [DG_eq]; exact hl))
theorem nearest_any (D : List UInt8) (x : Int) (w : World) (hD : AllD D) (hl : D.length ≤ 400) (hx1 : -41000 ≤ x) (hx2 : x ≤ 41000) :
    Calls Tryz.prog 94 #[.agg #[.string (bs D), .int .i64 x]] w fun e w' => e = .returned (.int .u64 (decN (dv D 0) x : Nat)) ∧ Below w.heap.size w w' := by
  have hsz := bs_size D
  refine nearest_gen (bs D) (fun k => dv (D.take k) 0) (dv D 0) x w hx1 hx2 (by omega) ?_ ?_ ?_ ?_
  · intro k h
    have h2 : k < D.length := by omega
    rw [bs_get _ _ h]
    have := isD_get hD h2
    exact ⟨by omega, dv_take h2⟩
  · show dv (D.take _) 0 = _; rw [hsz, List.take_length]
  · rfl
  · intro k hk
    exact dv_bound (fun c hc => hD c (List.mem_of_mem_take hc)) (by rw [List.length_take]; omega)

/-- What Parse answers. -/
def parseW (l : List UInt8) : Nat × Nat :=
  if 400 < l.length then (0, 2) else
  match numL l with
  | none => (0, 4)
  | some (D, E) => (decN (dv D 0) E, 0)
theorem parseW_long {l : List UInt8} (h : 400 < l.length) : parseW l = (0, 2) := by unfold parseW; rw [if_pos h]
theorem parseW_none {l : List UInt8} (h : l.length ≤ 400) (h2 : numL l = none) : parseW l = (0, 4) := by unfold parseW; rw [if_neg (by omega), h2]
theorem parseW_some {l D : List UInt8} {E : Int} (h : l.length ≤ 400) (h2 : numL l = some (D, E)) : parseW l = (decN (dv D 0) E, 0) := by unfold parseW; rw [if_neg (by omega), h2]

set_option maxHeartbeats 1000000 in
theorem parse_any (l : List UInt8) (w : World) (hl : l.length ≤ maxLen) :
    Calls Tryz.prog 59 #[.string (bs l)] w fun e w' => e = .returned (.tuple #[.int .u64 ((parseW l).1 : Nat), .int .i64 ((parseW l).2 : Nat)]) ∧ Below w.heap.size w w' := by
  have hsz := bs_size l
  unfold maxLen at hl
  by_cases c : 400 < l.length
  · rw [parseW_long c]
    have h1 : (400 : Int) < ((bs l).size : Int) := by omega
    clear c hl
    generalize bs l = s at *
    clear hsz
    go_enter Tryz.func59, Tryz.ntmps59
    go_wp2
    go_ret2
    exact ⟨rfl, Below.refl _ _⟩
  · have h1 : ¬ (400 : Int) < ((bs l).size : Int) := by omega
    cases hn : numL l with
    | none =>
      rw [parseW_none (by omega) hn]
      have HR : Hid (∀ w, Calls Tryz.prog 93 #[.string (bs l)] w fun e w' => e = .returned (.tuple #[.agg #[.string ⟨#[]⟩, .int .i64 0], .bool false]) ∧ Below w.heap.size w w') := fun w => read_none l w (by omega) hn
      clear hn c hl
      generalize bs l = s at *
      clear hsz
      go_enter Tryz.func59, Tryz.ntmps59
      go_wp2_with (go_at_call 93; refine (HR.out _).mono ?_; rintro e w1 ⟨rfl, hb1⟩)
      go_ret2
      exact ⟨rfl, hb1.alloc hb1.size _⟩
    | some p =>
      obtain ⟨D, E⟩ := p
      rw [parseW_some (by omega) hn]
      obtain ⟨hD, hDl⟩ := numL_all hn
      have HR : Hid (∀ w, Calls Tryz.prog 93 #[.string (bs l)] w fun e w' => (∃ x, Held x E ∧ -41000 ≤ x ∧ x ≤ 41000 ∧ e = .returned (.tuple #[.agg #[.string (bs D), .int .i64 x], .bool true])) ∧ Below w.heap.size w w') := fun w => read_yes l D E w (by omega) hn
      have HX : Hid (∀ x w, Held x E → -41000 ≤ x → x ≤ 41000 → Calls Tryz.prog 94 #[.agg #[.string (bs D), .int .i64 x]] w fun e w' => e = .returned (.int .u64 (decN (dv D 0) E : Nat)) ∧ Below w.heap.size w w') := by
        intro x w h0 h1 h2
        rw [← dec_held (dv_bound hD (by omega)) h0]
        exact nearest_any D x w hD (by omega) h1 h2
      clear hn c hl hD hDl
      generalize bs l = s at *
      clear hsz
      go_enter Tryz.func59, Tryz.ntmps59
      go_wp2_with fail
      refine (HR.out _).mono ?_
      rintro e w1 ⟨⟨x, hx0, hx1, hx2, rfl⟩, hb1⟩
      have HH : Hid (Held x E) := hx0
      clear hx0
      go_wp2_with fail
      refine (HX.out x _ HH.out hx1 hx2).mono ?_
      rintro e w2 ⟨rfl, hb2⟩
      go_wp2
      go_ret2
      exact ⟨rfl, (hb1.alloc hb1.size _).trans (hb2.mono (by have := hb1.size; simp; omega))⟩

end Go.Proofs.YtgbajhenmamjjaaGreatDoor

/-
  Layer 8: the landed Key, Truth, Name, and lives, walked.
-/
namespace Go.Proofs.YtgbajhenmamjjaaGreatDoor
set_option maxRecDepth 100000
open Go.RowKit Flo

theorem same_self {K N : Int} (S : ByteArray) (O : Int) (hN : U64 N) (h : nK K ≠ 0) : sameB (nK K) (nN K N) (nS K S) (nO K O) (nK K) (nN K N) (nS K S) (nO K O) = kok K N := by
  rw [Bool.eq_iff_iff, same_key (nN_u64 hN) (nN_u64 hN), kok_norm, nK_nK]
  constructor
  · rintro (⟨a, _⟩ | ⟨a, _⟩)
    · exact a
    · exact absurd a h
  · intro a
    exact Or.inl ⟨a, a, rfl, rfl, rfl, rfl⟩
theorem key_zero {K N : Int} (S : ByteArray) (O : Int) (h : kok K N = false) : yK K N = 0 ∧ yN K N = 0 ∧ yS K N S = ⟨#[]⟩ ∧ yO K N O = 0 := by
  unfold yK yN yS yO
  rw [h]
  exact ⟨rfl, rfl, rfl, rfl⟩
theorem key_some {K N : Int} (S : ByteArray) (O : Int) (h : kok K N = true) : yK K N = nK K ∧ yN K N = kN K N ∧ yS K N S = nS K S ∧ yO K N O = nO K O := by
  unfold yK yN yS yO
  rw [h]
  exact ⟨rfl, rfl, rfl, rfl⟩
theorem kN_abs {N : Int} (h : mag (nN 3 N) = 0) : absZ (nN 3 N) = 0 := by
  unfold absZ nanB
  rw [h]; rfl

set_option maxHeartbeats 4000000 in
theorem key_any (K N : Int) (S : ByteArray) (O : Int) (w : World) (hN : U64 N) :
    Calls Tryz.prog 4 #[.agg #[.int .i64 K, .int .u64 N, .string S, .int .i64 O]] w fun e w' => e = .returned (.tuple #[.agg #[.int .i64 (yK K N), .int .u64 (yN K N), .string (yS K N S), .int .i64 (yO K N O)], .bool (kok K N)]) ∧ Below w.heap.size w w' := by
  have HN : Hid (∀ w, Calls Tryz.prog 6 #[.agg #[.int .i64 K, .int .u64 N, .string S, .int .i64 O]] w fun e w' => e = .returned (.agg #[.int .i64 (nK K), .int .u64 (nN K N), .string (nS K S), .int .i64 (nO K O)]) ∧ Below w.heap.size w w') := fun w => normal_any K N S O w hN
  have HS : Hid (∀ w, Calls Tryz.prog 15 #[.agg #[.int .i64 (nK K), .int .u64 (nN K N), .string (nS K S), .int .i64 (nO K O)], .agg #[.int .i64 (nK K), .int .u64 (nN K N), .string (nS K S), .int .i64 (nO K O)]] w fun e w' => e = .returned (.bool (sameB (nK K) (nN K N) (nS K S) (nO K O) (nK K) (nN K N) (nS K S) (nO K O))) ∧ Below w.heap.size w w') := fun w => same_any _ _ _ _ _ _ _ _ w (nN_u64 hN) (nN_u64 hN)
  have HKi : Hid (∀ w, Calls Tryz.prog 16 #[.int .u64 (nN K N)] w fun e w' => e = .returned (.int .i64 (kindZ (nN K N))) ∧ w' = w) := fun w => kind_any _ w (nN_u64 hN)
  have HAb : Hid (∀ w, Calls Tryz.prog 17 #[.int .u64 (nN K N)] w fun e w' => e = .returned (.int .u64 (absZ (nN K N))) ∧ w' = w) := fun w => abs_any _ w (nN_u64 hN)
  have HY : Hid (kok K N = false → yK K N = 0 ∧ yN K N = 0 ∧ yS K N S = ⟨#[]⟩ ∧ yO K N O = 0) := key_zero S O
  have HY2 : Hid (kok K N = true → yK K N = nK K ∧ yN K N = kN K N ∧ yS K N S = nS K S ∧ yO K N O = nO K O) := key_some S O
  go_enter Tryz.func4, Tryz.ntmps4
  go_upto_region 1 with fail
  go_cut [3] (fun t wx => t = .bool false ∧ wx.cell? ⟨w.heap.size, 0, none⟩ = some (.int .i64 (nK K)) ∧ wx.cell? ⟨w.heap.size, 1, none⟩ = some (.int .u64 (nN K N)) ∧ wx.cell? ⟨w.heap.size, 2, none⟩ = some (.string (nS K S)) ∧ wx.cell? ⟨w.heap.size, 3, none⟩ = some (.int .i64 (nO K O)) ∧
    wx.cell? ⟨w.heap.size + 1, 0, none⟩ = some (.int .i64 0) ∧ wx.cell? ⟨w.heap.size + 1, 1, none⟩ = some (.int .u64 0) ∧ wx.cell? ⟨w.heap.size + 1, 2, none⟩ = some (.string ⟨#[]⟩) ∧ wx.cell? ⟨w.heap.size + 1, 3, none⟩ = some (.int .i64 0) ∧ (∀ i, wx.frozen? ⟨w.heap.size, i, none⟩ = false) ∧ (∀ i, wx.frozen? ⟨w.heap.size + 1, i, none⟩ = false) ∧ w.heap.size + 1 < wx.heap.size ∧ Hid (Below w.heap.size w wx))
  case first =>
    go_wp2_with fail
    refine (HN.out _).mono ?_
    rintro e wn ⟨rfl, hb⟩
    obtain ⟨hc, hf⟩ := bcell hb
    have hsz := hb.size
    simp at hsz
    have a0 : wn.cell? ⟨w.heap.size, 0, none⟩ = some (.int .i64 K) := by rw [hc _ _ (by simp; try omega)]; simp
    have a1 : wn.cell? ⟨w.heap.size, 1, none⟩ = some (.int .u64 N) := by rw [hc _ _ (by simp; try omega)]; simp
    have a2 : wn.cell? ⟨w.heap.size, 2, none⟩ = some (.string S) := by rw [hc _ _ (by simp; try omega)]; simp
    have a3 : wn.cell? ⟨w.heap.size, 3, none⟩ = some (.int .i64 O) := by rw [hc _ _ (by simp; try omega)]; simp
    have b0 : wn.cell? ⟨w.heap.size + 1, 0, none⟩ = some (.int .i64 0) := by rw [hc _ _ (by simp; try omega)]; simp
    have b1 : wn.cell? ⟨w.heap.size + 1, 1, none⟩ = some (.int .u64 0) := by rw [hc _ _ (by simp; try omega)]; simp
    have b2 : wn.cell? ⟨w.heap.size + 1, 2, none⟩ = some (.string ⟨#[]⟩) := by rw [hc _ _ (by simp; try omega)]; simp
    have b3 : wn.cell? ⟨w.heap.size + 1, 3, none⟩ = some (.int .i64 0) := by rw [hc _ _ (by simp; try omega)]; simp
    have f0 : ∀ i, wn.frozen? ⟨w.heap.size, i, none⟩ = false := fun i => by rw [hf _ _ (by simp; try omega)]; simp
    have f1 : ∀ i, wn.frozen? ⟨w.heap.size + 1, i, none⟩ = false := fun i => by rw [hf _ _ (by simp; try omega)]; simp
    have hB : Below w.heap.size w wn := (((Below.refl _ _).alloc (Nat.le_refl _) _).alloc (by simp) _).trans (hb.mono (by simp; omega))
    have q1 := stored4 wn _ w.heap.size (.int .i64 (nK K)) (.int .u64 (nN K N)) (.string (nS K S)) (.int .i64 (nO K O)) _ _ _ _ a0 a1 a2 a3 rfl
    have hB1 := set4 (i0 := 0) (i1 := 1) (i2 := 2) (i3 := 3) hB (Nat.le_refl _) (.int .i64 (nK K)) (.int .u64 (nN K N)) (.string (nS K S)) (.int .i64 (nO K O))
    go_wp2_with fail
    go_meet
    exact ⟨rfl, q1.1.1, q1.1.2.1, q1.1.2.2.1, q1.1.2.2.2, (q1.2 _ _ (by omega)).trans b0, (q1.2 _ _ (by omega)).trans b1, (q1.2 _ _ (by omega)).trans b2, (q1.2 _ _ (by omega)).trans b3, fun i => by simp [f0], fun i => by simp [f1], by simp; omega, hB1⟩
  case rest =>
    obtain ⟨rfl, a0, a1, a2, a3, b0, b1, b2, b3, f0, f1, hz, HB⟩ := hcut
    have hz0 : w.heap.size < wc.heap.size := by omega
    by_cases h0 : nK K = 0
    · have hk : kok K N = false := by unfold kok; rw [h0]; rfl
      go_wp2
      obtain ⟨y1, y2, y3, y4⟩ := HY.out hk
      exact bodyPost_ret (v := .tuple #[.agg #[.int .i64 0, .int .u64 0, .string ⟨#[]⟩, .int .i64 0], .bool false]) (by simp [results, Tryz.results4, go_sem, b0, b1, b2, b3]) rfl ⟨by rw [y1, y2, y3, y4, hk], set4 HB.out (by omega) _ _ _ _⟩
    · have hb0 : (nK K == 0) = false := by simpa using h0
      have hs := same_self S O hN h0
      rw [hs] at HS
      clear hs
      cases hk : kok K N
      · rw [hk] at HS
        go_wp2_with fail
        refine (HS.out _).mono ?_
        rintro e w1 ⟨rfl, hb⟩
        obtain ⟨hc, hf⟩ := bcell hb
        have k0 := (hc _ 0 hz).trans b0
        have k1 := (hc _ 1 hz).trans b1
        have k2 := (hc _ 2 hz).trans b2
        have k3 := (hc _ 3 hz).trans b3
        have kf : ∀ i, w1.frozen? ⟨w.heap.size + 1, i, none⟩ = false := fun i => (hf _ i hz).trans (f1 i)
        have HB1 : Hid (Below w.heap.size w w1) := HB.out.trans (hb.mono (by omega))
        go_wp2
        obtain ⟨y1, y2, y3, y4⟩ := HY.out hk
        exact bodyPost_ret (v := .tuple #[.agg #[.int .i64 0, .int .u64 0, .string ⟨#[]⟩, .int .i64 0], .bool false]) (by simp [results, Tryz.results4, go_sem, k0, k1, k2, k3]) rfl ⟨by rw [y1, y2, y3, y4, hk], set4 HB1.out (by omega) _ _ _ _⟩
      · rw [hk] at HS
        go_wp2_with fail
        refine (HS.out _).mono ?_
        rintro e w1 ⟨rfl, hb⟩
        obtain ⟨hc, hf⟩ := bcell hb
        have k0 := (hc _ 0 hz).trans b0
        have k1 := (hc _ 1 hz).trans b1
        have k2 := (hc _ 2 hz).trans b2
        have k3 := (hc _ 3 hz).trans b3
        have kf : ∀ i, w1.frozen? ⟨w.heap.size + 1, i, none⟩ = false := fun i => (hf _ i hz).trans (f1 i)
        have j0 := (hc _ 0 hz0).trans a0
        have j1 := (hc _ 1 hz0).trans a1
        have j2 := (hc _ 2 hz0).trans a2
        have j3 := (hc _ 3 hz0).trans a3
        have jf : ∀ i, w1.frozen? ⟨w.heap.size, i, none⟩ = false := fun i => (hf _ i hz0).trans (f0 i)
        have HB1 : Hid (Below w.heap.size w w1) := HB.out.trans (hb.mono (by omega))
        have HYY : Hid (yK K N = nK K ∧ yN K N = kN K N ∧ yS K N S = nS K S ∧ yO K N O = nO K O) := HY2.out hk
        have HK : Hid (kok K N = true) := hk
        clear hb hc hf a0 a1 a2 a3 b0 b1 b2 b3 f0 f1 hz hz0 HB HN HS HY HY2 hk
        by_cases h3 : nK K = 3
        · have hK3 : K = 3 := (nK_3 K).1 h3
          have hkz := kind_zero (nN K N)
          by_cases hm : mag (nN K N) = 0
          · have HM : Hid (kN K N = 0) := if_pos hm
            have HA : Hid (absZ (nN K N) = 0) := by have := kN_abs (N := N); rw [hK3] at hm ⊢; exact this hm
            rw [decide_eq_true hm] at hkz
            clear hm hK3
            go_wp2_with fail
            refine (HKi.out _).mono ?_
            rintro e w' ⟨rfl, rfl⟩
            go_wp2_with fail
            refine (HAb.out _).mono ?_
            rintro e w' ⟨rfl, rfl⟩
            rw [HA.out]
            go_wp2
            obtain ⟨y1, y2, y3, y4⟩ := HYY.out
            exact bodyPost_ret (v := .tuple #[.agg #[.int .i64 3, .int .u64 0, .string (nS K S), .int .i64 (nO K O)], .bool true]) (by simp [results, Tryz.results4, go_sem, k0, k1, k2, k3]) rfl ⟨by rw [y1, h3, y2, y3, y4, HM.out, HK.out], set4 (HB1.out.setCell (p := ⟨w.heap.size, 1, none⟩) (Nat.le_refl _) _) (by omega) _ _ _ _⟩
          · have HM : Hid (kN K N = nN K N) := if_neg hm
            rw [decide_eq_false hm] at hkz
            clear hm hK3
            go_wp2_with fail
            refine (HKi.out _).mono ?_
            rintro e w' ⟨rfl, rfl⟩
            go_wp2
            obtain ⟨y1, y2, y3, y4⟩ := HYY.out
            exact bodyPost_ret (v := .tuple #[.agg #[.int .i64 3, .int .u64 (nN K N), .string (nS K S), .int .i64 (nO K O)], .bool true]) (by simp [results, Tryz.results4, go_sem, k0, k1, k2, k3]) rfl ⟨by rw [y1, h3, y2, y3, y4, HM.out, HK.out], set4 HB1.out (by omega) _ _ _ _⟩
        · have h3b : (nK K == 3) = false := by simpa using h3
          have HM : Hid (kN K N = nN K N) := by
            have := kN_plain N (fun e : K = 3 => h3 ((nK_3 K).2 e))
            rw [this.1, this.2]; exact rfl
          go_wp2
          obtain ⟨y1, y2, y3, y4⟩ := HYY.out
          exact bodyPost_ret (v := .tuple #[.agg #[.int .i64 (nK K), .int .u64 (nN K N), .string (nS K S), .int .i64 (nO K O)], .bool true]) (by simp [results, Tryz.results4, go_sem, k0, k1, k2, k3]) rfl ⟨by rw [y1, y2, y3, y4, HM.out, HK.out], set4 HB1.out (by omega) _ _ _ _⟩

set_option maxHeartbeats 1000000 in
theorem truth_any (K N : Int) (S : ByteArray) (O : Int) (w : World) (hN : U64 N) :
    Calls Tryz.prog 8 #[.agg #[.int .i64 K, .int .u64 N, .string S, .int .i64 O]] w fun e w' => e = .returned (.bool (decide (2 ≤ nK K))) ∧ Below w.heap.size w w' := by
  have HN : Hid (∀ w, Calls Tryz.prog 6 #[.agg #[.int .i64 K, .int .u64 N, .string S, .int .i64 O]] w fun e w' => e = .returned (.agg #[.int .i64 (nK K), .int .u64 (nN K N), .string (nS K S), .int .i64 (nO K O)]) ∧ Below w.heap.size w w') := fun w => normal_any K N S O w hN
  obtain ⟨g1, g2⟩ := nK_bd K
  go_enter Tryz.func8, Tryz.ntmps8
  go_upto_region 1 with fail
  go_cut [2] (fun t wx => t = .bool false ∧ wx.cell? ⟨w.heap.size, 0, none⟩ = some (.int .i64 (nK K)) ∧ Hid (Below w.heap.size w wx))
  case first =>
    go_wp2_with fail
    refine (HN.out _).mono ?_
    rintro e wn ⟨rfl, hb⟩
    obtain ⟨hc, hf⟩ := bcell hb
    have hsz := hb.size
    simp at hsz
    have a0 : wn.cell? ⟨w.heap.size, 0, none⟩ = some (.int .i64 K) := by rw [hc _ _ (by simp; try omega)]; simp
    have a1 : wn.cell? ⟨w.heap.size, 1, none⟩ = some (.int .u64 N) := by rw [hc _ _ (by simp; try omega)]; simp
    have a2 : wn.cell? ⟨w.heap.size, 2, none⟩ = some (.string S) := by rw [hc _ _ (by simp; try omega)]; simp
    have a3 : wn.cell? ⟨w.heap.size, 3, none⟩ = some (.int .i64 O) := by rw [hc _ _ (by simp; try omega)]; simp
    have hB : Below w.heap.size w wn := ((Below.refl _ _).alloc (Nat.le_refl _) _).trans (hb.mono (by simp))
    have q1 := stored4 wn _ w.heap.size (.int .i64 (nK K)) (.int .u64 (nN K N)) (.string (nS K S)) (.int .i64 (nO K O)) _ _ _ _ a0 a1 a2 a3 rfl
    have hB1 := set4 (i0 := 0) (i1 := 1) (i2 := 2) (i3 := 3) hB (Nat.le_refl _) (.int .i64 (nK K)) (.int .u64 (nN K N)) (.string (nS K S)) (.int .i64 (nO K O))
    go_wp2_with fail
    go_meet
    exact ⟨rfl, q1.1.1, hB1⟩
  case rest =>
    obtain ⟨rfl, a0, HB⟩ := hcut
    by_cases h0 : nK K = 0
    · have HV : Hid (decide (2 ≤ nK K) = false) := decide_eq_false (by omega)
      go_wp2
      go_ret
      exact ⟨ret_bool HV.out.symm, HB.out⟩
    · by_cases h1 : nK K = 1
      · have HV : Hid (decide (2 ≤ nK K) = false) := decide_eq_false (by omega)
        go_wp2
        go_ret
        exact ⟨ret_bool HV.out.symm, HB.out⟩
      · have HV : Hid (decide (2 ≤ nK K) = true) := decide_eq_true (by omega)
        have hb0 : (nK K != 0) = true := by simpa using h0
        have hb1 : (nK K != 1) = true := by simpa using h1
        go_wp2
        go_ret
        exact ⟨ret_bool HV.out.symm, HB.out⟩

end Go.Proofs.YtgbajhenmamjjaaGreatDoor

/-
  Layer 8: the landed Name, and lives, walked.
-/
namespace Go.Proofs.YtgbajhenmamjjaaGreatDoor
set_option maxRecDepth 100000
open Go.RowKit Flo

/-- The names of the kinds. -/
def nms : List ByteArray := [⟨#[110, 105, 108]⟩, ⟨#[98, 111, 111, 108, 101, 97, 110]⟩, ⟨#[98, 111, 111, 108, 101, 97, 110]⟩, ⟨#[110, 117, 109, 98, 101, 114]⟩, ⟨#[115, 116, 114, 105, 110, 103]⟩, ⟨#[116, 97, 98, 108, 101]⟩, ⟨#[102, 117, 110, 99, 116, 105, 111, 110]⟩, ⟨#[116, 104, 114, 101, 97, 100]⟩, ⟨#[102, 117, 110, 99, 116, 105, 111, 110]⟩]
def nmOf (k : Int) : ByteArray := nms.getD k.toNat ⟨#[]⟩
/-- The table of names lies in block 0. -/
def Nb (w : World) : Prop := 0 < w.heap.size ∧ ∀ r, r < 9 → w.cell? ⟨0, r, none⟩ = some (.string (nms.getD r ⟨#[]⟩))
theorem Nb.below {w w' : World} {B : Nat} (h : Nb w) (hg : Below B w w') (hB : 0 < B) : Nb w' := ⟨Nat.lt_of_lt_of_le h.1 hg.size, fun r hr => (hg.cell hB).trans (h.2 r hr)⟩

theorem field0 (k n o : Int) (s : ByteArray) (w : World) : Sem.run Tryz.prog (Instr.field 25 (.agg #[.int .i64 k, .int .u64 n, .string s, .int .i64 o]) 0) w = .ok (.int .i64 k) w := by kernel_rfl

set_option maxHeartbeats 1000000 in
theorem name_any (K N : Int) (S : ByteArray) (O : Int) (w : World) (hN : U64 N) (hT : Nb w) :
    Calls Tryz.prog 10 #[.agg #[.int .i64 K, .int .u64 N, .string S, .int .i64 O]] w fun e w' => e = .returned (.string (nmOf (nK K))) ∧ Below w.heap.size w w' := by
  have HN : Hid (∀ w, Calls Tryz.prog 6 #[.agg #[.int .i64 K, .int .u64 N, .string S, .int .i64 O]] w fun e w' => e = .returned (.agg #[.int .i64 (nK K), .int .u64 (nN K N), .string (nS K S), .int .i64 (nO K O)]) ∧ Below w.heap.size w w') := fun w => normal_any K N S O w hN
  obtain ⟨g1, g2⟩ := nK_bd K
  obtain ⟨r, hr⟩ := Int.eq_ofNat_of_zero_le g1
  have hnm : nmOf (nK K) = nms.getD r ⟨#[]⟩ := by unfold nmOf; rw [hr]; rfl
  rw [hnm]
  rw [hr] at HN g2
  have hr8 : r < 9 := by omega
  clear hnm hr g1
  generalize hx : nms.getD r ⟨#[]⟩ = X
  have hcell := hT.2 r hr8
  rw [hx] at hcell
  have h00 := hT.1
  clear hx
  go_enter Tryz.func10, Tryz.ntmps10
  go_wp2_with fail
  refine (HN.out _).mono ?_
  rintro e wn ⟨rfl, hb⟩
  have hB : Below w.heap.size w wn := ((Below.refl _ _).alloc (Nat.le_refl _) _).trans (hb.mono (by simp))
  have hc2 : wn.cell? ⟨0, r, none⟩ = some (.string X) := (hB.cell (p := ⟨0, r, none⟩) h00).trans hcell
  have HB : Hid (Below w.heap.size w wn) := hB
  have hfd := fun w => field0 r (nN K N) (nO K O) (nS K S) w
  clear hB hb
  go_wp2
  go_ret
  exact ⟨rfl, HB.out⟩

theorem vbool_true (w : World) : Calls Tryz.prog 26 #[.bool true] w fun e w' => e = .returned (.agg #[.int .i64 2, .int .u64 0, .string ⟨#[]⟩, .int .i64 0]) ∧ Below w.heap.size w w' := by
  go_enter Tryz.func26, Tryz.ntmps26
  go_wp2
  exact bodyPost_ret (v := .agg #[.int .i64 2, .int .u64 0, .string ⟨#[]⟩, .int .i64 0]) (by simp [results, Tryz.results26, go_sem]) rfl ⟨rfl, (Below.refl _ _).alloc (Nat.le_refl _) _⟩

theorem near_3_2 : nearR 15 10 = 4609434218613702656 := by
  rw [← near_bits (A := 15) (B := 10) (k := 53) (by decide) (by decide) (by decide +kernel)]
  decide +kernel
theorem parse_3_2 : parseW [49, 46, 53] = (4609434218613702656, 0) := by
  rw [parseW_some (by decide) (show Txt.numL [49, 46, 53] = some ([49, 53], -1) by decide +kernel)]
  have e0 : Txt.dv [49, 53] 0 = 15 := by decide
  have e : decN 15 (-1) = nearR 15 10 := by unfold decN; rw [if_neg (by decide), show (-(-1 : Int)).toNat = 1 from rfl, Nat.pow_one]
  rw [e0, e, near_3_2]

theorem ex_3_2 : ((⟨#[45, 49, 46, 53]⟩ : ByteArray).extract 0 1).toList = [45] := by decide +kernel
theorem pre_3_2 (w : World) : Calls Tryz.prog 102 #[.string ⟨#[45, 49, 46, 53]⟩, .string ⟨#[45]⟩] w fun e w' => e = .returned (.bool true) ∧ w' = w := by
  have hx := ex_3_2
  go_enter Tryz.func102, Tryz.ntmps102
  go_wp2
  go_ret
  exact ⟨rfl, rfl⟩
theorem cutl_3_2 (w : World) : Calls Tryz.prog 92 #[.string ⟨#[45, 49, 46, 53]⟩, .string ⟨#[45]⟩] w fun e w' => e = .returned (.tuple #[.string ⟨#[49, 46, 53]⟩, .bool true]) ∧ w' = w := by
  go_enter Tryz.func92, Tryz.ntmps92
  go_wp2_with fail
  refine (pre_3_2 _).mono ?_
  rintro e w0 ⟨rfl, rfl⟩
  go_wp2
  go_ret2
  exact ⟨rfl, rfl⟩
theorem cut_3_2 (w : World) : Calls Tryz.prog 58 #[.string ⟨#[45, 49, 46, 53]⟩, .string ⟨#[45]⟩] w fun e w' => e = .returned (.tuple #[.string ⟨#[49, 46, 53]⟩, .bool true]) ∧ w' = w := by
  go_enter Tryz.func58, Tryz.ntmps58
  go_wp2_with fail
  refine (cutl_3_2 _).mono ?_
  rintro e w0 ⟨rfl, rfl⟩
  go_wp2
  go_ret2
  exact ⟨rfl, rfl⟩

set_option maxHeartbeats 1000000 in
theorem vread_3_2 (w : World) : Calls Tryz.prog 38 #[.string ⟨#[45, 49, 46, 53]⟩] w fun e w' => e = .returned (.tuple #[.int .u64 13832806255468478464, .bool true]) ∧ Below w.heap.size w w' := by
  have HP : Hid (∀ w, Calls Tryz.prog 59 #[.string ⟨#[49, 46, 53]⟩] w fun e w' => e = .returned (.tuple #[.int .u64 4609434218613702656, .int .i64 0]) ∧ Below w.heap.size w w') := fun w => by
    have h := parse_any [49, 46, 53] w (by unfold maxLen; decide)
    rw [parse_3_2] at h
    exact h
  have HNeg : Hid (∀ w, Calls Tryz.prog 60 #[.int .u64 4609434218613702656] w fun e w' => e = .returned (.int .u64 13832806255468478464) ∧ w' = w) := fun w => neg_any 4609434218613702656 w ⟨by decide, by decide⟩
  go_enter Tryz.func38, Tryz.ntmps38
  go_wp2_with fail
  refine (cut_3_2 _).mono ?_
  rintro e w0 ⟨rfl, rfl⟩
  go_wp2_with fail
  refine (HP.out _).mono ?_
  rintro e w1 ⟨rfl, hb1⟩
  go_wp2_with fail
  refine (HNeg.out _).mono ?_
  rintro e w2 ⟨rfl, rfl⟩
  go_wp2
  go_ret2
  exact ⟨rfl, hb1⟩

set_option maxHeartbeats 1000000 in
theorem toNum_3_2 (w : World) : Calls Tryz.prog 25 #[.agg #[.int .i64 4, .int .u64 0, .string ⟨#[45, 49, 46, 53]⟩, .int .i64 0]] w fun e w' => e = .returned (.tuple #[.int .u64 13832806255468478464, .bool true]) ∧ Below w.heap.size w w' := by
  go_enter Tryz.func25, Tryz.ntmps25
  go_wp2_with fail
  refine (vread_3_2 _).mono ?_
  rintro e w1 ⟨rfl, hb1⟩
  go_wp2
  go_ret2
  exact ⟨rfl, ((Below.refl _ _).alloc (Nat.le_refl _) _).trans (hb1.mono (by simp))⟩

set_option maxHeartbeats 1000000 in
theorem vlives_any (w : World) (hT : Nb w) : Calls Tryz.prog 14 #[] w fun e w' => e = .returned (.bool true) ∧ Below w.heap.size w w' := by
  have HTx : Hid (Nb w) := hT
  have h00 := hT.1
  have HNm : Hid (∀ w, Nb w → Calls Tryz.prog 10 #[.agg #[.int .i64 2, .int .u64 0, .string ⟨#[]⟩, .int .i64 0]] w fun e w' => e = .returned (.string ⟨#[98, 111, 111, 108, 101, 97, 110]⟩) ∧ Below w.heap.size w w') := fun w h => name_any 2 0 ⟨#[]⟩ 0 w ⟨by decide, by decide⟩ h
  have HTr : Hid (∀ w, Calls Tryz.prog 8 #[.agg #[.int .i64 3, .int .u64 0, .string ⟨#[]⟩, .int .i64 0]] w fun e w' => e = .returned (.bool true) ∧ Below w.heap.size w w') := fun w => truth_any 3 0 ⟨#[]⟩ 0 w ⟨by decide, by decide⟩
  clear hT
  go_enter Tryz.func14, Tryz.ntmps14
  go_wp2_with fail
  refine (vtext_any _ _).mono ?_
  rintro e w1 ⟨rfl, hb1⟩
  go_wp2_with fail
  refine (toNum_3_2 _).mono ?_
  rintro e w2 ⟨rfl, hb2⟩
  have hB2 := hb1.trans (hb2.mono hb1.size)
  clear hb1 hb2
  go_wp2_with fail
  refine (vbool_true _).mono ?_
  rintro e w3 ⟨rfl, hb3⟩
  have hB3 := hB2.trans (hb3.mono hB2.size)
  go_wp2_with fail
  refine (HNm.out _ (HTx.out.below hB3 h00)).mono ?_
  rintro e w4 ⟨rfl, hb4⟩
  have hB4 := hB3.trans (hb4.mono hB3.size)
  go_wp2_with fail
  refine (vnum_any _ _).mono ?_
  rintro e w5 ⟨rfl, hb5⟩
  have hB5 := hB4.trans (hb5.mono hB4.size)
  go_wp2_with fail
  refine (HTr.out _).mono ?_
  rintro e w6 ⟨rfl, hb6⟩
  have HB6 : Hid (Below w.heap.size w w6) := hB5.trans (hb6.mono hB5.size)
  clear hb6
  go_wp2
  go_ret
  exact ⟨rfl, HB6.out⟩

end Go.Proofs.YtgbajhenmamjjaaGreatDoor

/-
  What the rows' readings give the walks of layer 8: the table of names, values that came in.
-/
namespace Go.Proofs.YtgbajhenmamjjaaGreatDoor
set_option maxRecDepth 100000
open Go.ChangeShapes Go.WideShapes Go.ChangeAt Go.RowKit Flo

theorem ownKnob_none : ownKnob Tryz.prog.godebug = none := by kernel_rfl
theorem laidOut : laidOutB Tryz.prog = true := by kernel_rfl
theorem gNames : Tryz.prog.globalNamed "minstrel/value.names" = some 0 := by kernel_rfl
theorem gNamesType : (Tryz.prog.globals[0]?).map (·.type) = some 37 := by kernel_rfl
theorem cellsNames : Tryz.prog.cellsOf 37 = 9 := by kernel_rfl
theorem cellsText : Tryz.prog.cellsOf 9 = 1 := by kernel_rfl

/-- An array of texts that reads as a list of texts holds them, cell for cell. -/
theorem texts_of {H : Type} {enc : TypeId × Value → H} {P : Program} {w : World} {base : Nat} {sp : Nat → Bool} {held : Bool} {fuel : Nat} {t e : TypeId} {n : Nat} {cs : List Value} {ds : List (DataW H)} {p : List MemPlace}
    (ht : P.underlying t = some (.array n e)) (he : P.underlying e = some .string) (hce : P.cellsOf e = 1) (hct : P.cellsOf t = n)
    (h : DataW.trod enc P w base sp held fuel t cs = some (.agg ds, p)) (i : Nat) (hi : i < n) : ∃ s : ByteArray, cs[i]? = some (.string s) ∧ ds[i]? = some (.lit (.string s.data.toList)) := by
  cases fuel with
  | zero => simp [DataW.trod] at h
  | succ fuel =>
    simp only [DataW.trod, ht, hce, hct, Nat.mul_one] at h
    split at h
    · obtain ⟨xs, hm, hx⟩ := Option.map_eq_some_iff.1 h
      have hxs : xs.map (·.1) = ds := by
        have := congrArg Prod.fst hx
        simpa using this
      obtain ⟨b, hb, hf⟩ := Lib.mapM_at hm i i (by simp [hi])
      obtain ⟨s, hc, rfl, _⟩ := DataW.trod_string he hf
      refine ⟨s, ?_, ?_⟩
      · have := congrArg (·[0]?) hc
        simpa [List.getElem?_take, List.getElem?_drop] using this
      · rw [← hxs]; simp [hb]
    · cases h

def laidNames : List (String × DataW Unit) := [("minstrel/value.names", Rows.laid_minstrel_value_names)]
theorem laid_at : ∀ i, i < 9 → ∃ l : List UInt8, (match (Rows.laid_minstrel_value_names : DataW Unit) with | .agg ds => ds[i]? | _ => none) = some (.lit (.string l)) ∧ nms.getD i ⟨#[]⟩ = ⟨l.toArray⟩ := by
  intro i hi
  have : i = 0 ∨ i = 1 ∨ i = 2 ∨ i = 3 ∨ i = 4 ∨ i = 5 ∨ i = 6 ∨ i = 7 ∨ i = 8 := by omega
  rcases this with rfl | rfl | rfl | rfl | rfl | rfl | rfl | rfl | rfl <;> exact ⟨_, rfl, rfl⟩
/-- What the row's list gives: the table's cells. -/
theorem names {W : World} (h : laidMetH Tryz.prog laidNames W) : Nb W := by
  obtain ⟨ps, ⟨g', t', cs, fuel, p, q, hg', ht', hvar, hd, _, _⟩, _⟩ := h
  obtain rfl := Option.some.inj (gNames.symm.trans hg')
  obtain rfl := Option.some.inj (gNamesType.symm.trans ht')
  have key : ∀ r, r < 9 → W.cell? ⟨0, r, none⟩ = some (.string (nms.getD r ⟨#[]⟩)) := by
    intro r hr
    obtain ⟨s, h1, h2⟩ := texts_of Tryz.underlying37 Tryz.underlying9 cellsText cellsNames hd r hr
    obtain ⟨l, h3, h4⟩ := laid_at r hr
    have e : s = ⟨l.toArray⟩ := by
      have h5 : (DataW.lit (.string s.data.toList) : DataW Unit) = .lit (.string l) := Option.some.inj (h2.symm.trans h3)
      have h6 : s.data.toList = l := by simpa using h5
      cases s
      rw [← h6]
    have h7 := World.var?_cell gNames hvar r
    rw [h4, ← e, h7]
    simpa using h1
  exact ⟨World.block_lt_of_cell? W ⟨0, 0, none⟩ (key 0 (by decide)), key⟩

theorem value_types : Tryz.prog.cellTypes Tryz.prog.depth 25 = some [3, 23, 9, 3] := by kernel_rfl
theorem value_cells : Tryz.prog.cellsOf 25 = 4 := by kernel_rfl
theorem array_four {cs : Array Value} (h : cs.size = 4) : ∃ x0 x1 x2 x3, cs = #[x0, x1, x2, x3] := by
  obtain ⟨l⟩ := cs
  match l, h with
  | [x0, x1, x2, x3], _ => exact ⟨x0, x1, x2, x3, rfl⟩
theorem cell_int8 {P : Program} {W : World} {base : Nat} {t : TypeId} {k : IntKind} {v : Value} (ht : P.underlying t = some (.int k)) (h : Cell.okWide P W .any base t v) : ∃ n, v = .int k n ∧ k.has n := by
  simp only [Cell.okWide, ht] at h
  cases v <;> simp_all [Cell.ok]
theorem cell_text8 {P : Program} {W : World} {base : Nat} {t : TypeId} {v : Value} (ht : P.underlying t = some .string) (h : Cell.okWide P W .any base t v) : ∃ s, v = .string s ∧ s.size ≤ maxLen := by
  simp only [Cell.okWide, ht] at h
  cases v <;> simp_all [Cell.ok]
  unfold maxLen
  omega
/-- A value that came in. -/
theorem open_value {W : World} {base : Nat} {v : Value} (hval : Value.okWide Tryz.prog W .any base 25 v) :
    ∃ (K N : Int) (S : ByteArray) (O : Int), v = .agg #[.int .i64 K, .int .u64 N, .string S, .int .i64 O] ∧ U64 N ∧ S.size ≤ maxLen := by
  simp only [Value.okWide, Tryz.underlying25] at hval
  obtain ⟨cs, rfl, hsz, ts, hts, _, hrow⟩ := hval
  rw [value_types] at hts
  obtain rfl := Option.some.inj hts
  obtain ⟨x0, x1, x2, x3, rfl⟩ := array_four (hsz.trans value_cells)
  obtain ⟨u0, e0, c0⟩ := hrow 0 x0 rfl
  obtain ⟨u1, e1, c1⟩ := hrow 1 x1 rfl
  obtain ⟨u2, e2, c2⟩ := hrow 2 x2 rfl
  obtain ⟨u3, e3, c3⟩ := hrow 3 x3 rfl
  obtain rfl : 3 = u0 := Option.some.inj e0
  obtain rfl : 23 = u1 := Option.some.inj e1
  obtain rfl : 9 = u2 := Option.some.inj e2
  obtain rfl : 3 = u3 := Option.some.inj e3
  obtain ⟨n0, rfl, b0⟩ := cell_int8 Tryz.underlying3 c0
  obtain ⟨n1, rfl, b1⟩ := cell_int8 Tryz.underlying23 c1
  obtain ⟨n2, rfl, b2⟩ := cell_text8 Tryz.underlying9 c2
  obtain ⟨n3, rfl, b3⟩ := cell_int8 Tryz.underlying3 c3
  simp [IntKind.has, IntKind.min, IntKind.max, IntKind.signed, IntKind.bits] at b1
  exact ⟨n0, n1, n2, n3, rfl, ⟨by omega, by omega⟩, b2⟩

end Go.Proofs.YtgbajhenmamjjaaGreatDoor

/-
  The landed within and the closure of digits, walked.
-/
namespace Go.Proofs.YtgbajhenmamjjaaGreatDoor
set_option maxRecDepth 100000
open Go.RowKit Pt

/-- Whether x is within the room y. -/
def wit (ed : Bool) (x y : Nat) : Bool := decide (x < y) || (decide (x = y) && ed)

set_option maxHeartbeats 1000000 in
theorem within_any (b g h x y : Nat) (v u : Value) (ed : Bool) (w : World) (hR : PR w g v x) (hS : PR w h u y) (hc : w.cell? ⟨b, 4, none⟩ = some (.bool ed)) :
    Calls Tryz.prog 69 #[.pointer (some ⟨b, 0, none⟩), v, u] w fun e w' => e = .returned (.bool (wit ed x y)) ∧ ∃ q, w' = w.drewN q := by
  have HC : Hid (Calls Tryz.prog 66 #[v, u] w fun e w' => e = .returned (.int .i64 (cmpI x y)) ∧ ∃ q, w' = w.drewN q) := compare_any v u g h x y w hR hS
  unfold wit
  rcases Nat.lt_trichotomy x y with c | c | c
  · rw [cmpI_lt c] at HC
    rw [decide_eq_true c, Bool.true_or]
    clear c
    go_enter Tryz.func69, Tryz.ntmps69
    go_wp2_with (go_at_call 66; refine HC.out.mono ?_; rintro e w' ⟨rfl, q, rfl⟩)
    go_ret
    exact ⟨rfl, q, rfl⟩
  · rw [cmpI_eq c] at HC
    rw [decide_eq_false (by omega), decide_eq_true c, Bool.false_or, Bool.true_and]
    clear c
    go_enter Tryz.func69, Tryz.ntmps69
    go_wp2_with (go_at_call 66; refine HC.out.mono ?_; rintro e w' ⟨rfl, q, rfl⟩)
    go_ret
    exact ⟨rfl, q, rfl⟩
  · rw [cmpI_gt c] at HC
    rw [decide_eq_false (by omega), decide_eq_false (by omega), Bool.false_and, Bool.or_false]
    clear c
    go_enter Tryz.func69, Tryz.ntmps69
    go_wp2_with (go_at_call 66; refine HC.out.mono ?_; rintro e w' ⟨rfl, q, rfl⟩)
    go_ret
    exact ⟨rfl, q, rfl⟩

theorem cm_hid {w wq : World} {nq : Nat} {a : Addr} {v : Value} (h : wq = w.drewN nq) (hc : w.cell? a = some v) : Hid (wq.cell? a = some v) := by rw [h]; exact hc
/-- Whether a digit may be one more. -/
def moreB (ed st : Bool) (lack T A d : Nat) : Bool := wit ed lack A && (!st || decide (lack < T) || (decide (lack = T) && decide (d % 2 = 1)))

set_option maxHeartbeats 4000000 in
theorem more_any (bl bx bd bm b gl g0 g3 lack T A d : Nat) (vl v0 v3 : Value) (ed st : Bool) (w : World) (hd : d ≤ 100)
    (cl : w.cell? ⟨bl, 0, none⟩ = some vl) (cx : w.cell? ⟨bx, 0, none⟩ = some (.pointer (some ⟨b, 0, none⟩))) (cd : w.cell? ⟨bd, 0, none⟩ = some (.int .u8 (d : Int))) (cm : w.cell? ⟨bm, 0, none⟩ = some (.bool st))
    (c0 : w.cell? ⟨b, 0, none⟩ = some v0) (c3 : w.cell? ⟨b, 3, none⟩ = some v3) (c4 : w.cell? ⟨b, 4, none⟩ = some (.bool ed))
    (hl : PR w gl vl lack) (h0 : PR w g0 v0 T) (h3 : PR w g3 v3 A) :
    Calls Tryz.prog 70 #[.pointer (some ⟨bl, 0, none⟩), .pointer (some ⟨bx, 0, none⟩), .pointer (some ⟨bd, 0, none⟩), .pointer (some ⟨bm, 0, none⟩)] w fun e w' => e = .returned (.bool (moreB ed st lack T A d)) ∧ ∃ q, w' = w.drewN q := by
  have HC : Hid (∀ q, Calls Tryz.prog 66 #[vl, v0] (w.drewN q) fun e w' => e = .returned (.int .i64 (cmpI lack T)) ∧ ∃ q2, w' = (w.drewN q).drewN q2) := fun q => compare_any _ _ gl g0 lack T _ hl h0
  have HW : Hid (∀ q, Calls Tryz.prog 69 #[.pointer (some ⟨b, 0, none⟩), vl, v3] (w.drewN q) fun e w' => e = .returned (.bool (wit ed lack A)) ∧ ∃ q2, w' = (w.drewN q).drewN q2) := fun q => within_any b gl g3 lack A _ _ ed _ hl h3 c4
  clear hl h0 h3
  unfold moreB
  obtain ⟨ci, hci⟩ : ∃ ci, ci = cmpI lack T := ⟨_, rfl⟩
  obtain ⟨wt, hwt⟩ : ∃ wt, wt = wit ed lack A := ⟨_, rfl⟩
  rw [← hci] at HC
  rw [← hwt] at HW ⊢
  clear hwt
  have hcase : (wt = false) ∨ (wt = true ∧ st = false) ∨ (wt = true ∧ st = true ∧ lack < T) ∨ (wt = true ∧ st = true ∧ lack = T ∧ d % 2 = 1) ∨ (wt = true ∧ st = true ∧ lack = T ∧ d % 2 = 0) ∨ (wt = true ∧ st = true ∧ T < lack) := by
    cases wt <;> cases st <;> simp <;> omega
  rcases hcase with rfl | ⟨rfl, rfl⟩ | ⟨rfl, rfl, c⟩ | ⟨rfl, rfl, c, k⟩ | ⟨rfl, rfl, c, k⟩ | ⟨rfl, rfl, c⟩
  · rw [Bool.false_and]
    clear hci
    go_enter Tryz.func70, Tryz.ntmps70
    go_wp2_with fail
    go_quiet ((go_at_call 66; exact Calls.quiet_of (HC.out _)))
    obtain ⟨wq, hwq⟩ : ∃ wq, wq = w.drewN nq := ⟨_, rfl⟩
    have cl' : wq.cell? ⟨bl, 0, none⟩ = some vl := by rw [hwq]; exact cl
    have cx' : wq.cell? ⟨bx, 0, none⟩ = some (.pointer (some ⟨b, 0, none⟩)) := by rw [hwq]; exact cx
    have cd' : wq.cell? ⟨bd, 0, none⟩ = some (.int .u8 (d : Int)) := by rw [hwq]; exact cd
    have c3' : wq.cell? ⟨b, 3, none⟩ = some v3 := by rw [hwq]; exact c3
    have HWQ := cm_hid hwq cm
    have HW2 : Hid (∀ q, Calls Tryz.prog 69 #[.pointer (some ⟨b, 0, none⟩), vl, v3] (wq.drewN q) fun e w' => e = .returned (.bool false) ∧ ∃ q2, w' = (wq.drewN q).drewN q2) := fun q => by rw [hwq, World.drewN_drewN]; exact HW.out _
    have HE : Hid (∀ t, ∃ q, wq.drewN t = w.drewN q) := fun t => ⟨nq + t, by rw [hwq, World.drewN_drewN]⟩
    have cm' := HWQ.out
    rw [← hwq]
    clear cl cx cd cm c3 hwq c0 c4 HW HC HWQ
    go_wp2_with fail
    go_quiet ((go_at_call 69; exact Calls.quiet_of (HW2.out _)))
    go_wp2
    go_ret
    exact ⟨by first | rfl | simp, HE.out _⟩
  · rw [Bool.true_and, Bool.not_false, Bool.true_or, Bool.true_or]
    clear hci
    go_enter Tryz.func70, Tryz.ntmps70
    go_wp2_with fail
    go_quiet ((go_at_call 66; exact Calls.quiet_of (HC.out _)))
    obtain ⟨wq, hwq⟩ : ∃ wq, wq = w.drewN nq := ⟨_, rfl⟩
    have cl' : wq.cell? ⟨bl, 0, none⟩ = some vl := by rw [hwq]; exact cl
    have cx' : wq.cell? ⟨bx, 0, none⟩ = some (.pointer (some ⟨b, 0, none⟩)) := by rw [hwq]; exact cx
    have cd' : wq.cell? ⟨bd, 0, none⟩ = some (.int .u8 (d : Int)) := by rw [hwq]; exact cd
    have c3' : wq.cell? ⟨b, 3, none⟩ = some v3 := by rw [hwq]; exact c3
    have HWQ := cm_hid hwq cm
    have HW2 : Hid (∀ q, Calls Tryz.prog 69 #[.pointer (some ⟨b, 0, none⟩), vl, v3] (wq.drewN q) fun e w' => e = .returned (.bool true) ∧ ∃ q2, w' = (wq.drewN q).drewN q2) := fun q => by rw [hwq, World.drewN_drewN]; exact HW.out _
    have HE : Hid (∀ t, ∃ q, wq.drewN t = w.drewN q) := fun t => ⟨nq + t, by rw [hwq, World.drewN_drewN]⟩
    have cm' := HWQ.out
    rw [← hwq]
    clear cl cx cd cm c3 hwq c0 c4 HW HC HWQ
    go_wp2_with fail
    go_quiet ((go_at_call 69; exact Calls.quiet_of (HW2.out _)))
    go_wp2
    go_ret
    exact ⟨by first | rfl | simp, HE.out _⟩
  · rw [Bool.true_and, decide_eq_true c, Bool.not_true, Bool.false_or, Bool.true_or]
    have hcl : ci < 0 := by rw [hci, cmpI_lt c]; decide
    clear hci c
    go_enter Tryz.func70, Tryz.ntmps70
    go_wp2_with fail
    go_quiet ((go_at_call 66; exact Calls.quiet_of (HC.out _)))
    obtain ⟨wq, hwq⟩ : ∃ wq, wq = w.drewN nq := ⟨_, rfl⟩
    have cl' : wq.cell? ⟨bl, 0, none⟩ = some vl := by rw [hwq]; exact cl
    have cx' : wq.cell? ⟨bx, 0, none⟩ = some (.pointer (some ⟨b, 0, none⟩)) := by rw [hwq]; exact cx
    have cd' : wq.cell? ⟨bd, 0, none⟩ = some (.int .u8 (d : Int)) := by rw [hwq]; exact cd
    have c3' : wq.cell? ⟨b, 3, none⟩ = some v3 := by rw [hwq]; exact c3
    have HWQ := cm_hid hwq cm
    have HW2 : Hid (∀ q, Calls Tryz.prog 69 #[.pointer (some ⟨b, 0, none⟩), vl, v3] (wq.drewN q) fun e w' => e = .returned (.bool true) ∧ ∃ q2, w' = (wq.drewN q).drewN q2) := fun q => by rw [hwq, World.drewN_drewN]; exact HW.out _
    have HE : Hid (∀ t, ∃ q, wq.drewN t = w.drewN q) := fun t => ⟨nq + t, by rw [hwq, World.drewN_drewN]⟩
    have cm' := HWQ.out
    rw [← hwq]
    clear cl cx cd cm c3 hwq c0 c4 HW HC HWQ
    go_wp2_with fail
    go_quiet ((go_at_call 69; exact Calls.quiet_of (HW2.out _)))
    go_wp2
    go_ret
    exact ⟨by first | rfl | simp, HE.out _⟩
  · rw [Bool.true_and, decide_eq_true c, decide_eq_true k, decide_eq_false (by omega), Bool.not_true, Bool.false_or, Bool.false_or, Bool.true_and]
    rw [cmpI_eq c] at hci
    subst hci
    have hk : (d : Int) % 2 = 1 := by omega
    clear c k
    go_enter Tryz.func70, Tryz.ntmps70
    go_wp2_with fail
    go_quiet ((go_at_call 66; exact Calls.quiet_of (HC.out _)))
    obtain ⟨wq, hwq⟩ : ∃ wq, wq = w.drewN nq := ⟨_, rfl⟩
    have cl' : wq.cell? ⟨bl, 0, none⟩ = some vl := by rw [hwq]; exact cl
    have cx' : wq.cell? ⟨bx, 0, none⟩ = some (.pointer (some ⟨b, 0, none⟩)) := by rw [hwq]; exact cx
    have cd' : wq.cell? ⟨bd, 0, none⟩ = some (.int .u8 (d : Int)) := by rw [hwq]; exact cd
    have c3' : wq.cell? ⟨b, 3, none⟩ = some v3 := by rw [hwq]; exact c3
    have HWQ := cm_hid hwq cm
    have HW2 : Hid (∀ q, Calls Tryz.prog 69 #[.pointer (some ⟨b, 0, none⟩), vl, v3] (wq.drewN q) fun e w' => e = .returned (.bool true) ∧ ∃ q2, w' = (wq.drewN q).drewN q2) := fun q => by rw [hwq, World.drewN_drewN]; exact HW.out _
    have HE : Hid (∀ t, ∃ q, wq.drewN t = w.drewN q) := fun t => ⟨nq + t, by rw [hwq, World.drewN_drewN]⟩
    have cm' := HWQ.out
    rw [← hwq]
    clear cl cx cd cm c3 hwq c0 c4 HW HC HWQ
    go_wp2_with fail
    go_quiet ((go_at_call 69; exact Calls.quiet_of (HW2.out _)))
    go_wp2
    go_ret
    exact ⟨by first | rfl | simp, HE.out _⟩
  · rw [Bool.true_and, decide_eq_true c, decide_eq_false (by omega : ¬ d % 2 = 1), decide_eq_false (by omega), Bool.not_true, Bool.false_or, Bool.false_or, Bool.true_and]
    rw [cmpI_eq c] at hci
    subst hci
    have hk : (d : Int) % 2 = 0 := by omega
    clear c k
    go_enter Tryz.func70, Tryz.ntmps70
    go_wp2_with fail
    go_quiet ((go_at_call 66; exact Calls.quiet_of (HC.out _)))
    obtain ⟨wq, hwq⟩ : ∃ wq, wq = w.drewN nq := ⟨_, rfl⟩
    have cl' : wq.cell? ⟨bl, 0, none⟩ = some vl := by rw [hwq]; exact cl
    have cx' : wq.cell? ⟨bx, 0, none⟩ = some (.pointer (some ⟨b, 0, none⟩)) := by rw [hwq]; exact cx
    have cd' : wq.cell? ⟨bd, 0, none⟩ = some (.int .u8 (d : Int)) := by rw [hwq]; exact cd
    have c3' : wq.cell? ⟨b, 3, none⟩ = some v3 := by rw [hwq]; exact c3
    have HWQ := cm_hid hwq cm
    have HW2 : Hid (∀ q, Calls Tryz.prog 69 #[.pointer (some ⟨b, 0, none⟩), vl, v3] (wq.drewN q) fun e w' => e = .returned (.bool true) ∧ ∃ q2, w' = (wq.drewN q).drewN q2) := fun q => by rw [hwq, World.drewN_drewN]; exact HW.out _
    have HE : Hid (∀ t, ∃ q, wq.drewN t = w.drewN q) := fun t => ⟨nq + t, by rw [hwq, World.drewN_drewN]⟩
    have cm' := HWQ.out
    rw [← hwq]
    clear cl cx cd cm c3 hwq c0 c4 HW HC HWQ
    go_wp2_with fail
    go_quiet ((go_at_call 69; exact Calls.quiet_of (HW2.out _)))
    go_wp2
    go_ret
    exact ⟨by first | rfl | simp, HE.out _⟩
  · rw [Bool.true_and, decide_eq_false (by omega : ¬ lack < T), decide_eq_false (by omega : ¬ lack = T), Bool.not_true, Bool.false_or, Bool.false_or, Bool.false_and]
    rw [cmpI_gt c] at hci
    subst hci
    clear c
    go_enter Tryz.func70, Tryz.ntmps70
    go_wp2_with fail
    go_quiet ((go_at_call 66; exact Calls.quiet_of (HC.out _)))
    obtain ⟨wq, hwq⟩ : ∃ wq, wq = w.drewN nq := ⟨_, rfl⟩
    have cl' : wq.cell? ⟨bl, 0, none⟩ = some vl := by rw [hwq]; exact cl
    have cx' : wq.cell? ⟨bx, 0, none⟩ = some (.pointer (some ⟨b, 0, none⟩)) := by rw [hwq]; exact cx
    have cd' : wq.cell? ⟨bd, 0, none⟩ = some (.int .u8 (d : Int)) := by rw [hwq]; exact cd
    have c3' : wq.cell? ⟨b, 3, none⟩ = some v3 := by rw [hwq]; exact c3
    have HWQ := cm_hid hwq cm
    have HW2 : Hid (∀ q, Calls Tryz.prog 69 #[.pointer (some ⟨b, 0, none⟩), vl, v3] (wq.drewN q) fun e w' => e = .returned (.bool true) ∧ ∃ q2, w' = (wq.drewN q).drewN q2) := fun q => by rw [hwq, World.drewN_drewN]; exact HW.out _
    have HE : Hid (∀ t, ∃ q, wq.drewN t = w.drewN q) := fun t => ⟨nq + t, by rw [hwq, World.drewN_drewN]⟩
    have cm' := HWQ.out
    rw [← hwq]
    clear cl cx cd cm c3 hwq c0 c4 HW HC HWQ
    go_wp2_with fail
    go_quiet ((go_at_call 69; exact Calls.quiet_of (HW2.out _)))
    go_wp2
    go_ret
    exact ⟨by first | rfl | simp, HE.out _⟩

end Go.Proofs.YtgbajhenmamjjaaGreatDoor

/-
  A room in memory: its five cells, its four numbers, and that all of them lie apart.
-/
namespace Go.Proofs.YtgbajhenmamjjaaGreatDoor
set_option maxRecDepth 100000
open Go.RowKit Pt

/-- Blocks that are there, each another one. -/
def Sep (w : World) (ls : List Nat) : Prop := ls.Nodup ∧ ∀ x ∈ ls, x < w.heap.size
theorem Sep.mv {w w' : World} {p r : List Nat} {g g' : Nat} (h : Sep w (p ++ g :: r)) (m : Mv w w' g g') (hg : g' < w'.heap.size) : Sep w' (p ++ g' :: r) := by
  obtain ⟨h1, h2⟩ := h
  have hs := m.1.size
  have h3 := (List.perm_middle (a := g) (l₁ := p) (l₂ := r)).nodup_iff.1 h1
  rw [List.nodup_cons] at h3
  refine ⟨(List.perm_middle (a := g') (l₁ := p) (l₂ := r)).nodup_iff.2 ?_, ?_⟩
  · rw [List.nodup_cons]
    refine ⟨?_, h3.2⟩
    rcases m.2 with e | e
    · rw [e]; exact h3.1
    · intro hm
      have := h2 g' (by rcases List.mem_append.1 hm with q | q <;> simp [q])
      omega
  · intro x hx
    rcases List.mem_append.1 hx with q | q
    · have := h2 x (by simp [q]); omega
    · rcases List.mem_cons.1 q with q | q
      · rw [q]; exact hg
      · have := h2 x (by simp [q]); omega
theorem Sep.size {w w' : World} {ls : List Nat} (h : Sep w ls) (hs : w.heap.size ≤ w'.heap.size) : Sep w' ls := ⟨h.1, fun x hx => Nat.lt_of_lt_of_le (h.2 x hx) hs⟩
theorem Sep.facts {w : World} {b bx g0 g1 g2 g3 : Nat} {ss : List Nat} (h : Sep w (b :: bx :: g0 :: g1 :: g2 :: g3 :: ss)) :
    (b ≠ bx ∧ b ≠ g0 ∧ b ≠ g1 ∧ b ≠ g2 ∧ b ≠ g3) ∧ (bx ≠ g0 ∧ bx ≠ g1 ∧ bx ≠ g2 ∧ bx ≠ g3) ∧ (g0 ≠ g1 ∧ g0 ≠ g2 ∧ g0 ≠ g3) ∧ (g1 ≠ g2 ∧ g1 ≠ g3) ∧ g2 ≠ g3 ∧ (b < w.heap.size ∧ bx < w.heap.size) := by
  obtain ⟨h1, h2⟩ := h
  have hb := h2 b (by simp)
  have hbx := h2 bx (by simp)
  simp only [List.nodup_cons, List.mem_cons, not_or] at h1
  obtain ⟨⟨a1, a2, a3, a4, a5, _⟩, ⟨b1, b2, b3, b4, _⟩, ⟨c1, c2, c3, _⟩, ⟨d1, d2, _⟩, ⟨e1, _⟩, _⟩ := h1
  exact ⟨⟨a1, a2, a3, a4, a5⟩, ⟨b1, b2, b3, b4⟩, ⟨c1, c2, c3⟩, ⟨d1, d2⟩, e1, hb, hbx⟩

structure RM (w : World) (b g0 g1 g2 g3 : Nat) (v0 v1 v2 v3 : Value) (T U L A : Nat) (ed : Bool) : Prop where
  c0 : w.cell? ⟨b, 0, none⟩ = some v0
  c1 : w.cell? ⟨b, 1, none⟩ = some v1
  c2 : w.cell? ⟨b, 2, none⟩ = some v2
  c3 : w.cell? ⟨b, 3, none⟩ = some v3
  c4 : w.cell? ⟨b, 4, none⟩ = some (.bool ed)
  fz : ∀ i, w.frozen? ⟨b, i, none⟩ = false
  p0 : PR w g0 v0 T
  p1 : PR w g1 v1 U
  p2 : PR w g2 v2 L
  p3 : PR w g3 v3 A

section
variable {w w' : World} {b g0 g1 g2 g3 : Nat} {v0 v1 v2 v3 : Value} {T U L A : Nat} {ed : Bool}
theorem gb_cell {b g i : Nat} (m : w.grownBy w' (some g)) (hb : b < w.heap.size) (hne : b ≠ g) : w'.cell? ⟨b, i, none⟩ = w.cell? ⟨b, i, none⟩ := World.cell?_of_block (m.block b hb (by simpa using hne))
theorem gb_frozen {b g i : Nat} (m : w.grownBy w' (some g)) (hb : b < w.heap.size) (hne : b ≠ g) : w'.frozen? ⟨b, i, none⟩ = w.frozen? ⟨b, i, none⟩ := World.frozen?_of_block (m.block b hb (by simpa using hne))
theorem RM.grown (h : RM w b g0 g1 g2 g3 v0 v1 v2 v3 T U L A ed) {g : Nat} (m : w.grownBy w' (some g)) (hb : b < w.heap.size) (n : b ≠ g) (n0 : g0 ≠ g) (n1 : g1 ≠ g) (n2 : g2 ≠ g) (n3 : g3 ≠ g) : RM w' b g0 g1 g2 g3 v0 v1 v2 v3 T U L A ed :=
  ⟨by rw [gb_cell m hb n]; exact h.c0, by rw [gb_cell m hb n]; exact h.c1, by rw [gb_cell m hb n]; exact h.c2, by rw [gb_cell m hb n]; exact h.c3, by rw [gb_cell m hb n]; exact h.c4,
    fun i => by rw [gb_frozen m hb n]; exact h.fz i, h.p0.other m n0, h.p1.other m n1, h.p2.other m n2, h.p3.other m n3⟩
theorem RM.below (h : RM w b g0 g1 g2 g3 v0 v1 v2 v3 T U L A ed) (m : Below w.heap.size w w') (hb : b < w.heap.size) : RM w' b g0 g1 g2 g3 v0 v1 v2 v3 T U L A ed := by
  have hc : ∀ i, w'.cell? ⟨b, i, none⟩ = w.cell? ⟨b, i, none⟩ := fun i => m.cell (p := ⟨b, i, none⟩) hb
  exact ⟨by rw [hc]; exact h.c0, by rw [hc]; exact h.c1, by rw [hc]; exact h.c2, by rw [hc]; exact h.c3, by rw [hc]; exact h.c4,
    fun i => by rw [m.frozen (p := ⟨b, i, none⟩) hb]; exact h.fz i, h.p0.below m h.p0.lt, h.p1.below m h.p1.lt, h.p2.below m h.p2.lt, h.p3.below m h.p3.lt⟩
theorem RM.drewN (h : RM w b g0 g1 g2 g3 v0 v1 v2 v3 T U L A ed) (q : Nat) : RM (w.drewN q) b g0 g1 g2 g3 v0 v1 v2 v3 T U L A ed :=
  ⟨h.c0, h.c1, h.c2, h.c3, h.c4, h.fz, h.p0, h.p1, h.p2, h.p3⟩
theorem set_same (w : World) (b i : Nat) (v u : Value) (h : w.cell? ⟨b, i, none⟩ = some u) : (w.setCell ⟨b, i, none⟩ v).cell? ⟨b, i, none⟩ = some v :=
  World.cell?_setCell_same _ _ _ h
theorem set_far (w : World) (b i j : Nat) (v : Value) (h : i ≠ j) : (w.setCell ⟨b, i, none⟩ v).cell? ⟨b, j, none⟩ = w.cell? ⟨b, j, none⟩ :=
  World.cell?_setCell_other w _ _ v (fun e => h (congrArg Addr.off e))
theorem RM.put0 {bx : Nat} {ss : List Nat} {g0' T' : Nat} {v0' : Value} (h : RM w b g0 g1 g2 g3 v0 v1 v2 v3 T U L A ed) (F : Sep w (b :: bx :: g0 :: g1 :: g2 :: g3 :: ss)) (m : Mv w w' g0 g0') (p : PR w' g0' v0' T') :
    RM (w'.setCell ⟨b, 0, none⟩ v0') b g0' g1 g2 g3 v0' v1 v2 v3 T' U L A ed := by
  obtain ⟨⟨a1, a2, a3, a4, a5⟩, ⟨b1, b2, b3, b4⟩, ⟨c1, c2, c3⟩, ⟨d1, d2⟩, e1, hb, hbx⟩ := F.facts
  exact ⟨set_same _ _ _ _ _ (by rw [gb_cell m.1 hb a2]; exact h.c0), by rw [set_far _ _ _ _ _ (by decide), gb_cell m.1 hb a2]; exact h.c1, by rw [set_far _ _ _ _ _ (by decide), gb_cell m.1 hb a2]; exact h.c2, by rw [set_far _ _ _ _ _ (by decide), gb_cell m.1 hb a2]; exact h.c3, by rw [set_far _ _ _ _ _ (by decide), gb_cell m.1 hb a2]; exact h.c4,
    fun j => by rw [World.frozen?_setCell, gb_frozen m.1 hb a2]; exact h.fz j, p.other (gb_set _ _ _ _) (m.ne hb a2).symm, (m.pr h.p1 c1.symm).other (gb_set _ _ _ _) a3.symm, (m.pr h.p2 c2.symm).other (gb_set _ _ _ _) a4.symm, (m.pr h.p3 c3.symm).other (gb_set _ _ _ _) a5.symm⟩
theorem RM.put1 {bx : Nat} {ss : List Nat} {g1' U' : Nat} {v1' : Value} (h : RM w b g0 g1 g2 g3 v0 v1 v2 v3 T U L A ed) (F : Sep w (b :: bx :: g0 :: g1 :: g2 :: g3 :: ss)) (m : Mv w w' g1 g1') (p : PR w' g1' v1' U') :
    RM (w'.setCell ⟨b, 1, none⟩ v1') b g0 g1' g2 g3 v0 v1' v2 v3 T U' L A ed := by
  obtain ⟨⟨a1, a2, a3, a4, a5⟩, ⟨b1, b2, b3, b4⟩, ⟨c1, c2, c3⟩, ⟨d1, d2⟩, e1, hb, hbx⟩ := F.facts
  exact ⟨by rw [set_far _ _ _ _ _ (by decide), gb_cell m.1 hb a3]; exact h.c0, set_same _ _ _ _ _ (by rw [gb_cell m.1 hb a3]; exact h.c1), by rw [set_far _ _ _ _ _ (by decide), gb_cell m.1 hb a3]; exact h.c2, by rw [set_far _ _ _ _ _ (by decide), gb_cell m.1 hb a3]; exact h.c3, by rw [set_far _ _ _ _ _ (by decide), gb_cell m.1 hb a3]; exact h.c4,
    fun j => by rw [World.frozen?_setCell, gb_frozen m.1 hb a3]; exact h.fz j, (m.pr h.p0 c1).other (gb_set _ _ _ _) a2.symm, p.other (gb_set _ _ _ _) (m.ne hb a3).symm, (m.pr h.p2 d1.symm).other (gb_set _ _ _ _) a4.symm, (m.pr h.p3 d2.symm).other (gb_set _ _ _ _) a5.symm⟩
theorem RM.put2 {bx : Nat} {ss : List Nat} {g2' L' : Nat} {v2' : Value} (h : RM w b g0 g1 g2 g3 v0 v1 v2 v3 T U L A ed) (F : Sep w (b :: bx :: g0 :: g1 :: g2 :: g3 :: ss)) (m : Mv w w' g2 g2') (p : PR w' g2' v2' L') :
    RM (w'.setCell ⟨b, 2, none⟩ v2') b g0 g1 g2' g3 v0 v1 v2' v3 T U L' A ed := by
  obtain ⟨⟨a1, a2, a3, a4, a5⟩, ⟨b1, b2, b3, b4⟩, ⟨c1, c2, c3⟩, ⟨d1, d2⟩, e1, hb, hbx⟩ := F.facts
  exact ⟨by rw [set_far _ _ _ _ _ (by decide), gb_cell m.1 hb a4]; exact h.c0, by rw [set_far _ _ _ _ _ (by decide), gb_cell m.1 hb a4]; exact h.c1, set_same _ _ _ _ _ (by rw [gb_cell m.1 hb a4]; exact h.c2), by rw [set_far _ _ _ _ _ (by decide), gb_cell m.1 hb a4]; exact h.c3, by rw [set_far _ _ _ _ _ (by decide), gb_cell m.1 hb a4]; exact h.c4,
    fun j => by rw [World.frozen?_setCell, gb_frozen m.1 hb a4]; exact h.fz j, (m.pr h.p0 c2).other (gb_set _ _ _ _) a2.symm, (m.pr h.p1 d1).other (gb_set _ _ _ _) a3.symm, p.other (gb_set _ _ _ _) (m.ne hb a4).symm, (m.pr h.p3 e1.symm).other (gb_set _ _ _ _) a5.symm⟩
theorem RM.put3 {bx : Nat} {ss : List Nat} {g3' A' : Nat} {v3' : Value} (h : RM w b g0 g1 g2 g3 v0 v1 v2 v3 T U L A ed) (F : Sep w (b :: bx :: g0 :: g1 :: g2 :: g3 :: ss)) (m : Mv w w' g3 g3') (p : PR w' g3' v3' A') :
    RM (w'.setCell ⟨b, 3, none⟩ v3') b g0 g1 g2 g3' v0 v1 v2 v3' T U L A' ed := by
  obtain ⟨⟨a1, a2, a3, a4, a5⟩, ⟨b1, b2, b3, b4⟩, ⟨c1, c2, c3⟩, ⟨d1, d2⟩, e1, hb, hbx⟩ := F.facts
  exact ⟨by rw [set_far _ _ _ _ _ (by decide), gb_cell m.1 hb a5]; exact h.c0, by rw [set_far _ _ _ _ _ (by decide), gb_cell m.1 hb a5]; exact h.c1, by rw [set_far _ _ _ _ _ (by decide), gb_cell m.1 hb a5]; exact h.c2, set_same _ _ _ _ _ (by rw [gb_cell m.1 hb a5]; exact h.c3), by rw [set_far _ _ _ _ _ (by decide), gb_cell m.1 hb a5]; exact h.c4,
    fun j => by rw [World.frozen?_setCell, gb_frozen m.1 hb a5]; exact h.fz j, (m.pr h.p0 c3).other (gb_set _ _ _ _) a2.symm, (m.pr h.p1 d2).other (gb_set _ _ _ _) a3.symm, (m.pr h.p2 e1).other (gb_set _ _ _ _) a4.symm, p.other (gb_set _ _ _ _) (m.ne hb a5).symm⟩
end

end Go.Proofs.YtgbajhenmamjjaaGreatDoor
