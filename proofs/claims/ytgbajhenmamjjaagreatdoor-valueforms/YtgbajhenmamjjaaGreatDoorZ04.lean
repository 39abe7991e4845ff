/-
  Val2
-/
import Derived.Deep.DeepCutAuto
import Derived.Test.YtgbajhenmamjjaaGreatDoorZ03

/-
  Layer 8: which values are the same; the landed and the reference's Same, walked.
-/
namespace Go.Proofs.YtgbajhenmamjjaaGreatDoor
set_option maxRecDepth 100000
open Go.RowKit Flo

theorem vset_same (w : World) (b i : Nat) (v u : Value) (h : w.cell? ⟨b, i, none⟩ = some u) : (w.setCell ⟨b, i, none⟩ v).cell? ⟨b, i, none⟩ = some v :=
  World.cell?_setCell_same _ _ _ h
theorem vset_far (w : World) (b i j : Nat) (v : Value) (h : i ≠ j) : (w.setCell ⟨b, i, none⟩ v).cell? ⟨b, j, none⟩ = w.cell? ⟨b, j, none⟩ :=
  World.cell?_setCell_other w _ _ v (fun e => h (congrArg Addr.off e))
theorem vset_off (w : World) (b c i j : Nat) (v : Value) (h : b ≠ c) : (w.setCell ⟨b, i, none⟩ v).cell? ⟨c, j, none⟩ = w.cell? ⟨c, j, none⟩ :=
  World.cell?_setCell_other w _ _ v (fun e => h (congrArg Addr.block e))
/-- A value that is stored is there. -/
theorem stored4 (w x : World) (b : Nat) (v0 v1 v2 v3 u0 u1 u2 u3 : Value) (h0 : w.cell? ⟨b, 0, none⟩ = some u0) (h1 : w.cell? ⟨b, 1, none⟩ = some u1) (h2 : w.cell? ⟨b, 2, none⟩ = some u2) (h3 : w.cell? ⟨b, 3, none⟩ = some u3)
    (hx : x = (((w.setCell ⟨b, 0, none⟩ v0).setCell ⟨b, 1, none⟩ v1).setCell ⟨b, 2, none⟩ v2).setCell ⟨b, 3, none⟩ v3) :
    (x.cell? ⟨b, 0, none⟩ = some v0 ∧ x.cell? ⟨b, 1, none⟩ = some v1 ∧ x.cell? ⟨b, 2, none⟩ = some v2 ∧ x.cell? ⟨b, 3, none⟩ = some v3) ∧ ∀ c i, b ≠ c → x.cell? ⟨c, i, none⟩ = w.cell? ⟨c, i, none⟩ := by
  subst hx
  have g0 := vset_same w b 0 v0 u0 h0
  have f1 := (vset_far w b 0 1 v0 (by decide)).trans h1
  have f2 := (vset_far w b 0 2 v0 (by decide)).trans h2
  have f3 := (vset_far w b 0 3 v0 (by decide)).trans h3
  have fo := fun c i (h : b ≠ c) => vset_off w b c 0 i v0 h
  generalize w.setCell ⟨b, 0, none⟩ v0 = w1 at *
  have k1 := vset_same w1 b 1 v1 u1 f1
  have k0 := (vset_far w1 b 1 0 v1 (by decide)).trans g0
  have k2 := (vset_far w1 b 1 2 v1 (by decide)).trans f2
  have k3 := (vset_far w1 b 1 3 v1 (by decide)).trans f3
  have ko := fun c i (h : b ≠ c) => (vset_off w1 b c 1 i v1 h).trans (fo c i h)
  generalize w1.setCell ⟨b, 1, none⟩ v1 = w2 at *
  have m2 := vset_same w2 b 2 v2 u2 k2
  have m0 := (vset_far w2 b 2 0 v2 (by decide)).trans k0
  have m1 := (vset_far w2 b 2 1 v2 (by decide)).trans k1
  have m3 := (vset_far w2 b 2 3 v2 (by decide)).trans k3
  have mo := fun c i (h : b ≠ c) => (vset_off w2 b c 2 i v2 h).trans (ko c i h)
  generalize w2.setCell ⟨b, 2, none⟩ v2 = w3 at *
  exact ⟨⟨(vset_far w3 b 3 0 v3 (by decide)).trans m0, (vset_far w3 b 3 1 v3 (by decide)).trans m1, (vset_far w3 b 3 2 v3 (by decide)).trans m2, vset_same w3 b 3 v3 u3 m3⟩, fun c i h => (vset_off w3 b c 3 i v3 h).trans (mo c i h)⟩

/-- Texts with the same bytes are the same. -/
theorem toList_loop (s : ByteArray) : ∀ (n i : Nat) (r : List UInt8), s.size - i = n → ByteArray.toList.loop s i r = r.reverse ++ s.data.toList.drop i := by
  intro n
  induction n with
  | zero =>
    intro i r h
    unfold ByteArray.toList.loop
    rw [if_neg (by omega), List.drop_eq_nil_of_le (by simp only [Array.length_toList]; exact Nat.le_of_sub_eq_zero h), List.append_nil]
  | succ n ih =>
    intro i r h
    unfold ByteArray.toList.loop
    have hi : i < s.data.toList.length := by simp only [Array.length_toList]; exact Nat.lt_of_sub_eq_succ h
    rw [if_pos (by omega), ih (i + 1) _ (by omega), List.reverse_cons, List.append_assoc, List.drop_eq_getElem_cons hi]
    congr 1
    have : s.get! i = s.data.toList[i] := by
      simp only [ByteArray.get!, Array.getElem_toList]
      exact getElem!_pos s.data i (by simpa using hi)
    rw [this]; rfl
theorem toList_data (s : ByteArray) : s.toList = s.data.toList := by
  unfold ByteArray.toList
  rw [toList_loop s _ 0 [] rfl]; rfl
theorem text_inj {s t : ByteArray} (h : s.toList = t.toList) : s = t := by
  rw [toList_data, toList_data] at h
  cases s; cases t; congr 1; exact Array.toList_inj.1 h
/-- Whether two plain forms are the same. -/
def sameV (k n : Int) (s : ByteArray) (o : Int) (k' n' : Int) (s' : ByteArray) (o' : Int) : Bool := if k = 3 ∧ k' = 3 then equalB n n' else decide (k = k' ∧ n = n' ∧ s = s' ∧ o = o')
/-- Whether two values are the same. -/
def sameB (K N : Int) (S : ByteArray) (O : Int) (K' N' : Int) (S' : ByteArray) (O' : Int) : Bool := sameV (nK K) (nN K N) (nS K S) (nO K O) (nK K') (nN K' N') (nS K' S') (nO K' O')
theorem nK_eq {K : Int} {j : Int} (hj : 1 ≤ j) : nK K = j → K = j := by unfold nK; split <;> omega
theorem nN_zero {K N : Int} (h : nK K ≠ 3) : nN K N = 0 := by
  unfold nN; rw [if_neg]; intro e; subst e; exact h rfl
theorem canon_u64 {N : Int} (h : U64 N) : U64 (canonZ N) := by
  unfold canonZ; split
  · exact ⟨by decide, by decide⟩
  · exact h
theorem nN_u64 {K N : Int} (h : U64 N) : U64 (nN K N) := by
  unfold nN; split
  · exact canon_u64 h
  · exact ⟨by decide, by decide⟩

set_option maxHeartbeats 4000000 in
theorem same_any (K N : Int) (S : ByteArray) (O : Int) (K' N' : Int) (S' : ByteArray) (O' : Int) (w : World) (hN : U64 N) (hN' : U64 N') :
    Calls Tryz.prog 15 #[.agg #[.int .i64 K, .int .u64 N, .string S, .int .i64 O], .agg #[.int .i64 K', .int .u64 N', .string S', .int .i64 O']] w fun e w' => e = .returned (.bool (sameB K N S O K' N' S' O')) ∧ Below w.heap.size w w' := by
  have H0 : Hid ((nK K ≠ 3 → nN K N = 0) ∧ (nK K' ≠ 3 → nN K' N' = 0)) := ⟨nN_zero, nN_zero⟩
  have HE : Hid (∀ w, Calls Tryz.prog 27 #[.int .u64 (nN K N), .int .u64 (nN K' N')] w fun e w' => e = .returned (.bool (equalB (nN K N) (nN K' N'))) ∧ w' = w) := fun w => equal_any _ _ w (nN_u64 hN) (nN_u64 hN')
  unfold sameB
  go_enter Tryz.func15, Tryz.ntmps15
  go_wp2_with fail
  go_cut [4] (fun t wx => t = .bool false ∧ wx.cell? ⟨w.heap.size, 0, none⟩ = some (.int .i64 (nK K)) ∧ wx.cell? ⟨w.heap.size, 1, none⟩ = some (.int .u64 (nN K N)) ∧ wx.cell? ⟨w.heap.size, 2, none⟩ = some (.string (nS K S)) ∧ wx.cell? ⟨w.heap.size, 3, none⟩ = some (.int .i64 (nO K O)) ∧
    wx.cell? ⟨w.heap.size + 1, 0, none⟩ = some (.int .i64 (nK K')) ∧ wx.cell? ⟨w.heap.size + 1, 1, none⟩ = some (.int .u64 (nN K' N')) ∧ wx.cell? ⟨w.heap.size + 1, 2, none⟩ = some (.string (nS K' S')) ∧ wx.cell? ⟨w.heap.size + 1, 3, none⟩ = some (.int .i64 (nO K' O')) ∧ Hid (Below w.heap.size w wx))
  case first =>
    go_region_with (go_at_call 6; refine (normal_any _ _ _ _ _ (by assumption)).mono ?_; rintro e wn ⟨he, hb⟩; unfold nv vl at he; subst he; obtain ⟨hc, hf⟩ := bcell hb; have hz0 : w.heap.size < wn.heap.size := (by have := hb.size; (try simp at this); omega); have hz1 : w.heap.size + 1 < wn.heap.size := (by have := hb.size; (try simp at this); omega))
    all_goals
      rename_i wm hbm hcm hfm hzm0 hzm1
      have a0 : wn.cell? ⟨w.heap.size, 0, none⟩ = some (.int .i64 K) := by rw [hc _ _ hzm0, hcm _ _ (by simp; try omega)]; simp
      have a1 : wn.cell? ⟨w.heap.size, 1, none⟩ = some (.int .u64 N) := by rw [hc _ _ hzm0, hcm _ _ (by simp; try omega)]; simp
      have a2 : wn.cell? ⟨w.heap.size, 2, none⟩ = some (.string S) := by rw [hc _ _ hzm0, hcm _ _ (by simp; try omega)]; simp
      have a3 : wn.cell? ⟨w.heap.size, 3, none⟩ = some (.int .i64 O) := by rw [hc _ _ hzm0, hcm _ _ (by simp; try omega)]; simp
      have b0 : wn.cell? ⟨w.heap.size + 1, 0, none⟩ = some (.int .i64 K') := by rw [hc _ _ hzm1, hcm _ _ (by simp; try omega)]; simp
      have b1 : wn.cell? ⟨w.heap.size + 1, 1, none⟩ = some (.int .u64 N') := by rw [hc _ _ hzm1, hcm _ _ (by simp; try omega)]; simp
      have b2 : wn.cell? ⟨w.heap.size + 1, 2, none⟩ = some (.string S') := by rw [hc _ _ hzm1, hcm _ _ (by simp; try omega)]; simp
      have b3 : wn.cell? ⟨w.heap.size + 1, 3, none⟩ = some (.int .i64 O') := by rw [hc _ _ hzm1, hcm _ _ (by simp; try omega)]; simp
      have hB : Below w.heap.size w wn := Below.trans (by first | exact (((Below.refl _ _).alloc (Nat.le_refl _) _).alloc (by simp) _).drew.trans (hbm.mono (by simp; omega)) | exact (((Below.refl _ _).alloc (Nat.le_refl _) _).alloc (by simp) _).trans (hbm.mono (by simp; omega)) | exact ((((Below.refl _ _).alloc (Nat.le_refl _) _).alloc (by simp) _).drew.drew).trans (hbm.mono (by simp; omega))) (by first | exact hb.mono (by omega) | exact (Below.refl _ _).drew.trans (hb.mono (by simp; omega)))
      have q1 := stored4 wn _ w.heap.size (.int .i64 (nK K)) (.int .u64 (nN K N)) (.string (nS K S)) (.int .i64 (nO K O)) _ _ _ _ a0 a1 a2 a3 rfl
      have hB1 := set4 (i0 := 0) (i1 := 1) (i2 := 2) (i3 := 3) hB (Nat.le_refl _) (.int .i64 (nK K)) (.int .u64 (nN K N)) (.string (nS K S)) (.int .i64 (nO K O))
      generalize ((((wn.setCell ⟨w.heap.size, 0, none⟩ (.int .i64 (nK K))).setCell ⟨w.heap.size, 1, none⟩ (.int .u64 (nN K N))).setCell ⟨w.heap.size, 2, none⟩ (.string (nS K S))).setCell ⟨w.heap.size, 3, none⟩ (.int .i64 (nO K O))) = wp at q1 hB1 ⊢
      have q2 := stored4 wp _ (w.heap.size + 1) (.int .i64 (nK K')) (.int .u64 (nN K' N')) (.string (nS K' S')) (.int .i64 (nO K' O')) _ _ _ _ ((q1.2 _ _ (by omega)).trans b0) ((q1.2 _ _ (by omega)).trans b1) ((q1.2 _ _ (by omega)).trans b2) ((q1.2 _ _ (by omega)).trans b3) rfl
      have hB2 := set4 (b := w.heap.size + 1) (i0 := 0) (i1 := 1) (i2 := 2) (i3 := 3) hB1 (by omega) (.int .i64 (nK K')) (.int .u64 (nN K' N')) (.string (nS K' S')) (.int .i64 (nO K' O'))
      generalize ((((wp.setCell ⟨w.heap.size + 1, 0, none⟩ (.int .i64 (nK K'))).setCell ⟨w.heap.size + 1, 1, none⟩ (.int .u64 (nN K' N'))).setCell ⟨w.heap.size + 1, 2, none⟩ (.string (nS K' S'))).setCell ⟨w.heap.size + 1, 3, none⟩ (.int .i64 (nO K' O'))) = wq at q2 hB2 ⊢
      go_wp2_with fail
      go_meet
      exact ⟨rfl, (q2.2 _ _ (by omega)).trans q1.1.1, (q2.2 _ _ (by omega)).trans q1.1.2.1, (q2.2 _ _ (by omega)).trans q1.1.2.2.1, (q2.2 _ _ (by omega)).trans q1.1.2.2.2, q2.1.1, q2.1.2.1, q2.1.2.2.1, q2.1.2.2.2, hB2⟩
  case rest =>
    obtain ⟨rfl, a0, a1, a2, a3, b0, b1, b2, b3, HB⟩ := hcut
    by_cases c3 : (nK K) = 3 ∧ (nK K') = 3
    · have hv : Hid (sameV (nK K) (nN K N) (nS K S) (nO K O) (nK K') (nN K' N') (nS K' S') (nO K' O') = equalB (nN K N) (nN K' N')) := if_pos c3
      generalize equalB (nN K N) (nN K' N') = r at *
      obtain ⟨d1, d2⟩ := c3
      go_wp2_with fail
      refine (HE.out _).mono ?_
      rintro e w1 ⟨rfl, rfl⟩
      go_wp2
      go_ret
      exact ⟨ret_bool hv.out.symm, HB.out⟩
    · have hv : sameV (nK K) (nN K N) (nS K S) (nO K O) (nK K') (nN K' N') (nS K' S') (nO K' O') = decide ((nK K) = (nK K') ∧ (nN K N) = (nN K' N') ∧ (nS K S) = (nS K' S') ∧ (nO K O) = (nO K' O')) := if_neg c3
      by_cases ck : (nK K) = 3
      · have ck' : ¬ (nK K') = 3 := fun h => c3 ⟨ck, h⟩
        have cb : ((nK K') == 3) = false := by simpa using ck'
        rw [decide_eq_false (fun h => ck' (h.1.symm.trans ck))] at hv
        have HV : Hid (_ = _) := hv
        clear hv
        go_wp2
        all_goals
          go_ret
          exact ⟨by first | exact ret_bool HV.out.symm | (exfalso; omega), HB.out⟩
      · have cb : ((nK K) == 3) = false := by simpa using ck
        by_cases ce : (nK K) = (nK K') ∧ (nN K N) = (nN K' N') ∧ (nS K S) = (nS K' S') ∧ (nO K O) = (nO K' O')
        · rw [decide_eq_true ce] at hv
          have HV : Hid (_ = _) := hv
          clear hv
          obtain ⟨e1, e2, e3, e4⟩ := ce
          go_wp2
          all_goals
            go_ret
            exact ⟨ret_bool HV.out.symm, HB.out⟩
        · rw [decide_eq_false ce] at hv
          have HV : Hid (_ = _) := hv
          have HCE : Hid (¬ ((nK K) = (nK K') ∧ (nN K N) = (nN K' N') ∧ (nS K S) = (nS K' S') ∧ (nO K O) = (nO K' O'))) := ce
          clear ce c3 hv
          go_wp2
          all_goals
            go_ret
            exact ⟨by first | exact ret_bool HV.out.symm | (exfalso; have q := HCE.out; first | exact q ⟨by assumption, by assumption, text_inj (by assumption), by assumption⟩ | exact q ⟨by first | assumption | exact text_inj (by assumption), by assumption⟩ | (clear HV; simp_all)), HB.out⟩

end Go.Proofs.YtgbajhenmamjjaaGreatDoor
