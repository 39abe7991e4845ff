/-
  FrameMakes: the walk.
-/
import Derived.Test.YtmjiaephmgngiaaDoorFrRefFrame
namespace Go.Proofs.YtmjiaephmgngiaaDoor
open Go.RowKit Crc

/-- What First tells of a frame with anything behind it. -/
theorem first_frm {l : List Nat} (m : List Nat) (hs : Sm8 l) (hl : l.length ≤ 1048576) : frsE (frm l ++ m) = 0 ∧ frsB (frm l ++ m) = l ∧ frsN (frm l ++ m) = 8 + l.length := by
  have ef : frm l ++ m = be4 l.length ++ (be4 (sumN (be4 l.length ++ l)) ++ (l ++ m)) := by unfold frm; simp
  have hw : w4 (frm l ++ m) = l.length := by rw [ef]; exact w4_be4 (by omega) _
  have e4 : (frm l ++ m).take 4 = be4 l.length := by rw [ef]; unfold be4; simp
  have e5 : (frm l ++ m).drop 4 = be4 (sumN (be4 l.length ++ l)) ++ (l ++ m) := by rw [ef]; unfold be4; simp
  have e8 : (frm l ++ m).drop 8 = l ++ m := by rw [ef]; unfold be4; simp
  have hlen : (frm l ++ m).length = 8 + l.length + m.length := by rw [List.length_append, frm_length]
  have hd : frsD (frm l ++ m) = l := by unfold frsD; rw [hw, e8]; simp
  have hE : frsE (frm l ++ m) = 0 := by
    unfold frsE
    rw [if_neg (by omega), if_neg (by omega), if_neg (by omega), hd, e4, e5, w4_be4 (sumN_lt ((be4_sm _).append hs)), if_neg (by simp)]
  refine ⟨hE, ?_, ?_⟩
  · unfold frsB; rw [if_pos hE, hd]
  · unfold frsN; rw [if_pos hE, hw]

set_option maxRecDepth 100000 in
set_option maxHeartbeats 3200000 in
theorem frameMakes_walk (v y : Value) (l m : List Nat) (w : World) (h : BR w v l) (hy : BR w y m) (nl : l.length ≤ 140737488351232) (nm : m.length ≤ 140737488351232) (hT : Tb w) (h0 : 0 < w.heap.size) :
    Calls Tryd.prog 4 #[v, y] w fun e w' => e = .returned (.bool true) ∧ Below w.heap.size w w' := by
  have HR : Hid (BR w v l) := h
  obtain ⟨s1, a, cap, rfl, h3, h4, _⟩ := h
  have HS : Hid (Sm8 l) := s1
  obtain ⟨n, hn⟩ : ∃ n, n = l.length := ⟨_, rfl⟩
  have HN : Hid (n = l.length) := hn
  rw [← hn] at h3 HR nl ⊢
  clear hn s1
  go_enter Tryd.func4, Tryd.ntmps4
  go_wp2_with fail
  refine (own_any _ l w HR.out (by have := HN.out; omega)).mono ?_
  rintro e w1 ⟨v1, rfl, ho1, hb1⟩
  have z1 := hb1.size
  have hT1 := hT.below hb1 h0
  by_cases c : 1048576 < n
  · have ci : (1048576 : Int) < (n : Int) := by omega
    go_wp2_with fail
    refine (frame_long v1 l w1 ho1.br (by have := HN.out; omega)).mono ?_
    rintro e w2 ⟨rfl, hw2⟩
    rw [hw2]
    clear hw2
    have HB1 : Hid (Below w.heap.size w w1) := hb1
    have hlv := lives_any w1 hT1 (by omega)
    go_wp2_with fail
    refine hlv.mono ?_
    rintro e w3 ⟨rfl, hb3⟩
    have HB3 : Hid (Below w.heap.size w w3) := Below.then HB1.out hb3
    clear hb3
    go_wp2
    go_ret
    exact ⟨rfl, HB3.out⟩
  · have ci : ¬ (1048576 : Int) < (n : Int) := by omega
    go_wp2_with fail
    refine (frame_any v1 l w1 ho1.br hT1 (by omega) (by have := HN.out; omega)).mono ?_
    rintro e w2 ⟨v2, rfl, ho2, hb2⟩
    have z2 := hb2.size
    have hB2 := Below.then hb1 hb2
    have hl8 : (frm l).length = 8 + n := by rw [frm_length, HN.out]
    obtain ⟨gf, cf, rfl, _, _, _⟩ := ho2.slice (by omega)
    rw [hl8] at ho2 ⊢
    clear ho1
    go_wp2_with fail
    refine (own_any _ (frm l) w2 ho2.br (by omega)).mono ?_
    rintro e w3 ⟨v3, rfl, ho3, hb3⟩
    have z3 := hb3.size
    have hB3 := Below.then hB2 hb3
    have hy3 := hy.below hB3 (Nat.le_refl _)
    go_wp2_with (at_builtin; refine wpList_append_br rfl _ _ rfl w2.heap.size _ _ (frm l) m rfl rfl ho3 hy3 (by omega) z3 ?_)
    intro v4 w4 ho4 hg4
    have hb4 := ho3.grown hg4 hb3 z3
    have z4 := hb4.size
    have hB4 := Below.then hB2 hb4
    have hT4 := hT.below hB4 h0
    obtain ⟨fe, fb, fn⟩ := first_frm m HS.out (by have := HN.out; omega)
    go_wp2_with fail
    refine (first_any v4 _ w4 ho4.br hT4 (by omega)).mono ?_
    rintro e w5 ⟨v5, rfl, ho5, hb5⟩
    rw [fe, fn]
    rw [fb] at ho5
    rw [← HN.out]
    have z5 := hb5.size
    have hB5 := Below.then hB4 hb5
    have hb25 := hb4.trans (hb5.mono (by omega))
    have hf5 := ho2.br.below hb25 (Nat.le_refl _)
    have hx5 := ho5.br
    have hv5 := HR.out.below hB5 (Nat.le_refl _)
    have x1 := conv_any hf5
    have x2 := conv_any hx5
    have x3 := conv_any hv5
    have HB5 : Hid (Below w.heap.size w w5) := hB5
    have HF5 : Hid (BR w5 (.slice (some ⟨gf, 0, none⟩) (8 + n) cf) (frm l)) := hf5
    have HX5 : Hid (BR w5 v5 l) := hx5
    have HV5 : Hid (BR w5 (.slice a n cap) l) := hv5
    have HT5 : Hid (Tb w5) := hT.below hB5 h0
    have HL : Hid (l.length ≤ 1048576) := by show _ ≤ _; have := HN.out; omega
    have e1 : ((bsN (frm l)).toList == (bsN (frm l)).toList) = true := by simp
    have e2 : ((bsN l).toList == (bsN l).toList) = true := by simp
    have HC : Hid (∀ w', Below w5.heap.size w5 w' → (convert 22 9 (.slice (some ⟨gf, 0, none⟩) (8 + n) cf)).run Tryd.prog w' = .ok (.string (bsN (frm l))) w' ∧ (convert 22 9 v5).run Tryd.prog w' = .ok (.string (bsN l)) w' ∧ (convert 22 9 (.slice a n cap)).run Tryd.prog w' = .ok (.string (bsN l)) w') :=
      fun w' hb => ⟨conv_any (HF5.out.below hb (Nat.le_refl _)), conv_any (HX5.out.below hb (Nat.le_refl _)), conv_any (HV5.out.below hb (Nat.le_refl _))⟩
    have HD : Hid (∀ w' v', OW w' w5.heap.size v' (frm l) → (convert 22 9 v').run Tryd.prog w' = .ok (.string (bsN (frm l))) w') := fun w' v' ho => conv_any ho.br
    generalize bsN (frm l) = SF at *
    generalize bsN l = SL at *
    clear fe fb fn ho5 ho4 ho3 ho2 hg4 hb4 hb3 hb5 hb25 hf5 hx5 hv5 hB3 hB4 hB2 hB5 hb1 hb2 hy3 hT1 hT4 hy HF5 HX5
    go_wp2_with fail
    refine wp_region_held_drew (S := fun w' => (convert 22 9 (.slice (some ⟨gf, 0, none⟩) (8 + n) cf)).run Tryd.prog w' = .ok (.string SF) w' ∧ (convert 22 9 v5).run Tryd.prog w' = .ok (.string SL) w' ∧ (convert 22 9 (.slice a n cap)).run Tryd.prog w' = .ok (.string SL) w') (by kernel_rfl) (HC.out _ (Below.refl _ w5).drew) (fun hHeld => ?_)
    refine wpAnyH_take (i := 0) (oi := { dst := some 38, op := _, type := _, pos := _, after := _, guard := _ }) (v := ?vvm0) rfl (by kernel_rfl) (by kernel_rfl) (by kernel_rfl) (fun _ _ _ h => h) (Or.inl ⟨by rfl, ?hym0⟩) (by assumption) ?_
    case hym0 =>
      intro w hSw
      (try dsimp only at hSw)
      go_simp
      try with_reducible rfl
    try simp only [Act.put, List.setIfInBounds_toArray, List.set_cons_zero, List.set_cons_succ]
    refine wpAnyH_take (i := 1) (oi := { dst := some 39, op := _, type := _, pos := _, after := _, guard := _ }) (v := ?vvm1) rfl (by kernel_rfl) (by kernel_rfl) (by kernel_rfl) (fun _ _ _ h => h) (Or.inl ⟨by rfl, ?hym1⟩) (by assumption) ?_
    case hym1 =>
      intro w hSw
      (try dsimp only at hSw)
      go_simp
      try with_reducible rfl
    try simp only [Act.put, List.setIfInBounds_toArray, List.set_cons_zero, List.set_cons_succ]
    refine wpAnyH_take (i := 2) (oi := { dst := some 40, op := _, type := _, pos := _, after := _, guard := _ }) (v := ?vvm2) rfl (by kernel_rfl) (by kernel_rfl) (by kernel_rfl) (fun _ _ _ h => h) (Or.inl ⟨by rfl, ?hym2⟩) (by assumption) ?_
    case hym2 =>
      intro w hSw
      (try dsimp only at hSw)
      go_simp
      try with_reducible rfl
    try simp only [Act.put, List.setIfInBounds_toArray, List.set_cons_zero, List.set_cons_succ]
    refine wpAnyH_ready (rs := [3]) (by kernel_rfl) (by simp) ?_
    refine AllReadyH.cons (o := { dst := some 41, op := _, type := _, pos := _, after := _, guard := _ }) rfl (fun K hK => ?_) AllReadyH.nil
    go_simp
    refine (refFrame_any _ l _ (by exact HV5.out) HL.out).mono ?_
    rintro e w6 ⟨v6, rfl, ho6, hb6⟩
    have x6 := HD.out _ _ (by exact ho6)
    go_wp2_with fail
    refine hK.out _ _ (HC.out _ (Below.undrew hb6)) (fun hHeld => ?_)
    clear hK K
    try simp only [Act.put, List.setIfInBounds_toArray, List.set_cons_zero, List.set_cons_succ]
    refine wpAnyH_ready (rs := [4]) (by kernel_rfl) (by simp) ?_
    refine AllReadyH.cons (o := { dst := some 42, op := _, type := _, pos := _, after := _, guard := _ }) rfl (fun K hK => ?_) AllReadyH.nil
    go_simp
    refine hK.out _ _ (HC.out _ (Below.undrew hb6)) (fun hHeld => ?_)
    clear hK K
    try simp only [Act.put, List.setIfInBounds_toArray, List.set_cons_zero, List.set_cons_succ]
    refine wpAnyH_take (i := 5) (oi := { dst := some 43, op := _, type := _, pos := _, after := _, guard := _ }) (v := ?vvm5) rfl (by kernel_rfl) (by kernel_rfl) (by kernel_rfl) (fun _ _ _ h => h) (Or.inl ⟨by rfl, ?hym5⟩) (by assumption) ?_
    case hym5 =>
      intro w hSw
      (try dsimp only at hSw)
      go_simp
      try with_reducible rfl
    try simp only [Act.put, List.setIfInBounds_toArray, List.set_cons_zero, List.set_cons_succ]
    refine wpAnyH_take (i := 6) (oi := { dst := some 44, op := _, type := _, pos := _, after := _, guard := _ }) (v := ?vvm6) rfl (by kernel_rfl) (by kernel_rfl) (by kernel_rfl) (fun _ _ _ h => h) (Or.inl ⟨by rfl, ?hym6⟩) (by assumption) ?_
    case hym6 =>
      intro w hSw
      (try dsimp only at hSw)
      go_simp
      try with_reducible rfl
    try simp only [Act.put, List.setIfInBounds_toArray, List.set_cons_zero, List.set_cons_succ]
    refine wpAnyH_take (i := 7) (oi := { dst := some 45, op := _, type := _, pos := _, after := _, guard := _ }) (v := ?vvm7) rfl (by kernel_rfl) (by kernel_rfl) (by kernel_rfl) (fun _ _ _ h => h) (Or.inl ⟨by rfl, ?hym7⟩) (by assumption) ?_
    case hym7 =>
      intro w hSw
      (try dsimp only at hSw)
      go_simp
      try with_reducible rfl
    try simp only [Act.put, List.setIfInBounds_toArray, List.set_cons_zero, List.set_cons_succ]
    refine wpAnyH_take (i := 8) (oi := { dst := some 46, op := _, type := _, pos := _, after := _, guard := _ }) (v := ?vvm8) rfl (by kernel_rfl) (by kernel_rfl) (by kernel_rfl) (fun _ _ _ h => h) (Or.inl ⟨by rfl, ?hym8⟩) (by assumption) ?_
    case hym8 =>
      intro w hSw
      (try dsimp only at hSw)
      go_simp
      try with_reducible rfl
    try simp only [Act.put, List.setIfInBounds_toArray, List.set_cons_zero, List.set_cons_succ]
    refine wpAnyH_take (i := 9) (oi := { dst := some 47, op := _, type := _, pos := _, after := _, guard := _ }) (v := ?vvm9) rfl (by kernel_rfl) (by kernel_rfl) (by kernel_rfl) (fun _ _ _ h => h) (Or.inl ⟨by rfl, ?hym9⟩) (by assumption) ?_
    case hym9 =>
      intro w hSw
      (try dsimp only at hSw)
      go_simp
      try with_reducible rfl
    try simp only [Act.put, List.setIfInBounds_toArray, List.set_cons_zero, List.set_cons_succ]
    refine wpAnyH_take (i := 10) (oi := { dst := some 48, op := _, type := _, pos := _, after := _, guard := _ }) (v := ?vvm10) rfl (by kernel_rfl) (by kernel_rfl) (by kernel_rfl) (fun _ _ _ h => h) (Or.inl ⟨by rfl, ?hym10⟩) (by assumption) ?_
    case hym10 =>
      intro w hSw
      (try dsimp only at hSw)
      go_simp
      try with_reducible rfl
    try simp only [Act.put, List.setIfInBounds_toArray, List.set_cons_zero, List.set_cons_succ]
    refine wpAnyH_take (i := 11) (oi := { dst := some 49, op := _, type := _, pos := _, after := _, guard := _ }) (v := ?vvm11) rfl (by kernel_rfl) (by kernel_rfl) (by kernel_rfl) (fun _ _ _ h => h) (Or.inl ⟨by rfl, ?hym11⟩) (by assumption) ?_
    case hym11 =>
      intro w hSw
      (try dsimp only at hSw)
      go_simp
      try with_reducible rfl
    try simp only [Act.put, List.setIfInBounds_toArray, List.set_cons_zero, List.set_cons_succ]
    refine wpAnyH_take (i := 12) (oi := { dst := some 50, op := _, type := _, pos := _, after := _, guard := _ }) (v := ?vvm12) rfl (by kernel_rfl) (by kernel_rfl) (by kernel_rfl) (fun _ _ _ h => h) (Or.inl ⟨by rfl, ?hym12⟩) (by assumption) ?_
    case hym12 =>
      intro w hSw
      (try dsimp only at hSw)
      go_simp
      try with_reducible rfl
    try simp only [Act.put, List.setIfInBounds_toArray, List.set_cons_zero, List.set_cons_succ]
    refine wpAnyH_take (i := 13) (oi := { dst := some 51, op := _, type := _, pos := _, after := _, guard := _ }) (v := ?vvm13) rfl (by kernel_rfl) (by kernel_rfl) (by kernel_rfl) (fun _ _ _ h => h) (Or.inl ⟨by rfl, ?hym13⟩) (by assumption) ?_
    case hym13 =>
      intro w hSw
      (try dsimp only at hSw)
      go_simp
      try with_reducible rfl
    try simp only [Act.put, List.setIfInBounds_toArray, List.set_cons_zero, List.set_cons_succ]
    refine wpAnyH_take (i := 14) (oi := { dst := some 52, op := _, type := _, pos := _, after := _, guard := _ }) (v := ?vvm14) rfl (by kernel_rfl) (by kernel_rfl) (by kernel_rfl) (fun _ _ _ h => h) (Or.inl ⟨by rfl, ?hym14⟩) (by assumption) ?_
    case hym14 =>
      intro w hSw
      (try dsimp only at hSw)
      go_simp
      try with_reducible rfl
    try simp only [Act.put, List.setIfInBounds_toArray, List.set_cons_zero, List.set_cons_succ]
    refine wpAnyH_take (i := 15) (oi := { dst := some 53, op := _, type := _, pos := _, after := _, guard := _ }) (v := ?vvm15) rfl (by kernel_rfl) (by kernel_rfl) (by kernel_rfl) (fun _ _ _ h => h) (Or.inl ⟨by rfl, ?hym15⟩) (by assumption) ?_
    case hym15 =>
      intro w hSw
      (try dsimp only at hSw)
      go_simp
      try with_reducible rfl
    try simp only [Act.put, List.setIfInBounds_toArray, List.set_cons_zero, List.set_cons_succ]
    refine wpAnyH_take (i := 16) (oi := { dst := some 54, op := _, type := _, pos := _, after := _, guard := _ }) (v := ?vvm16) rfl (by kernel_rfl) (by kernel_rfl) (by kernel_rfl) (fun _ _ _ h => h) (Or.inl ⟨by rfl, ?hym16⟩) (by assumption) ?_
    case hym16 =>
      intro w hSw
      (try dsimp only at hSw)
      go_simp
      try with_reducible rfl
    try simp only [Act.put, List.setIfInBounds_toArray, List.set_cons_zero, List.set_cons_succ]
    refine wpAnyH_take (i := 17) (oi := { dst := some 55, op := _, type := _, pos := _, after := _, guard := _ }) (v := ?vvm17) rfl (by kernel_rfl) (by kernel_rfl) (by kernel_rfl) (fun _ _ _ h => h) (Or.inl ⟨by rfl, ?hym17⟩) (by assumption) ?_
    case hym17 =>
      intro w hSw
      (try dsimp only at hSw)
      go_simp
      try with_reducible rfl
    try simp only [Act.put, List.setIfInBounds_toArray, List.set_cons_zero, List.set_cons_succ]
    refine wpAnyH_take (i := 18) (oi := { dst := some 56, op := _, type := _, pos := _, after := _, guard := _ }) (v := ?vvm18) rfl (by kernel_rfl) (by kernel_rfl) (by kernel_rfl) (fun _ _ _ h => h) (Or.inl ⟨by rfl, ?hym18⟩) (by assumption) ?_
    case hym18 =>
      intro w hSw
      (try dsimp only at hSw)
      go_simp
      try with_reducible rfl
    try simp only [Act.put, List.setIfInBounds_toArray, List.set_cons_zero, List.set_cons_succ]
    refine wpAnyH_take (i := 19) (oi := { dst := some 57, op := _, type := _, pos := _, after := _, guard := _ }) (v := ?vvm19) rfl (by kernel_rfl) (by kernel_rfl) (by kernel_rfl) (fun _ _ _ h => h) (Or.inl ⟨by rfl, ?hym19⟩) (by assumption) ?_
    case hym19 =>
      intro w hSw
      (try dsimp only at hSw)
      go_simp
      try with_reducible rfl
    try simp only [Act.put, List.setIfInBounds_toArray, List.set_cons_zero, List.set_cons_succ]
    refine wpAnyH_take (i := 20) (oi := { dst := some 58, op := _, type := _, pos := _, after := _, guard := _ }) (v := ?vvm20) rfl (by kernel_rfl) (by kernel_rfl) (by kernel_rfl) (fun _ _ _ h => h) (Or.inl ⟨by rfl, ?hym20⟩) (by assumption) ?_
    case hym20 =>
      intro w hSw
      (try dsimp only at hSw)
      go_simp
      try with_reducible rfl
    try simp only [Act.put, List.setIfInBounds_toArray, List.set_cons_zero, List.set_cons_succ]
    refine wpAnyH_take (i := 21) (oi := { dst := some 59, op := _, type := _, pos := _, after := _, guard := _ }) (v := ?vvm21) rfl (by kernel_rfl) (by kernel_rfl) (by kernel_rfl) (fun _ _ _ h => h) (Or.inl ⟨by rfl, ?hym21⟩) (by assumption) ?_
    case hym21 =>
      intro w hSw
      (try dsimp only at hSw)
      go_simp
      try with_reducible rfl
    try simp only [Act.put, List.setIfInBounds_toArray, List.set_cons_zero, List.set_cons_succ]
    refine wpAnyH_take (i := 22) (oi := { dst := some 60, op := _, type := _, pos := _, after := _, guard := _ }) (v := ?vvm22) rfl (by kernel_rfl) (by kernel_rfl) (by kernel_rfl) (fun _ _ _ h => h) (Or.inl ⟨by rfl, ?hym22⟩) (by assumption) ?_
    case hym22 =>
      intro w hSw
      (try dsimp only at hSw)
      go_simp
      try with_reducible rfl
    try simp only [Act.put, List.setIfInBounds_toArray, List.set_cons_zero, List.set_cons_succ]
    refine wpAnyH_take (i := 23) (oi := { dst := some 61, op := _, type := _, pos := _, after := _, guard := _ }) (v := ?vvm23) rfl (by kernel_rfl) (by kernel_rfl) (by kernel_rfl) (fun _ _ _ h => h) (Or.inl ⟨by rfl, ?hym23⟩) (by assumption) ?_
    case hym23 =>
      intro w hSw
      (try dsimp only at hSw)
      go_simp
      try with_reducible rfl
    try simp only [Act.put, List.setIfInBounds_toArray, List.set_cons_zero, List.set_cons_succ]
    refine wpAnyH_take (i := 24) (oi := { dst := some 62, op := _, type := _, pos := _, after := _, guard := _ }) (v := ?vvm24) rfl (by kernel_rfl) (by kernel_rfl) (by kernel_rfl) (fun _ _ _ h => h) (Or.inl ⟨by rfl, ?hym24⟩) (by assumption) ?_
    case hym24 =>
      intro w hSw
      (try dsimp only at hSw)
      go_simp
      try with_reducible rfl
    try simp only [Act.put, List.setIfInBounds_toArray, List.set_cons_zero, List.set_cons_succ]
    refine wpAnyH_take (i := 25) (oi := { dst := some 63, op := _, type := _, pos := _, after := _, guard := _ }) (v := ?vvm25) rfl (by kernel_rfl) (by kernel_rfl) (by kernel_rfl) (fun _ _ _ h => h) (Or.inl ⟨by rfl, ?hym25⟩) (by assumption) ?_
    case hym25 =>
      intro w hSw
      (try dsimp only at hSw)
      go_simp
      try with_reducible rfl
    try simp only [Act.put, List.setIfInBounds_toArray, List.set_cons_zero, List.set_cons_succ]
    refine wpAnyH_take (i := 26) (oi := { dst := some 64, op := _, type := _, pos := _, after := _, guard := _ }) (v := ?vvm26) rfl (by kernel_rfl) (by kernel_rfl) (by kernel_rfl) (fun _ _ _ h => h) (Or.inl ⟨by rfl, ?hym26⟩) (by assumption) ?_
    case hym26 =>
      intro w hSw
      (try dsimp only at hSw)
      go_simp
      try with_reducible rfl
    try simp only [Act.put, List.setIfInBounds_toArray, List.set_cons_zero, List.set_cons_succ]
    refine wpAnyH_take (i := 27) (oi := { dst := some 65, op := _, type := _, pos := _, after := _, guard := _ }) (v := ?vvm27) rfl (by kernel_rfl) (by kernel_rfl) (by kernel_rfl) (fun _ _ _ h => h) (Or.inl ⟨by rfl, ?hym27⟩) (by assumption) ?_
    case hym27 =>
      intro w hSw
      (try dsimp only at hSw)
      go_simp
      try with_reducible rfl
    try simp only [Act.put, List.setIfInBounds_toArray, List.set_cons_zero, List.set_cons_succ]
    refine wpAnyH_ready (rs := [28]) (by kernel_rfl) (by simp) ?_
    refine AllReadyH.cons (o := { dst := some 66, op := _, type := _, pos := _, after := _, guard := _ }) rfl (fun K hK => ?_) AllReadyH.nil
    go_simp
    refine (lives_any _ (by exact HT5.out.below (Below.undrew hb6) (by simp; omega)) (by have := hb6.size; simp at this ⊢; omega)).mono ?_
    rintro e w7 ⟨rfl, hb7⟩
    go_wp2_with fail
    refine hK.out _ _ (HC.out _ (Below.then (Below.undrew hb6) hb7)) (fun hHeld => ?_)
    clear hK K
    try simp only [Act.put, List.setIfInBounds_toArray, List.set_cons_zero, List.set_cons_succ]
    refine wpAnyH_take (i := 29) (oi := { dst := some 67, op := _, type := _, pos := _, after := _, guard := _ }) (v := ?vvm29) rfl (by kernel_rfl) (by kernel_rfl) (by kernel_rfl) (fun _ _ _ h => h) (Or.inl ⟨by rfl, ?hym29⟩) (by assumption) ?_
    case hym29 =>
      intro w hSw
      (try dsimp only at hSw)
      go_simp
      try with_reducible rfl
    try simp only [Act.put, List.setIfInBounds_toArray, List.set_cons_zero, List.set_cons_succ]
    refine wpAnyH_take (i := 30) (oi := { dst := some 4, op := _, type := _, pos := _, after := _, guard := _ }) (v := ?vvm30) rfl (by kernel_rfl) (by kernel_rfl) (by kernel_rfl) (fun _ _ _ h => h) (Or.inl ⟨by rfl, ?hym30⟩) (by assumption) ?_
    case hym30 =>
      intro w hSw
      (try dsimp only at hSw)
      go_simp
      try with_reducible rfl
    try simp only [Act.put, List.setIfInBounds_toArray, List.set_cons_zero, List.set_cons_succ]
    refine wpAnyH_done (by kernel_rfl) ?_ _
    have HB7 : Hid (Below w.heap.size w w7) := HB5.out.trans ((Below.then (Below.undrew hb6) hb7).mono (show w.heap.size ≤ w5.heap.size by omega))
    clear hb6 hb7
    go_wp2
    go_ret
    exact ⟨rfl, HB7.out⟩

end Go.Proofs.YtmjiaephmgngiaaDoor
