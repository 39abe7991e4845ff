/-
  The reference's First, walked.
-/
import Derived.Test.YtjngknnkffbnmaaDoorFrRefFrameq
namespace Go.Proofs.YtjngknnkffbnmaaDoor
set_option maxRecDepth 100000
open Go.RowKit Crc

theorem be4_w4 {l : List Nat} (h : Sm8 l) (hl : 4 ≤ l.length) : be4 (w4 l) = l.take 4 := by
  match l, hl with
  | a :: b :: c :: d :: r, _ =>
    have ha := h a (by simp)
    have hb := h b (by simp)
    have hc := h c (by simp)
    have hd := h d (by simp)
    unfold be4 w4
    simp only [List.getD_cons_zero, List.getD_cons_succ, List.take_succ_cons, List.take_zero]
    rw [show (a * 16777216 + b * 65536 + c * 256 + d) / 16777216 % 256 = a by omega, show (a * 16777216 + b * 65536 + c * 256 + d) / 65536 % 256 = b by omega, show (a * 16777216 + b * 65536 + c * 256 + d) / 256 % 256 = c by omega, show (a * 16777216 + b * 65536 + c * 256 + d) % 256 = d by omega]
theorem wrap_sml (x : Int) (h0 : 0 ≤ x) (h1 : x < 9223372036854775808) : IntKind.i64.wrap x = x := by
  rw [IntKind.wrap_i64]; omega
theorem wrap_word (y0 y1 y2 y3 : Nat) (d0 : y0 < 256) (d1 : y1 < 256) (d2 : y2 < 256) (d3 : y3 < 256) :
    IntKind.i64.wrap (IntKind.i64.wrap (IntKind.i64.wrap (IntKind.i64.wrap (IntKind.i64.wrap (IntKind.i64.wrap (IntKind.i64.wrap (y0 : Int) * 256) + IntKind.i64.wrap (y1 : Int)) * 256) + IntKind.i64.wrap (y2 : Int)) * 256) + IntKind.i64.wrap (y3 : Int)) = ((y0 * 16777216 + y1 * 65536 + y2 * 256 + y3 : Nat) : Int) := by
  rw [wrap_sml (y0 : Int) (by omega) (by omega), wrap_sml (y1 : Int) (by omega) (by omega), wrap_sml (y2 : Int) (by omega) (by omega), wrap_sml (y3 : Int) (by omega) (by omega),
    wrap_sml ((y0 : Int) * 256) (by omega) (by omega), wrap_sml ((y0 : Int) * 256 + y1) (by omega) (by omega), wrap_sml (((y0 : Int) * 256 + y1) * 256) (by omega) (by omega),
    wrap_sml (((y0 : Int) * 256 + y1) * 256 + y2) (by omega) (by omega), wrap_sml ((((y0 : Int) * 256 + y1) * 256 + y2) * 256) (by omega) (by omega), wrap_sml ((((y0 : Int) * 256 + y1) * 256 + y2) * 256 + y3) (by omega) (by omega)]
  omega
/-- What the reference compares comes to the sum. -/
theorem framed_eq {l : List Nat} (hs : Sm8 l) (h8 : 8 ≤ l.length) (hk : ¬ l.length - 8 < w4 l) : (frm (frsD l) = l.take (8 + w4 l)) ↔ sumN (l.take 4 ++ frsD l) = w4 (l.drop 4) := by
  have hD := frsD_length hk
  have e1 : l.take (8 + w4 l) = l.take 4 ++ (l.drop 4).take 4 ++ frsD l := by
    unfold frsD
    have e0 : l.take (4 + 4) = l.take 4 ++ (l.drop 4).take 4 := List.take_add
    rw [List.take_add, ← e0]
  have e2 := be4_w4 hs (by omega)
  have e3 := be4_w4 (hs.drop 4) (by rw [List.length_drop]; omega)
  have hlt : sumN (l.take 4 ++ frsD l) < 4294967296 := sumN_lt ((hs.take 4).append (frsD_sm hs))
  have hlt2 : w4 (l.drop 4) < 4294967296 := w4_lt (hs.drop 4)
  unfold frm
  rw [hD, e2, e1, ← e3]
  constructor
  · intro h
    have h2 := (List.append_inj_left h (by unfold be4; simp))
    have h3 := List.append_cancel_left h2
    rw [← w4_be4 hlt [], ← w4_be4 hlt2 [], h3]
  · intro h
    rw [h]


theorem own_read {w : World} {B : Nat} {v : Value} {l : List Nat} (hE : frsE l = 0) (ho : OW w B v (frsD l)) : OW w B v (frsB l) := by
  unfold frsB; rw [if_pos hE]; exact ho
theorem frsN_ok {l : List Nat} {k : Nat} (hE : frsE l = 0) (hk : k = w4 l) : frsN l = 8 + k := by
  unfold frsN; rw [if_pos hE, hk]
theorem br_framed {w : World} {v : Value} {l : List Nat} {k : Nat} (hk : k = w4 l) (h : BR w v ((l.drop 8).take k)) : BR w v (frsD l) := by
  unfold frsD; rw [← hk]; exact h
theorem framed_length {l : List Nat} {n k : Nat} (hn : n = l.length) (hk : k = w4 l) (c : ¬ n - 8 < k) : (frsD l).length = k := by
  rw [hk]; exact frsD_length (by omega)
theorem frsE_8 {l : List Nat} {n : Nat} (hn : n = l.length) (h : ¬ n < 8) : frsE l = if 1048576 < w4 l then 2 else if n - 8 < w4 l then 3 else if sumN (l.take 4 ++ frsD l) ≠ w4 (l.drop 4) then 4 else 0 := by
  unfold frsE; rw [if_neg (by omega), hn]

set_option maxRecDepth 100000 in
set_option maxHeartbeats 3200000 in
theorem refFirst_any (v : Value) (l : List Nat) (w : World) (h : BR w v l) : Calls Tryd.prog 38 #[v] w (FA w l) := by
  have HR : Hid (BR w v l) := h
  have HS : Hid (Sm8 l) := h.1
  obtain ⟨s1, a, cap, rfl, h3, h4, h5⟩ := h
  clear h5
  unfold maxLen at h4
  obtain ⟨n, hn⟩ : ∃ n, n = l.length := ⟨_, rfl⟩
  have HN : Hid (n = l.length) := hn
  by_cases hl : n < 8
  · have HE : Hid (frsE l = 3) := by show _ = _; unfold frsE; rw [if_pos (by omega)]
    have hi : (n : Int) < 8 := by omega
    rw [← hn] at h3 ⊢
    clear hn s1
    go_enter Tryd.func38, Tryd.ntmps38
    go_wp2
    go_ret3
    exact FA_bad HE.out (by decide) (Below.refl _ _)
  · obtain ⟨b, o, rfl, hbl, hc⟩ := HR.out.lies (by omega)
    have c0 := hc 0 (by omega)
    have c1 := hc 1 (by omega)
    have c2 := hc 2 (by omega)
    have c3 := hc 3 (by omega)
    have d0 := s1.getD 0
    have d1 := s1.getD 1
    have d2 := s1.getD 2
    have d3 := s1.getD 3
    rw [Nat.add_zero] at c0
    have hwl := w4_lt s1
    have HW : Hid (w4 l = l.getD 0 0 * 16777216 + l.getD 1 0 * 65536 + l.getD 2 0 * 256 + l.getD 3 0) := rfl
    have HE : Hid (frsE l = if 1048576 < w4 l then 2 else if n - 8 < w4 l then 3 else if sumN (l.take 4 ++ frsD l) ≠ w4 (l.drop 4) then 4 else 0) := frsE_8 hn hl
    have HQ : Hid (¬ l.length - 8 < w4 l → ((frm (frsD l) = l.take (8 + w4 l)) ↔ sumN (l.take 4 ++ frsD l) = w4 (l.drop 4))) := fun hk => framed_eq s1 (by omega) hk
    obtain ⟨k, hk⟩ : ∃ k, k = w4 l := ⟨_, rfl⟩
    have HK : Hid (k = w4 l) := hk
    rw [← hk] at HE HW HQ hwl
    rw [← hn] at h3 HR HQ ⊢
    generalize l.getD 0 0 = y0 at *
    generalize l.getD 1 0 = y1 at *
    generalize l.getD 2 0 = y2 at *
    generalize l.getD 3 0 = y3 at *
    have hi : ¬ (n : Int) < 8 := by omega
    have k0 : (0 : Int) < (n : Int) := by omega
    have k00 : 0 < n := by omega
    have k1 : (1 : Int) < (n : Int) := by omega
    have k2 : (2 : Int) < (n : Int) := by omega
    have k3 : (3 : Int) < (n : Int) := by omega
    clear hc hk hn s1
    go_enter Tryd.func38, Tryd.ntmps38
    go_wp2_with fail
    go_region_held3 (fun w' => w'.cell? ⟨b, o, none⟩ = some (.int .u8 (y0 : Int)) ∧ w'.cell? ⟨b, o + 1, none⟩ = some (.int .u8 (y1 : Int)) ∧ w'.cell? ⟨b, o + 2, none⟩ = some (.int .u8 (y2 : Int)) ∧ w'.cell? ⟨b, o + 3, none⟩ = some (.int .u8 (y3 : Int))) (go_keep) (fail)
    rw [wrap_word y0 y1 y2 y3 d0 d1 d2 d3, ← HW.out]
    clear c0 c1 c2 c3 d0 d1 d2 d3 HW
    by_cases c1 : 1048576 < k
    · have HE2 : Hid (frsE l = 2) := by show _ = _; rw [HE.out, if_pos c1]
      have c1i : (1048576 : Int) < (k : Int) := by omega
      go_wp2
      go_ret3
      exact FA_bad HE2.out (by decide) (Below.refl _ _).drew
    · have c1i : ¬ (1048576 : Int) < (k : Int) := by omega
      by_cases c2 : n - 8 < k
      · have HE2 : Hid (frsE l = 3) := by show _ = _; rw [HE.out, if_neg c1, if_pos c2]
        have c2i : (n : Int) < 8 + (k : Int) := by omega
        go_wp2
        go_ret3
        exact FA_bad HE2.out (by decide) (Below.refl _ _).drew
      · have c2i : ¬ (n : Int) < 8 + (k : Int) := by omega
        have hn8 : (8 : Int) ≤ (n : Int) := by omega
        have hn9 : (8 : Int) ≤ (cap : Int) := by omega
        have hk0 : (0 : Int) ≤ (k : Int) := by omega
        have c2j : 8 + (k : Int) ≤ (cap : Int) := by omega
        have c2l : 8 + k ≤ cap := by omega
        obtain ⟨o2, ho2⟩ : ∃ o2, (cap = 8 ∧ o2 = o) ∨ (¬ cap = 8 ∧ o2 = o + 8) := by
          by_cases c : cap = 8
          · exact ⟨o, Or.inl ⟨c, rfl⟩⟩
          · exact ⟨o + 8, Or.inr ⟨c, rfl⟩⟩
        have HRest : Hid (BR w (.slice (some ⟨b, o2, none⟩) (n - 8) (cap - 8)) (l.drop 8)) := by
          have := HR.out.cut (lo := 8) (hi := n) (by omega) (by have := HN.out; omega)
          rw [HN.out, List.take_length, ← HN.out] at this
          unfold sliced at this
          rcases ho2 with ⟨e, rfl⟩ | ⟨e, rfl⟩
          · rw [if_pos e] at this; exact this
          · rw [if_neg e] at this; exact this
        have hsl : (if cap = 8 then some (⟨b, o, none⟩ : Addr) else some ⟨b, o + 8, none⟩) = some ⟨b, o2, none⟩ := by
          rcases ho2 with ⟨e, rfl⟩ | ⟨e, rfl⟩
          · rw [if_pos e]
          · rw [if_neg e]
        clear ho2
        have HD : Hid (BR w (.slice (some ⟨b, o2, none⟩) k (cap - 8)) (frsD l)) := by
          exact br_framed HK.out (HRest.out.head (hi := k) (by rw [List.length_drop]; have := HN.out; omega))
        have HP : Hid (BR w (.slice (some ⟨b, o, none⟩) (8 + k) cap) (l.take (8 + k))) := HR.out.head (by have := HN.out; omega)
        have HDl : Hid ((frsD l).length = k) := framed_length HN.out HK.out c2
        have HC : Hid (∀ w', Below w.heap.size w w' → (convert 31 9 (.slice (some ⟨b, o, none⟩) (8 + k) cap)).run Tryd.prog w' = .ok (.string (bsF (l.take (8 + k)))) w') := fun w' hb => convF_any (HP.out.below hb (Nat.le_refl _))
        have HX : Hid (∀ w' B v', OW w' B v' (frm (frsD l)) → (convert 31 9 v').run Tryd.prog w' = .ok (.string (bsF (frm (frsD l)))) w') := fun w' B v' ho => convF_any ho.br
        have hne := bsF_eq (frm_sm (frsD_sm HS.out)) (HS.out.take (8 + k))
        obtain ⟨eqB, heqB⟩ : ∃ eqB, eqB = decide (frm (frsD l) = l.take (8 + k)) := ⟨_, rfl⟩
        have HEQ : Hid (eqB = decide (frm (frsD l) = l.take (8 + k))) := heqB
        rw [← heqB] at hne
        clear heqB
        generalize bsF (l.take (8 + k)) = SP at *
        generalize bsF (frm (frsD l)) = SF at *
        have hw8 : IntKind.i64.wrap (8 + (k : Int)) = 8 + (k : Int) := wrap_sml _ (by omega) (by omega)
        have c3a : (0 : Int) ≤ 8 + (k : Int) := by omega
        have c3b : (8 : Int) ≤ 8 + (k : Int) := by omega
        have c3c : (8 + (k : Int)).toNat = 8 + k := by omega
        have c3d : 8 + k - 8 = k := by omega
        go_wp2_with fail
        refine wp_region_noPanic ?_
        refine wp_region_held_drew (S := fun w' => (convert 31 9 (.slice (some ⟨b, o, none⟩) (8 + k) cap)).run Tryd.prog w' = .ok (.string SP) w') (by kernel_rfl) (HC.out _ (Below.refl _ w).drew.drew) (fun hHeld => ?_)
        refine wpAnyH_take (i := 0) (oi := { dst := some 38, op := _, type := _, pos := _, after := _, guard := _ }) (v := ?vvq0) rfl (by kernel_rfl) (by kernel_rfl) (by kernel_rfl) (fun _ _ _ h => h) (Or.inl ⟨by rfl, ?hyq0⟩) (by assumption) ?_
        case hyq0 =>
          intro w hSw
          (try dsimp only at hSw)
          go_simp
          try with_reducible rfl
        try simp only [Act.put, List.setIfInBounds_toArray, List.set_cons_zero, List.set_cons_succ]
        refine wpAnyH_take (i := 1) (oi := { dst := some 39, op := _, type := _, pos := _, after := _, guard := _ }) (v := ?vvq1) rfl (by kernel_rfl) (by kernel_rfl) (by kernel_rfl) (fun _ _ _ h => h) (Or.inl ⟨by rfl, ?hyq1⟩) (by assumption) ?_
        case hyq1 =>
          intro w hSw
          (try dsimp only at hSw)
          go_simp
          try with_reducible rfl
        try simp only [Act.put, List.setIfInBounds_toArray, List.set_cons_zero, List.set_cons_succ]
        refine wpAnyH_take (i := 2) (oi := { dst := some 40, op := _, type := _, pos := _, after := _, guard := _ }) (v := ?vvq2) rfl (by kernel_rfl) (by kernel_rfl) (by kernel_rfl) (fun _ _ _ h => h) (Or.inl ⟨by rfl, ?hyq2⟩) (by assumption) ?_
        case hyq2 =>
          intro w hSw
          (try dsimp only at hSw)
          go_simp
          try with_reducible rfl
        try simp only [Act.put, List.setIfInBounds_toArray, List.set_cons_zero, List.set_cons_succ]
        refine wpAnyH_take (i := 6) (oi := { dst := some 44, op := _, type := _, pos := _, after := _, guard := _ }) (v := ?vvq3) rfl (by kernel_rfl) (by kernel_rfl) (by kernel_rfl) (fun _ _ _ h => h) (Or.inl ⟨by rfl, ?hyq3⟩) (by assumption) ?_
        case hyq3 =>
          intro w hSw
          (try dsimp only at hSw)
          go_simp
          try with_reducible rfl
        try simp only [Act.put, List.setIfInBounds_toArray, List.set_cons_zero, List.set_cons_succ]
        refine wpAnyH_take (i := 7) (oi := { dst := some 45, op := _, type := _, pos := _, after := _, guard := _ }) (v := ?vvq4) rfl (by kernel_rfl) (by kernel_rfl) (by kernel_rfl) (fun _ _ _ h => h) (Or.inl ⟨by rfl, ?hyq4⟩) (by assumption) ?_
        case hyq4 =>
          intro w hSw
          (try dsimp only at hSw)
          go_simp
          try with_reducible rfl
        try simp only [Act.put, List.setIfInBounds_toArray, List.set_cons_zero, List.set_cons_succ]
        refine wpAnyH_take (i := 8) (oi := { dst := some 46, op := _, type := _, pos := _, after := _, guard := _ }) (v := ?vvq5) rfl (by kernel_rfl) (by kernel_rfl) (by kernel_rfl) (fun _ _ _ h => h) (Or.inl ⟨by rfl, ?hyq5⟩) (by assumption) ?_
        case hyq5 =>
          intro w hSw
          (try dsimp only at hSw)
          go_simp
          try with_reducible rfl
        try simp only [Act.put, List.setIfInBounds_toArray, List.set_cons_zero, List.set_cons_succ]
        refine wpAnyH_take (i := 3) (oi := { dst := some 41, op := _, type := _, pos := _, after := _, guard := _ }) (v := ?vvq7) rfl (by kernel_rfl) (by kernel_rfl) (by kernel_rfl) (fun _ _ _ h => h) (Or.inl ⟨by rfl, ?hyq7⟩) (by assumption) ?_
        case hyq7 =>
          intro w hSw
          (try dsimp only at hSw)
          go_simp
          try with_reducible rfl
        try simp only [Act.put, List.setIfInBounds_toArray, List.set_cons_zero, List.set_cons_succ]
        refine wpAnyH_take (i := 9) (oi := { dst := some 47, op := _, type := _, pos := _, after := _, guard := _ }) (v := ?vvq8) rfl (by kernel_rfl) (by kernel_rfl) (by kernel_rfl) (fun _ _ _ h => h) (Or.inl ⟨by rfl, ?hyq8⟩) (by assumption) ?_
        case hyq8 =>
          intro w hSw
          (try dsimp only at hSw)
          go_simp
          try with_reducible rfl
        try simp only [Act.put, List.setIfInBounds_toArray, List.set_cons_zero, List.set_cons_succ]
        refine wpAnyH_take (i := 10) (oi := { dst := some 48, op := _, type := _, pos := _, after := _, guard := _ }) (v := ?vvq9) rfl (by kernel_rfl) (by kernel_rfl) (by kernel_rfl) (fun _ _ _ h => h) (Or.inl ⟨by rfl, ?hyq9⟩) (by assumption) ?_
        case hyq9 =>
          intro w hSw
          (try dsimp only at hSw)
          go_simp
          try with_reducible rfl
        try simp only [Act.put, List.setIfInBounds_toArray, List.set_cons_zero, List.set_cons_succ]
        refine wpAnyH_ready (rs := [4]) (by kernel_rfl) (by simp) ?_
        refine AllReadyH.cons (o := { dst := some 42, op := _, type := _, pos := _, after := _, guard := _ }) rfl (fun K hK => ?_) AllReadyH.nil
        go_simp
        refine (refFrame_any _ (frsD l) _ (by exact HD.out) (by have := HDl.out; omega)).mono ?_
        rintro e w6 ⟨v6, rfl, ho6, hb6⟩
        have x6 := HX.out _ _ _ ho6
        go_wp2_with fail
        refine hK.out _ _ (HC.out _ (Below.undrew (Below.undrew hb6))) (fun hHeld => ?_)
        clear hK K
        try simp only [Act.put, List.setIfInBounds_toArray, List.set_cons_zero, List.set_cons_succ]
        refine wpAnyH_ready (rs := [5]) (by kernel_rfl) (by simp) ?_
        refine AllReadyH.cons (o := { dst := some 43, op := _, type := _, pos := _, after := _, guard := _ }) rfl (fun K hK => ?_) AllReadyH.nil
        go_simp
        refine hK.out _ _ (HC.out _ (Below.undrew (Below.undrew hb6))) (fun hHeld => ?_)
        clear hK K
        try simp only [Act.put, List.setIfInBounds_toArray, List.set_cons_zero, List.set_cons_succ]
        refine wpAnyH_take (i := 11) (oi := { dst := some 49, op := _, type := _, pos := _, after := _, guard := _ }) (v := ?vvq12) rfl (by kernel_rfl) (by kernel_rfl) (by kernel_rfl) (fun _ _ _ h => h) (Or.inl ⟨by rfl, ?hyq12⟩) (by assumption) ?_
        case hyq12 =>
          intro w hSw
          (try dsimp only at hSw)
          go_simp
          try with_reducible rfl
        try simp only [Act.put, List.setIfInBounds_toArray, List.set_cons_zero, List.set_cons_succ]
        refine wpAnyH_done (by kernel_rfl) ?_ _
        refine NoPanic.normal ?_
        have HQ2 := HQ.out c2
        have HB6 : Hid (Below w.heap.size w w6) := Below.undrew (Below.undrew hb6)
        have z6 : w.heap.size ≤ w6.heap.size := HB6.out.size
        clear ho6 x6 hb6
        cases eqB with
        | false =>
          have c3 : ¬ sumN (l.take 4 ++ frsD l) = w4 (l.drop 4) := fun e => by have := HEQ.out; rw [decide_eq_true (HQ2.2 e)] at this; cases this
          have HE2 : Hid (frsE l = 4) := by show _ = _; rw [HE.out, if_neg c1, if_neg c2, if_pos c3]
          clear HQ2 c3
          go_wp2
          go_ret3
          exact FA_bad HE2.out (by decide) HB6.out
        | true =>
          have c3 : sumN (l.take 4 ++ frsD l) = w4 (l.drop 4) := HQ2.1 (of_decide_eq_true HEQ.out.symm)
          have HE2 : Hid (frsE l = 0) := by show _ = _; rw [HE.out, if_neg c1, if_neg c2, if_neg (by simpa using c3)]
          obtain ⟨D, hDD⟩ : ∃ D, D = frsD l := ⟨_, rfl⟩
          rw [← hDD] at HD HDl
          have HDD : Hid (∀ w' v', OW w' w6.heap.size v' D → OW w' w.heap.size v' (frsB l)) := fun w' v' ho => own_read HE2.out (hDD ▸ OW.base ho z6)
          clear hDD
          have hO6 := OW_empty w6
          have hb7 : Below w6.heap.size w6 (w6.alloc (.cells #[] 5)) := (Below.refl _ _).alloc (Nat.le_refl _) _
          have hD6 := (HD.out.below HB6.out (Nat.le_refl _)).below hb7 (Nat.le_refl _)
          clear HQ2 c3
          go_wp2_with (at_builtin; refine wpList_append_br rfl _ _ rfl w6.heap.size _ _ [] D rfl rfl hO6 hD6 (by have := HDl.out; simp; omega) (by simp) ?_)
          intro v8 w8 ho8 hg8
          have K8 := OW.grown hO6 hg8 hb7 (by simp)
          have HQ8 : Hid (OW w8 w.heap.size v8 (frsB l) ∧ Below w.heap.size w w8) := by
            exact ⟨HDD.out _ _ ho8, HB6.out.trans (K8.mono z6)⟩
          have HN8 : Hid (frsN l = 8 + k) := frsN_ok HE2.out HK.out
          clear hO6 hD6 hb7 K8 ho8 hg8
          go_wp2
          go_ret3
          refine ⟨_, ?_, HQ8.out⟩
          have e8 : ((8 + k : Nat) : Int) = 8 + (k : Int) := by omega
          rw [HE2.out, HN8.out, e8]
          rfl

end Go.Proofs.YtjngknnkffbnmaaDoor
