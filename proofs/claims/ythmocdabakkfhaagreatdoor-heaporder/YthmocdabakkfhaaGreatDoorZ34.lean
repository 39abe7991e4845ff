/-
  HpRmake
-/
import Derived.BigQuiet
import Derived.Test.YthmocdabakkfhaaGreatDoorZ33

/-
  Layer 9: the reference's Make, walked.
-/
namespace Go.Proofs.YthmocdabakkfhaaGreatDoor
set_option maxRecDepth 100000
open Go.RowKit Flo

set_option maxHeartbeats 1000000 in
theorem rmake_bad (w : World) (db : Nat) (k a b n : Int) (h : (k ≠ 6 ∧ k ≠ 7 ∧ k ≠ 9) ∨ n < 0 ∨ 255 < n) :
    Calls Tryz.prog 32 #[.pointer (some ⟨db, 0, none⟩), .int .i64 k, .int .i64 a, .int .i64 b, .int .i64 n] w fun e w' => e = .returned (.tuple #[.int .i64 0, .int .i64 1]) ∧ w' = w := by
  have hcase : (k ≠ 6 ∧ k ≠ 7 ∧ k ≠ 9) ∨ ((k = 6 ∨ k = 7 ∨ k = 9) ∧ n < 0) ∨ ((k = 6 ∨ k = 7 ∨ k = 9) ∧ ¬ n < 0 ∧ n > 255) := by omega
  clear h
  rcases hcase with ⟨c1, c2, c3⟩ | ⟨rfl | rfl | rfl, c⟩ | ⟨rfl | rfl | rfl, c, d⟩
  all_goals
    go_enter Tryz.func32, Tryz.ntmps32
    go_wp2
    go_ret2
    exact ⟨rfl, rfl⟩

set_option maxHeartbeats 2000000 in
theorem rmake_ok {w : World} {db lim : Nat} {R : Value} {rs : List Rr} {Q : Nat → Prop} (h : Rv w db lim R rs Q) (k a b : Int) (m : Nat) (hk : k = 6 ∨ k = 7 ∨ k = 9) (hm : m ≤ 255) (hu : usedR rs + (1 + m) ≤ lim) :
    Calls Tryz.prog 32 #[.pointer (some ⟨db, 0, none⟩), .int .i64 k, .int .i64 a, .int .i64 b, .int .i64 (m : Int)] w fun e w' => e = .returned (.tuple #[.int .i64 ((rs.length + 1 : Nat) : Int), .int .i64 0]) ∧ RP w db lim (rs.map Rr.om ++ [⟨k, a, b, V0, [], [], List.replicate m V0⟩]) Q w' := by
  have HU : Hid (∀ q, Calls Tryz.prog 44 #[.pointer (some ⟨db, 0, none⟩)] (w.drewN q) fun e w' => e = .returned (.int .i64 ((usedR rs : Nat) : Int)) ∧ ∃ m, w' = (w.drewN q).drewN m) := fun q => rused_any (h.below (hp_drewN w q))
  have hc1 := h.c1
  have hul : usedR rs ≤ 1048576 := Nat.le_trans h.hu h.hl
  have hll := h.hl
  have hn0 : ¬ ((m : Int) < 0) := by omega
  have hn1 : ¬ ((m : Int) > 255) := by omega
  have c2 : ¬ ((usedR rs : Int) + 1 + (m : Int) > (lim : Int)) := by omega
  have HV := hide_p h
  have HC := hide_p hu
  clear h hu
  obtain ⟨u, huu⟩ : ∃ u, u = usedR rs := ⟨_, rfl⟩
  rw [← huu] at HU hul c2 HC
  have HUU := hide_p huu
  clear huu
  have hkb : (k = 6 ∧ True) ∨ (k ≠ 6 ∧ k = 7) ∨ (k ≠ 6 ∧ k ≠ 7 ∧ k = 9) := by
    rcases hk with q | q | q
    · exact Or.inl ⟨q, trivial⟩
    · exact Or.inr (Or.inl ⟨by omega, q⟩)
    · exact Or.inr (Or.inr ⟨by omega, by omega, q⟩)
  clear hk
  go_enter Tryz.func32, Tryz.ntmps32
  go_upto_region 1 with fail
  go_cut [29] (fun t29 wx => t29 = .bool false ∧ wx = w)
  case first =>
    rcases hkb with ⟨rfl, _⟩ | ⟨_, rfl⟩ | ⟨_, _, rfl⟩
    all_goals
      go_wp2_with fail
      go_meet
      exact ⟨rfl, rfl⟩
  case rest =>
    obtain ⟨rfl, hwc⟩ := hcut
    have hw2 := hwc.symm
    subst hw2
    clear hkb
    go_wp2_with fail
    go_quiet ((go_at_call 44; exact Calls.quiet_of (HU.out _)))
    obtain ⟨wq, hwq⟩ : ∃ wq, wq = w.drewN nq := ⟨_, rfl⟩
    have HBQ : Hid (Below w.heap.size w wq) := by rw [hwq]; exact hp_drewN w nq
    rw [← hwq]
    clear HU hc1 hwq
    have hv := HV.out.below HBQ.out
    obtain ⟨i0, hi0, hz0, hz1, hz2⟩ := objInfo
    obtain ⟨i1, hi1, hy0, hy1, hy2⟩ := valInfo
    obtain ⟨a0, cap, hR, hlen, a0c, _, _, _⟩ := cp_ask hv
    have hdb : db < wq.heap.size := hv.lt db hv.qd
    have hfd := hv.free 0
    have HV2 := hide_p hv
    have HSRC : Hid (∀ w', Below wq.heap.size wq w' → Src w' 10 (.slice a0 rs.length cap) rs.length (rC rs)) := fun w' hb' => by
      have := rv_src HV2.out hb'
      rw [hR] at this
      exact this
    clear hv HV hR
    go_upto_region 5 with fail
    go_cut [10] (fun t10 wx => t10 = .int .i64 0 ∧ Hid (RP wq db lim (rs.map Rr.om ++ [⟨k, a, b, V0, [], [], List.replicate m V0⟩]) Q wx) ∧ ∃ xa xc, wx.cell? ⟨db, 0, none⟩ = some (.slice xa (rs.length + 1) xc))
    case first =>
      refine wp_region_inv2 (by kernel_rfl) [40, 41, 42, 43, 44, 45, 46, 47, 48, 49, 50, 51, 52, 53, 54, 55, 56] (fun L vs w' => ∃ v40 v41 v42 v43 v44 v45 v46 v47 v48 v49 v50 v51 v52 v53 v54 v55 v56, vs = [v40, v41, v42, v43, v44, v45, v46, v47, v48, v49, v50, v51, v52, v53, v54, v55, v56] ∧ (L 0 = true → v40 = .pointer (some ⟨db, 0, none⟩)) ∧ (L 2 = true → v42 = .pointer (some ⟨db, 0, none⟩)) ∧ (L 3 = true → v43 = .pointer (some ⟨db, 0, none⟩)) ∧ (L 4 = true → v44 = .pointer (some ⟨db, 0, none⟩)) ∧ (L 5 = true → v45 = (.slice a0 rs.length cap)) ∧ (L 7 = true → v47 = .int .i64 k) ∧ (L 8 = true → v48 = .int .i64 a) ∧ (L 9 = true → v49 = .int .i64 b) ∧ (L 10 = true → v50 = .int .i64 (m : Int)) ∧ (L 12 = true → v52 = (.agg #[.int .i64 k, .slice none 0 0, .slice none 0 0, .int .i64 0, .int .u64 0, .string ⟨#[]⟩, .int .i64 0, .int .i64 a, .int .i64 b, v51])) ∧ (L 15 = true → v55 = .pointer (some ⟨db, 0, none⟩)) ∧ (L 16 = true → v56 = .pointer (some ⟨db, 0, none⟩)) ∧ (L 6 = true → L 1 = true ∧ L 5 = true) ∧ (L 12 = true → L 11 = true) ∧ (L 13 = true → L 12 = true) ∧ (L 14 = true → L 6 = true ∧ L 13 = true) ∧ (L 15 = true → L 0 = true ∧ L 1 = true ∧ L 2 = true ∧ L 3 = true ∧ L 4 = true ∧ L 5 = true ∧ L 6 = true ∧ L 7 = true ∧ L 8 = true ∧ L 9 = true ∧ L 10 = true ∧ L 11 = true ∧ L 12 = true ∧ L 13 = true ∧ L 14 = true) ∧ (L 16 = true → L 15 = true) ∧ (L 17 = true → L 16 = true) ∧ Hid (((L 17) = false → WM wq w' (PMa wq.heap.size rs (rOth k a b m v51).cells (L 1) (L 6) (L 14) v41 v46 v54) (PMb wq.heap.size m (rOth k a b m v51).cells (L 11) (L 13) (L 14) v51 v53)) ∧ ((L 17) = true → RP wq db lim (rs.map Rr.om ++ [⟨k, a, b, V0, [], [], List.replicate m V0⟩]) Q w' ∧ ∃ xa xc, w'.cell? ⟨db, 0, none⟩ = some (.slice xa (rs.length + 1) xc)))) (by kernel_rfl) (by decide) (by intro x hx; simp at hx; simp; omega) ?_ ⟨?_, ?_, ?_, ?_, ?_, ?_, ?_, ?_, ?_, ?_, ?_, ?_, ?_, ?_, ?_, ?_, ?_, ?_, trivial⟩ ?_
      · exact ⟨_, _, _, _, _, _, _, _, _, _, _, _, _, _, _, _, _, rfl, fun q => by (cases q), fun q => by (cases q), fun q => by (cases q), fun q => by (cases q), fun q => by (cases q), fun q => by (cases q), fun q => by (cases q), fun q => by (cases q), fun q => by (cases q), fun q => by (cases q), fun q => by (cases q), fun q => by (cases q), fun q => by (cases q), fun q => by (cases q), fun q => by (cases q), fun q => by (cases q), fun q => by (cases q), fun q => by (cases q), fun q => by (cases q), ⟨fun _ => ⟨(Below.refl _ wq).drew, fun _ => False, fun _ => False, fun _ c => c.elim, fun _ c => by (rcases c with c | c <;> exact c.elim), ⟨fun q => by (cases q), fun q => by (cases q), fun q => by (cases q)⟩, ⟨fun q => by (cases q), fun q => by (cases q)⟩⟩, fun q => by (cases q)⟩⟩
      · rintro A L vs w' F G ⟨v40, v41, v42, v43, v44, v45, v46, v47, v48, v49, v50, v51, v52, v53, v54, v55, v56, rfl, d0, d2, d3, d4, d5, d7, d8, d9, d10, d12, d15, d16, m6, m12, m13, m14, m15, m16, m17, HW⟩ hL hdep K' hK hK0
        have g0 : A.tmps[0]?.getD undef = .pointer (some ⟨db, 0, none⟩) := evD ((G 0 (by decide)).trans rfl)
        clear F G
        go_simp
        refine hK 0 40 _ w' rfl ⟨_, _, _, _, _, _, _, _, _, _, _, _, _, _, _, _, _, rfl, (fun _ => rfl), d2, d3, d4, d5, d7, d8, d9, d10, d12, d15, d16, (fun q => ⟨lmono (m6 q).1, lmono (m6 q).2⟩), (fun q => lmono (m12 q)), (fun q => lmono (m13 q)), (fun q => ⟨lmono (m14 q).1, lmono (m14 q).2⟩), (fun q => ⟨lmono (m15 q).1, lmono (m15 q).2.1, lmono (m15 q).2.2.1, lmono (m15 q).2.2.2.1, lmono (m15 q).2.2.2.2.1, lmono (m15 q).2.2.2.2.2.1, lmono (m15 q).2.2.2.2.2.2.1, lmono (m15 q).2.2.2.2.2.2.2.1, lmono (m15 q).2.2.2.2.2.2.2.2.1, lmono (m15 q).2.2.2.2.2.2.2.2.2.1, lmono (m15 q).2.2.2.2.2.2.2.2.2.2.1, lmono (m15 q).2.2.2.2.2.2.2.2.2.2.2.1, lmono (m15 q).2.2.2.2.2.2.2.2.2.2.2.2.1, lmono (m15 q).2.2.2.2.2.2.2.2.2.2.2.2.2.1, lmono (m15 q).2.2.2.2.2.2.2.2.2.2.2.2.2.2⟩), (fun q => lmono (m16 q)), (fun q => lmono (m17 q)), HW⟩
      · rintro A L vs w' F G ⟨v40, v41, v42, v43, v44, v45, v46, v47, v48, v49, v50, v51, v52, v53, v54, v55, v56, rfl, d0, d2, d3, d4, d5, d7, d8, d9, d10, d12, d15, d16, m6, m12, m13, m14, m15, m16, m17, HW⟩ hL hdep K' hK hK0
        have h17 : L 17 = false := by
          cases q : L 17 with
          | false => rfl
          | true => exact absurd ((m15 (m16 (m17 q))).2.1) (by rw [hL]; decide)
        have h6 : L 6 = false := by
          cases q : L 6 with
          | false => rfl
          | true => exact absurd (m6 q).1 (by rw [hL]; decide)
        have h14 : L 14 = false := by
          cases q : L 14 with
          | false => rfl
          | true => exact absurd (m14 q).1 (by rw [h6]; decide)
        have hB : wq.heap.size ≤ w'.heap.size := (HW.out.1 h17).low.size
        have HW2 : Hid (((L 17) = false → WM wq (w'.alloc (.cells #[] 39)) (PMa wq.heap.size rs (rOth k a b m v51).cells true (L 6) (L 14) (.slice (some ⟨w'.heap.size, 0, none⟩) 0 0) v46 v54) (PMb wq.heap.size m (rOth k a b m v51).cells (L 11) (L 13) (L 14) v51 v53)) ∧ ((L 17) = true → RP wq db lim (rs.map Rr.om ++ [⟨k, a, b, V0, [], [], List.replicate m V0⟩]) Q (w'.alloc (.cells #[] 39)) ∧ ∃ xa xc, (w'.alloc (.cells #[] 39)).cell? ⟨db, 0, none⟩ = some (.slice xa (rs.length + 1) xc))) := ⟨fun _ => by
          have hw := WM.stepA (PA' := PMa wq.heap.size rs (rOth k a b m v51).cells true false false (.slice (some ⟨w'.heap.size, 0, none⟩) 0 0) v46 v54) (HW.out.1 h17) (PMb.lcl _ _ _ _ _ _ _ _) (w' := (w'.alloc (.cells #[] 39))) (fun X _ _ => PMa.bs hB)
          rw [h6]
          rw [h14] at hw ⊢
          exact hw, fun q => by rw [h17] at q; cases q⟩
        clear F G
        go_simp
        refine hK 1 41 _ _ rfl ⟨_, _, _, _, _, _, _, _, _, _, _, _, _, _, _, _, _, rfl, d0, d2, d3, d4, d5, d7, d8, d9, d10, d12, d15, d16, (fun q => ⟨lmono (m6 q).1, lmono (m6 q).2⟩), (fun q => lmono (m12 q)), (fun q => lmono (m13 q)), (fun q => ⟨lmono (m14 q).1, lmono (m14 q).2⟩), (fun q => ⟨lmono (m15 q).1, lmono (m15 q).2.1, lmono (m15 q).2.2.1, lmono (m15 q).2.2.2.1, lmono (m15 q).2.2.2.2.1, lmono (m15 q).2.2.2.2.2.1, lmono (m15 q).2.2.2.2.2.2.1, lmono (m15 q).2.2.2.2.2.2.2.1, lmono (m15 q).2.2.2.2.2.2.2.2.1, lmono (m15 q).2.2.2.2.2.2.2.2.2.1, lmono (m15 q).2.2.2.2.2.2.2.2.2.2.1, lmono (m15 q).2.2.2.2.2.2.2.2.2.2.2.1, lmono (m15 q).2.2.2.2.2.2.2.2.2.2.2.2.1, lmono (m15 q).2.2.2.2.2.2.2.2.2.2.2.2.2.1, lmono (m15 q).2.2.2.2.2.2.2.2.2.2.2.2.2.2⟩), (fun q => lmono (m16 q)), (fun q => lmono (m17 q)), HW2⟩
      · rintro A L vs w' F G ⟨v40, v41, v42, v43, v44, v45, v46, v47, v48, v49, v50, v51, v52, v53, v54, v55, v56, rfl, d0, d2, d3, d4, d5, d7, d8, d9, d10, d12, d15, d16, m6, m12, m13, m14, m15, m16, m17, HW⟩ hL hdep K' hK hK0
        have g0 : A.tmps[0]?.getD undef = .pointer (some ⟨db, 0, none⟩) := evD ((G 0 (by decide)).trans rfl)
        clear F G
        go_simp
        refine hK 2 42 _ w' rfl ⟨_, _, _, _, _, _, _, _, _, _, _, _, _, _, _, _, _, rfl, d0, (fun _ => rfl), d3, d4, d5, d7, d8, d9, d10, d12, d15, d16, (fun q => ⟨lmono (m6 q).1, lmono (m6 q).2⟩), (fun q => lmono (m12 q)), (fun q => lmono (m13 q)), (fun q => ⟨lmono (m14 q).1, lmono (m14 q).2⟩), (fun q => ⟨lmono (m15 q).1, lmono (m15 q).2.1, lmono (m15 q).2.2.1, lmono (m15 q).2.2.2.1, lmono (m15 q).2.2.2.2.1, lmono (m15 q).2.2.2.2.2.1, lmono (m15 q).2.2.2.2.2.2.1, lmono (m15 q).2.2.2.2.2.2.2.1, lmono (m15 q).2.2.2.2.2.2.2.2.1, lmono (m15 q).2.2.2.2.2.2.2.2.2.1, lmono (m15 q).2.2.2.2.2.2.2.2.2.2.1, lmono (m15 q).2.2.2.2.2.2.2.2.2.2.2.1, lmono (m15 q).2.2.2.2.2.2.2.2.2.2.2.2.1, lmono (m15 q).2.2.2.2.2.2.2.2.2.2.2.2.2.1, lmono (m15 q).2.2.2.2.2.2.2.2.2.2.2.2.2.2⟩), (fun q => lmono (m16 q)), (fun q => lmono (m17 q)), HW⟩
      · rintro A L vs w' F G ⟨v40, v41, v42, v43, v44, v45, v46, v47, v48, v49, v50, v51, v52, v53, v54, v55, v56, rfl, d0, d2, d3, d4, d5, d7, d8, d9, d10, d12, d15, d16, m6, m12, m13, m14, m15, m16, m17, HW⟩ hL hdep K' hK hK0
        have p2 : L 2 = true := hdep { on := 2, ground := Ground.data } (by simp) rfl
        have q := d2 p2
        subst q
        have g42 := evD (F 2 42 _ rfl rfl)
        clear F G
        go_simp
        refine hK 3 43 _ w' rfl ⟨_, _, _, _, _, _, _, _, _, _, _, _, _, _, _, _, _, rfl, d0, (fun _ => rfl), (fun _ => rfl), d4, d5, d7, d8, d9, d10, d12, d15, d16, (fun q => ⟨lmono (m6 q).1, lmono (m6 q).2⟩), (fun q => lmono (m12 q)), (fun q => lmono (m13 q)), (fun q => ⟨lmono (m14 q).1, lmono (m14 q).2⟩), (fun q => ⟨lmono (m15 q).1, lmono (m15 q).2.1, lmono (m15 q).2.2.1, lmono (m15 q).2.2.2.1, lmono (m15 q).2.2.2.2.1, lmono (m15 q).2.2.2.2.2.1, lmono (m15 q).2.2.2.2.2.2.1, lmono (m15 q).2.2.2.2.2.2.2.1, lmono (m15 q).2.2.2.2.2.2.2.2.1, lmono (m15 q).2.2.2.2.2.2.2.2.2.1, lmono (m15 q).2.2.2.2.2.2.2.2.2.2.1, lmono (m15 q).2.2.2.2.2.2.2.2.2.2.2.1, lmono (m15 q).2.2.2.2.2.2.2.2.2.2.2.2.1, lmono (m15 q).2.2.2.2.2.2.2.2.2.2.2.2.2.1, lmono (m15 q).2.2.2.2.2.2.2.2.2.2.2.2.2.2⟩), (fun q => lmono (m16 q)), (fun q => lmono (m17 q)), HW⟩
      · rintro A L vs w' F G ⟨v40, v41, v42, v43, v44, v45, v46, v47, v48, v49, v50, v51, v52, v53, v54, v55, v56, rfl, d0, d2, d3, d4, d5, d7, d8, d9, d10, d12, d15, d16, m6, m12, m13, m14, m15, m16, m17, HW⟩ hL hdep K' hK hK0
        have p3 : L 3 = true := hdep { on := 3, ground := Ground.data } (by simp) rfl
        have q := d3 p3
        subst q
        have g43 := evD (F 3 43 _ rfl rfl)
        clear F G
        go_simp
        refine hK 4 44 _ w' rfl ⟨_, _, _, _, _, _, _, _, _, _, _, _, _, _, _, _, _, rfl, d0, d2, (fun _ => rfl), (fun _ => rfl), d5, d7, d8, d9, d10, d12, d15, d16, (fun q => ⟨lmono (m6 q).1, lmono (m6 q).2⟩), (fun q => lmono (m12 q)), (fun q => lmono (m13 q)), (fun q => ⟨lmono (m14 q).1, lmono (m14 q).2⟩), (fun q => ⟨lmono (m15 q).1, lmono (m15 q).2.1, lmono (m15 q).2.2.1, lmono (m15 q).2.2.2.1, lmono (m15 q).2.2.2.2.1, lmono (m15 q).2.2.2.2.2.1, lmono (m15 q).2.2.2.2.2.2.1, lmono (m15 q).2.2.2.2.2.2.2.1, lmono (m15 q).2.2.2.2.2.2.2.2.1, lmono (m15 q).2.2.2.2.2.2.2.2.2.1, lmono (m15 q).2.2.2.2.2.2.2.2.2.2.1, lmono (m15 q).2.2.2.2.2.2.2.2.2.2.2.1, lmono (m15 q).2.2.2.2.2.2.2.2.2.2.2.2.1, lmono (m15 q).2.2.2.2.2.2.2.2.2.2.2.2.2.1, lmono (m15 q).2.2.2.2.2.2.2.2.2.2.2.2.2.2⟩), (fun q => lmono (m16 q)), (fun q => lmono (m17 q)), HW⟩
      · rintro A L vs w' F G ⟨v40, v41, v42, v43, v44, v45, v46, v47, v48, v49, v50, v51, v52, v53, v54, v55, v56, rfl, d0, d2, d3, d4, d5, d7, d8, d9, d10, d12, d15, d16, m6, m12, m13, m14, m15, m16, m17, HW⟩ hL hdep K' hK hK0
        have p4 : L 4 = true := hdep { on := 4, ground := Ground.data } (by simp) rfl
        have h17 : L 17 = false := by
          cases q : L 17 with
          | false => rfl
          | true => exact absurd ((m15 (m16 (m17 q))).2.2.2.2.2.1) (by rw [hL]; decide)
        have cc : w'.cell? ⟨db, 0, none⟩ = some (.slice a0 rs.length cap) := ((HW.out.1 h17).low.cell hdb).trans a0c
        have q := d4 p4
        subst q
        have g44 := evD (F 4 44 _ rfl rfl)
        clear F G
        go_simp
        refine hK 5 45 _ w' rfl ⟨_, _, _, _, _, _, _, _, _, _, _, _, _, _, _, _, _, rfl, d0, d2, d3, (fun _ => rfl), (fun _ => rfl), d7, d8, d9, d10, d12, d15, d16, (fun q => ⟨lmono (m6 q).1, lmono (m6 q).2⟩), (fun q => lmono (m12 q)), (fun q => lmono (m13 q)), (fun q => ⟨lmono (m14 q).1, lmono (m14 q).2⟩), (fun q => ⟨lmono (m15 q).1, lmono (m15 q).2.1, lmono (m15 q).2.2.1, lmono (m15 q).2.2.2.1, lmono (m15 q).2.2.2.2.1, lmono (m15 q).2.2.2.2.2.1, lmono (m15 q).2.2.2.2.2.2.1, lmono (m15 q).2.2.2.2.2.2.2.1, lmono (m15 q).2.2.2.2.2.2.2.2.1, lmono (m15 q).2.2.2.2.2.2.2.2.2.1, lmono (m15 q).2.2.2.2.2.2.2.2.2.2.1, lmono (m15 q).2.2.2.2.2.2.2.2.2.2.2.1, lmono (m15 q).2.2.2.2.2.2.2.2.2.2.2.2.1, lmono (m15 q).2.2.2.2.2.2.2.2.2.2.2.2.2.1, lmono (m15 q).2.2.2.2.2.2.2.2.2.2.2.2.2.2⟩), (fun q => lmono (m16 q)), (fun q => lmono (m17 q)), HW⟩
      · rintro A L vs w' F G ⟨v40, v41, v42, v43, v44, v45, v46, v47, v48, v49, v50, v51, v52, v53, v54, v55, v56, rfl, d0, d2, d3, d4, d5, d7, d8, d9, d10, d12, d15, d16, m6, m12, m13, m14, m15, m16, m17, HW⟩ hL hdep K' hK hK0
        have p1 : L 1 = true := hdep { on := 1, ground := Ground.data } (by simp) rfl
        have p5 : L 5 = true := hdep { on := 5, ground := Ground.data } (by simp) rfl
        have h17 : L 17 = false := by
          cases q : L 17 with
          | false => rfl
          | true => exact absurd ((m15 (m16 (m17 q))).2.2.2.2.2.2.1) (by rw [hL]; decide)
        have h14 : L 14 = false := by
          cases q : L 14 with
          | false => rfl
          | true => exact absurd (m14 q).1 (by rw [hL]; decide)
        have hB : wq.heap.size ≤ w'.heap.size := (HW.out.1 h17).low.size
        have hrow : w'.ownsRow wq.heap.size 39 10 v41 0 [] := by
          obtain ⟨XA, XB, _, _, hpa, _⟩ := (HW.out.1 h17).ex
          exact (hpa.1 p1 hL).2.1
        have q := d5 p5
        subst q
        refine step_append_src w' rfl (.tmp 41) (.tmp 45) 29 rfl wq.heap.size 39 i0 _ 10 136 Tryz.underlying29 hi0 hz0 hz1 hz2 rfl (by decide) v41 0 [] (F 1 41 _ rfl rfl) hrow (.slice a0 rs.length cap) rs.length (rC rs) (F 5 45 _ rfl rfl) (HSRC.out w' (HW.out.1 h17).low) (by unfold maxLen; omega) (by omega) hB ?_
        intro a' c' w2 q1 q2 q3
        rw [Nat.zero_add, List.nil_append] at q1
        rw [Nat.zero_add] at q3 ⊢
        have HW2 : Hid (((L 17) = false → WM wq w2 (PMa wq.heap.size rs (rOth k a b m v51).cells (L 1) true (L 14) v41 (.slice a' rs.length c') v54) (PMb wq.heap.size m (rOth k a b m v51).cells (L 11) (L 13) (L 14) v51 v53)) ∧ ((L 17) = true → RP wq db lim (rs.map Rr.om ++ [⟨k, a, b, V0, [], [], List.replicate m V0⟩]) Q w2 ∧ ∃ xa xc, w2.cell? ⟨db, 0, none⟩ = some (.slice xa (rs.length + 1) xc))) := ⟨fun _ => by
          have hw := WM.stepA (PA' := PMa wq.heap.size rs (rOth k a b m v51).cells true true false v41 (.slice a' rs.length c') v54) (HW.out.1 h17) (PMb.lcl _ _ _ _ _ _ _ _) (w' := w2) (fun X hX _ => by
            obtain ⟨e1, e2⟩ := RwIn.app (hX.1 p1 hL) q1 q2 q3
            exact ⟨e1, fun _ q => by (cases q), fun _ _ => e2, fun q => by (cases q)⟩)
          rw [p1]
          rw [h14] at hw ⊢
          exact hw, fun q => by rw [h17] at q; cases q⟩
        refine hK 6 46 _ w2 rfl ⟨_, _, _, _, _, _, _, _, _, _, _, _, _, _, _, _, _, rfl, d0, d2, d3, d4, (fun _ => rfl), d7, d8, d9, d10, d12, d15, d16, (fun _ => ⟨lmono p1, lmono p5⟩), (fun q => lmono (m12 q)), (fun q => lmono (m13 q)), (fun q => ⟨lmono (m14 q).1, lmono (m14 q).2⟩), (fun q => ⟨lmono (m15 q).1, lmono (m15 q).2.1, lmono (m15 q).2.2.1, lmono (m15 q).2.2.2.1, lmono (m15 q).2.2.2.2.1, lmono (m15 q).2.2.2.2.2.1, lmono (m15 q).2.2.2.2.2.2.1, lmono (m15 q).2.2.2.2.2.2.2.1, lmono (m15 q).2.2.2.2.2.2.2.2.1, lmono (m15 q).2.2.2.2.2.2.2.2.2.1, lmono (m15 q).2.2.2.2.2.2.2.2.2.2.1, lmono (m15 q).2.2.2.2.2.2.2.2.2.2.2.1, lmono (m15 q).2.2.2.2.2.2.2.2.2.2.2.2.1, lmono (m15 q).2.2.2.2.2.2.2.2.2.2.2.2.2.1, lmono (m15 q).2.2.2.2.2.2.2.2.2.2.2.2.2.2⟩), (fun q => lmono (m16 q)), (fun q => lmono (m17 q)), HW2⟩
      · rintro A L vs w' F G ⟨v40, v41, v42, v43, v44, v45, v46, v47, v48, v49, v50, v51, v52, v53, v54, v55, v56, rfl, d0, d2, d3, d4, d5, d7, d8, d9, d10, d12, d15, d16, m6, m12, m13, m14, m15, m16, m17, HW⟩ hL hdep K' hK hK0
        have g1 : A.tmps[1]?.getD undef = .int .i64 k := evD ((G 1 (by decide)).trans rfl)
        clear F G
        go_simp
        refine hK 7 47 _ w' rfl ⟨_, _, _, _, _, _, _, _, _, _, _, _, _, _, _, _, _, rfl, d0, d2, d3, d4, d5, (fun _ => rfl), d8, d9, d10, d12, d15, d16, (fun q => ⟨lmono (m6 q).1, lmono (m6 q).2⟩), (fun q => lmono (m12 q)), (fun q => lmono (m13 q)), (fun q => ⟨lmono (m14 q).1, lmono (m14 q).2⟩), (fun q => ⟨lmono (m15 q).1, lmono (m15 q).2.1, lmono (m15 q).2.2.1, lmono (m15 q).2.2.2.1, lmono (m15 q).2.2.2.2.1, lmono (m15 q).2.2.2.2.2.1, lmono (m15 q).2.2.2.2.2.2.1, lmono (m15 q).2.2.2.2.2.2.2.1, lmono (m15 q).2.2.2.2.2.2.2.2.1, lmono (m15 q).2.2.2.2.2.2.2.2.2.1, lmono (m15 q).2.2.2.2.2.2.2.2.2.2.1, lmono (m15 q).2.2.2.2.2.2.2.2.2.2.2.1, lmono (m15 q).2.2.2.2.2.2.2.2.2.2.2.2.1, lmono (m15 q).2.2.2.2.2.2.2.2.2.2.2.2.2.1, lmono (m15 q).2.2.2.2.2.2.2.2.2.2.2.2.2.2⟩), (fun q => lmono (m16 q)), (fun q => lmono (m17 q)), HW⟩
      · rintro A L vs w' F G ⟨v40, v41, v42, v43, v44, v45, v46, v47, v48, v49, v50, v51, v52, v53, v54, v55, v56, rfl, d0, d2, d3, d4, d5, d7, d8, d9, d10, d12, d15, d16, m6, m12, m13, m14, m15, m16, m17, HW⟩ hL hdep K' hK hK0
        have g2 : A.tmps[2]?.getD undef = .int .i64 a := evD ((G 2 (by decide)).trans rfl)
        clear F G
        go_simp
        refine hK 8 48 _ w' rfl ⟨_, _, _, _, _, _, _, _, _, _, _, _, _, _, _, _, _, rfl, d0, d2, d3, d4, d5, d7, (fun _ => rfl), d9, d10, d12, d15, d16, (fun q => ⟨lmono (m6 q).1, lmono (m6 q).2⟩), (fun q => lmono (m12 q)), (fun q => lmono (m13 q)), (fun q => ⟨lmono (m14 q).1, lmono (m14 q).2⟩), (fun q => ⟨lmono (m15 q).1, lmono (m15 q).2.1, lmono (m15 q).2.2.1, lmono (m15 q).2.2.2.1, lmono (m15 q).2.2.2.2.1, lmono (m15 q).2.2.2.2.2.1, lmono (m15 q).2.2.2.2.2.2.1, lmono (m15 q).2.2.2.2.2.2.2.1, lmono (m15 q).2.2.2.2.2.2.2.2.1, lmono (m15 q).2.2.2.2.2.2.2.2.2.1, lmono (m15 q).2.2.2.2.2.2.2.2.2.2.1, lmono (m15 q).2.2.2.2.2.2.2.2.2.2.2.1, lmono (m15 q).2.2.2.2.2.2.2.2.2.2.2.2.1, lmono (m15 q).2.2.2.2.2.2.2.2.2.2.2.2.2.1, lmono (m15 q).2.2.2.2.2.2.2.2.2.2.2.2.2.2⟩), (fun q => lmono (m16 q)), (fun q => lmono (m17 q)), HW⟩
      · rintro A L vs w' F G ⟨v40, v41, v42, v43, v44, v45, v46, v47, v48, v49, v50, v51, v52, v53, v54, v55, v56, rfl, d0, d2, d3, d4, d5, d7, d8, d9, d10, d12, d15, d16, m6, m12, m13, m14, m15, m16, m17, HW⟩ hL hdep K' hK hK0
        have g3 : A.tmps[3]?.getD undef = .int .i64 b := evD ((G 3 (by decide)).trans rfl)
        clear F G
        go_simp
        refine hK 9 49 _ w' rfl ⟨_, _, _, _, _, _, _, _, _, _, _, _, _, _, _, _, _, rfl, d0, d2, d3, d4, d5, d7, d8, (fun _ => rfl), d10, d12, d15, d16, (fun q => ⟨lmono (m6 q).1, lmono (m6 q).2⟩), (fun q => lmono (m12 q)), (fun q => lmono (m13 q)), (fun q => ⟨lmono (m14 q).1, lmono (m14 q).2⟩), (fun q => ⟨lmono (m15 q).1, lmono (m15 q).2.1, lmono (m15 q).2.2.1, lmono (m15 q).2.2.2.1, lmono (m15 q).2.2.2.2.1, lmono (m15 q).2.2.2.2.2.1, lmono (m15 q).2.2.2.2.2.2.1, lmono (m15 q).2.2.2.2.2.2.2.1, lmono (m15 q).2.2.2.2.2.2.2.2.1, lmono (m15 q).2.2.2.2.2.2.2.2.2.1, lmono (m15 q).2.2.2.2.2.2.2.2.2.2.1, lmono (m15 q).2.2.2.2.2.2.2.2.2.2.2.1, lmono (m15 q).2.2.2.2.2.2.2.2.2.2.2.2.1, lmono (m15 q).2.2.2.2.2.2.2.2.2.2.2.2.2.1, lmono (m15 q).2.2.2.2.2.2.2.2.2.2.2.2.2.2⟩), (fun q => lmono (m16 q)), (fun q => lmono (m17 q)), HW⟩
      · rintro A L vs w' F G ⟨v40, v41, v42, v43, v44, v45, v46, v47, v48, v49, v50, v51, v52, v53, v54, v55, v56, rfl, d0, d2, d3, d4, d5, d7, d8, d9, d10, d12, d15, d16, m6, m12, m13, m14, m15, m16, m17, HW⟩ hL hdep K' hK hK0
        have g4 : A.tmps[4]?.getD undef = .int .i64 (m : Int) := evD ((G 4 (by decide)).trans rfl)
        clear F G
        go_simp
        refine hK 10 50 _ w' rfl ⟨_, _, _, _, _, _, _, _, _, _, _, _, _, _, _, _, _, rfl, d0, d2, d3, d4, d5, d7, d8, d9, (fun _ => rfl), d12, d15, d16, (fun q => ⟨lmono (m6 q).1, lmono (m6 q).2⟩), (fun q => lmono (m12 q)), (fun q => lmono (m13 q)), (fun q => ⟨lmono (m14 q).1, lmono (m14 q).2⟩), (fun q => ⟨lmono (m15 q).1, lmono (m15 q).2.1, lmono (m15 q).2.2.1, lmono (m15 q).2.2.2.1, lmono (m15 q).2.2.2.2.1, lmono (m15 q).2.2.2.2.2.1, lmono (m15 q).2.2.2.2.2.2.1, lmono (m15 q).2.2.2.2.2.2.2.1, lmono (m15 q).2.2.2.2.2.2.2.2.1, lmono (m15 q).2.2.2.2.2.2.2.2.2.1, lmono (m15 q).2.2.2.2.2.2.2.2.2.2.1, lmono (m15 q).2.2.2.2.2.2.2.2.2.2.2.1, lmono (m15 q).2.2.2.2.2.2.2.2.2.2.2.2.1, lmono (m15 q).2.2.2.2.2.2.2.2.2.2.2.2.2.1, lmono (m15 q).2.2.2.2.2.2.2.2.2.2.2.2.2.2⟩), (fun q => lmono (m16 q)), (fun q => lmono (m17 q)), HW⟩
      · rintro A L vs w' F G ⟨v40, v41, v42, v43, v44, v45, v46, v47, v48, v49, v50, v51, v52, v53, v54, v55, v56, rfl, d0, d2, d3, d4, d5, d7, d8, d9, d10, d12, d15, d16, m6, m12, m13, m14, m15, m16, m17, HW⟩ hL hdep K' hK hK0
        have p10 : L 10 = true := hdep { on := 10, ground := Ground.data } (by simp) rfl
        have h17 : L 17 = false := by
          cases q : L 17 with
          | false => rfl
          | true => exact absurd ((m15 (m16 (m17 q))).2.2.2.2.2.2.2.2.2.2.2.1) (by rw [hL]; decide)
        have h12 : L 12 = false := by
          cases q : L 12 with
          | false => rfl
          | true => exact absurd (m12 q) (by rw [hL]; decide)
        have h13 : L 13 = false := by
          cases q : L 13 with
          | false => rfl
          | true => exact absurd (m13 q) (by rw [h12]; decide)
        have h14 : L 14 = false := by
          cases q : L 14 with
          | false => rfl
          | true => exact absurd (m14 q).2 (by rw [h13]; decide)
        have hB : wq.heap.size ≤ w'.heap.size := (HW.out.1 h17).low.size
        have q := d10 p10
        subst q
        refine step_make_full w' rfl (.tmp 50) (.tmp 50) 33 rfl wq.heap.size 37 i1 _ 4 Tryz.underlying33 hi1 hy0 hy1 .i64 .i64 m (F 10 50 _ rfl rfl) (F 10 50 _ rfl rfl) (by rw [hy2]; omega) (by unfold maxLen; omega) hB ?_
        intro w2 q1 q2
        have q1 := q1
        rw [show (Value.agg #[.int .i64 0, .int .u64 0, .string ⟨#[]⟩, .int .i64 0]).cells = #[.int .i64 0, .int .u64 0, .string ⟨#[]⟩, .int .i64 0] from rfl, made_vals] at q1
        have HW2 : Hid (((L 17) = false → WM wq w2 (PMa wq.heap.size rs (rOth k a b m (.slice (some ⟨w'.heap.size, 0, none⟩) m m)).cells (L 1) (L 6) (L 14) v41 v46 v54) (PMb wq.heap.size m (rOth k a b m (.slice (some ⟨w'.heap.size, 0, none⟩) m m)).cells true (L 13) (L 14) (.slice (some ⟨w'.heap.size, 0, none⟩) m m) v53)) ∧ ((L 17) = true → RP wq db lim (rs.map Rr.om ++ [⟨k, a, b, V0, [], [], List.replicate m V0⟩]) Q w2 ∧ ∃ xa xc, w2.cell? ⟨db, 0, none⟩ = some (.slice xa (rs.length + 1) xc))) := ⟨fun _ => by
          have h0 : WM wq w' (PMa wq.heap.size rs (rOth k a b m (.slice (some ⟨w'.heap.size, 0, none⟩) m m)).cells (L 1) (L 6) false v41 v46 v54) (PMb wq.heap.size m (rOth k a b m v51).cells (L 11) (L 13) (L 14) v51 v53) := (HW.out.1 h17).mono (fun X hX => ⟨hX.1, fun q _ => hX.2.1 q h14, fun q => by (cases q)⟩) (fun _ hX => hX)
          have hw := WM.stepB (PB' := PMb wq.heap.size m (rOth k a b m (.slice (some ⟨w'.heap.size, 0, none⟩) m m)).cells true false false (.slice (some ⟨w'.heap.size, 0, none⟩) m m) v53) h0 (PMa.lcl _ _ _ _ _ _ _ _ _) (w' := w2) (fun X hX _ => by
            refine ⟨⟨q2.os, q2.tape, q2.output, q2.size, fun j hj _ => q2.block j hj (fun e => by (cases e))⟩, fun _ => ⟨_, rfl, ?_, fun g hg => ?_⟩, fun q => by (cases q)⟩
            · rw [List.length_replicate]; exact q1
            · have e : w'.heap.size = g := by simpa [Value.ownBlock] using hg
              have := (World.ownsRow.lt q1 w'.heap.size rfl).2
              exact Or.inr ⟨by omega, by omega⟩)
          rw [h13, h14]
          exact hw, fun q => by rw [h17] at q; cases q⟩
        refine hK 11 51 _ w2 rfl ⟨_, _, _, _, _, _, _, _, _, _, _, _, _, _, _, _, _, rfl, d0, d2, d3, d4, d5, d7, d8, d9, (fun _ => rfl), (fun q => absurd (show L 12 = true from q) (by rw [h12]; decide)), d15, d16, (fun q => ⟨lmono (m6 q).1, lmono (m6 q).2⟩), (fun q => lmono (m12 q)), (fun q => lmono (m13 q)), (fun q => ⟨lmono (m14 q).1, lmono (m14 q).2⟩), (fun q => ⟨lmono (m15 q).1, lmono (m15 q).2.1, lmono (m15 q).2.2.1, lmono (m15 q).2.2.2.1, lmono (m15 q).2.2.2.2.1, lmono (m15 q).2.2.2.2.2.1, lmono (m15 q).2.2.2.2.2.2.1, lmono (m15 q).2.2.2.2.2.2.2.1, lmono (m15 q).2.2.2.2.2.2.2.2.1, lmono (m15 q).2.2.2.2.2.2.2.2.2.1, lmono (m15 q).2.2.2.2.2.2.2.2.2.2.1, lmono (m15 q).2.2.2.2.2.2.2.2.2.2.2.1, lmono (m15 q).2.2.2.2.2.2.2.2.2.2.2.2.1, lmono (m15 q).2.2.2.2.2.2.2.2.2.2.2.2.2.1, lmono (m15 q).2.2.2.2.2.2.2.2.2.2.2.2.2.2⟩), (fun q => lmono (m16 q)), (fun q => lmono (m17 q)), HW2⟩
      · rintro A L vs w' F G ⟨v40, v41, v42, v43, v44, v45, v46, v47, v48, v49, v50, v51, v52, v53, v54, v55, v56, rfl, d0, d2, d3, d4, d5, d7, d8, d9, d10, d12, d15, d16, m6, m12, m13, m14, m15, m16, m17, HW⟩ hL hdep K' hK hK0
        have p7 : L 7 = true := hdep { on := 7, ground := Ground.data } (by simp) rfl
        have p8 : L 8 = true := hdep { on := 8, ground := Ground.data } (by simp) rfl
        have p9 : L 9 = true := hdep { on := 9, ground := Ground.data } (by simp) rfl
        have p11 : L 11 = true := hdep { on := 11, ground := Ground.data } (by simp) rfl
        have h17 : L 17 = false := by
          cases q : L 17 with
          | false => rfl
          | true => exact absurd ((m15 (m16 (m17 q))).2.2.2.2.2.2.2.2.2.2.2.2.1) (by rw [hL]; decide)
        obtain ⟨sb, hsb⟩ : ∃ sb, v51 = .slice (some ⟨sb, 0, none⟩) m m := by
          obtain ⟨XA, XB, _, _, _, hpb⟩ := (HW.out.1 h17).ex
          obtain ⟨sb, e, _⟩ := hpb.1 p11
          exact ⟨sb, e⟩
        have q := d7 p7
        subst q
        have q := d8 p8
        subst q
        have q := d9 p9
        subst q
        subst hsb
        have g47 := evD (F 7 47 _ rfl rfl)
        have g48 := evD (F 8 48 _ rfl rfl)
        have g49 := evD (F 9 49 _ rfl rfl)
        have g51 := evD (F 11 51 _ rfl rfl)
        clear F G
        go_simp
        refine hK 12 52 _ w' rfl ⟨_, _, _, _, _, _, _, _, _, _, _, _, _, _, _, _, _, rfl, d0, d2, d3, d4, d5, (fun _ => rfl), (fun _ => rfl), (fun _ => rfl), d10, (fun _ => rfl), d15, d16, (fun q => ⟨lmono (m6 q).1, lmono (m6 q).2⟩), (fun _ => lmono p11), (fun q => lmono (m13 q)), (fun q => ⟨lmono (m14 q).1, lmono (m14 q).2⟩), (fun q => ⟨lmono (m15 q).1, lmono (m15 q).2.1, lmono (m15 q).2.2.1, lmono (m15 q).2.2.2.1, lmono (m15 q).2.2.2.2.1, lmono (m15 q).2.2.2.2.2.1, lmono (m15 q).2.2.2.2.2.2.1, lmono (m15 q).2.2.2.2.2.2.2.1, lmono (m15 q).2.2.2.2.2.2.2.2.1, lmono (m15 q).2.2.2.2.2.2.2.2.2.1, lmono (m15 q).2.2.2.2.2.2.2.2.2.2.1, lmono (m15 q).2.2.2.2.2.2.2.2.2.2.2.1, lmono (m15 q).2.2.2.2.2.2.2.2.2.2.2.2.1, lmono (m15 q).2.2.2.2.2.2.2.2.2.2.2.2.2.1, lmono (m15 q).2.2.2.2.2.2.2.2.2.2.2.2.2.2⟩), (fun q => lmono (m16 q)), (fun q => lmono (m17 q)), HW⟩
      · rintro A L vs w' F G ⟨v40, v41, v42, v43, v44, v45, v46, v47, v48, v49, v50, v51, v52, v53, v54, v55, v56, rfl, d0, d2, d3, d4, d5, d7, d8, d9, d10, d12, d15, d16, m6, m12, m13, m14, m15, m16, m17, HW⟩ hL hdep K' hK hK0
        have p12 : L 12 = true := hdep { on := 12, ground := Ground.data } (by simp) rfl
        have h17 : L 17 = false := by
          cases q : L 17 with
          | false => rfl
          | true => exact absurd ((m15 (m16 (m17 q))).2.2.2.2.2.2.2.2.2.2.2.2.2.1) (by rw [hL]; decide)
        have h14 : L 14 = false := by
          cases q : L 14 with
          | false => rfl
          | true => exact absurd (m14 q).2 (by rw [hL]; decide)
        have p11 := m12 p12
        have hB : wq.heap.size ≤ w'.heap.size := (HW.out.1 h17).low.size
        have HW2 : Hid (((L 17) = false → WM wq (w'.alloc (.cells #[.int .i64 k, .slice none 0 0, .slice none 0 0, .int .i64 0, .int .u64 0, .string ⟨#[]⟩, .int .i64 0, .int .i64 a, .int .i64 b, v51] 39)) (PMa wq.heap.size rs (rOth k a b m v51).cells (L 1) (L 6) (L 14) v41 v46 v54) (PMb wq.heap.size m (rOth k a b m v51).cells (L 11) true (L 14) v51 (.slice (some ⟨w'.heap.size, 0, none⟩) 1 1))) ∧ ((L 17) = true → RP wq db lim (rs.map Rr.om ++ [⟨k, a, b, V0, [], [], List.replicate m V0⟩]) Q (w'.alloc (.cells #[.int .i64 k, .slice none 0 0, .slice none 0 0, .int .i64 0, .int .u64 0, .string ⟨#[]⟩, .int .i64 0, .int .i64 a, .int .i64 b, v51] 39)) ∧ ∃ xa xc, (w'.alloc (.cells #[.int .i64 k, .slice none 0 0, .slice none 0 0, .int .i64 0, .int .u64 0, .string ⟨#[]⟩, .int .i64 0, .int .i64 a, .int .i64 b, v51] 39)).cell? ⟨db, 0, none⟩ = some (.slice xa (rs.length + 1) xc))) := ⟨fun _ => by
          have hw := WM.stepB (PB' := PMb wq.heap.size m (rOth k a b m v51).cells true true false v51 (.slice (some ⟨w'.heap.size, 0, none⟩) 1 1)) (HW.out.1 h17) (PMa.lcl _ _ _ _ _ _ _ _ _) (w' := (w'.alloc (.cells #[.int .i64 k, .slice none 0 0, .slice none 0 0, .int .i64 0, .int .u64 0, .string ⟨#[]⟩, .int .i64 0, .int .i64 a, .int .i64 b, v51] 39))) (fun X hX hb => by
            have hbl : Below w'.heap.size w' (w'.alloc (.cells #[.int .i64 k, .slice none 0 0, .slice none 0 0, .int .i64 0, .int .u64 0, .string ⟨#[]⟩, .int .i64 0, .int .i64 a, .int .i64 b, v51] 39)) := (Below.refl _ _).alloc (Nat.le_refl _) _
            refine ⟨Wx.of_below X hbl, fun _ => ?_, fun _ _ => ⟨_, rfl, Or.inr ⟨Nat.le_refl _, by simp⟩, heap_alloc_new w' _⟩⟩
            obtain ⟨sb, e, hr⟩ := hX.1 p11
            exact ⟨sb, e, rowStay hr.1 (fun g hg => hbl.block g (hb g (hr.2 g hg)).2), fun g hg => Or.inl (hr.2 g hg)⟩)
          rw [p11]
          rw [h14] at hw ⊢
          exact hw, fun q => by rw [h17] at q; cases q⟩
        have q := d12 p12
        subst q
        have g52 := evD (F 12 52 _ rfl rfl)
        clear F G
        go_simp
        refine hK 13 53 _ _ rfl ⟨_, _, _, _, _, _, _, _, _, _, _, _, _, _, _, _, _, rfl, d0, d2, d3, d4, d5, d7, d8, d9, d10, (fun _ => rfl), d15, d16, (fun q => ⟨lmono (m6 q).1, lmono (m6 q).2⟩), (fun q => lmono (m12 q)), (fun _ => lmono p12), (fun q => ⟨lmono (m14 q).1, lmono (m14 q).2⟩), (fun q => ⟨lmono (m15 q).1, lmono (m15 q).2.1, lmono (m15 q).2.2.1, lmono (m15 q).2.2.2.1, lmono (m15 q).2.2.2.2.1, lmono (m15 q).2.2.2.2.2.1, lmono (m15 q).2.2.2.2.2.2.1, lmono (m15 q).2.2.2.2.2.2.2.1, lmono (m15 q).2.2.2.2.2.2.2.2.1, lmono (m15 q).2.2.2.2.2.2.2.2.2.1, lmono (m15 q).2.2.2.2.2.2.2.2.2.2.1, lmono (m15 q).2.2.2.2.2.2.2.2.2.2.2.1, lmono (m15 q).2.2.2.2.2.2.2.2.2.2.2.2.1, lmono (m15 q).2.2.2.2.2.2.2.2.2.2.2.2.2.1, lmono (m15 q).2.2.2.2.2.2.2.2.2.2.2.2.2.2⟩), (fun q => lmono (m16 q)), (fun q => lmono (m17 q)), HW2⟩
      · rintro A L vs w' F G ⟨v40, v41, v42, v43, v44, v45, v46, v47, v48, v49, v50, v51, v52, v53, v54, v55, v56, rfl, d0, d2, d3, d4, d5, d7, d8, d9, d10, d12, d15, d16, m6, m12, m13, m14, m15, m16, m17, HW⟩ hL hdep K' hK hK0
        have p6 : L 6 = true := hdep { on := 6, ground := Ground.data } (by simp) rfl
        have p13 : L 13 = true := hdep { on := 13, ground := Ground.data } (by simp) rfl
        have h17 : L 17 = false := by
          cases q : L 17 with
          | false => rfl
          | true => exact absurd ((m15 (m16 (m17 q))).2.2.2.2.2.2.2.2.2.2.2.2.2.2) (by rw [hL]; decide)
        have hB : wq.heap.size ≤ w'.heap.size := (HW.out.1 h17).low.size
        have p1 := (m6 p6).1
        have p11 := m12 (m13 p13)
        obtain ⟨hrow, g, hg, hblk, sb, hsb⟩ : w'.ownsRow wq.heap.size 39 10 v46 rs.length (rC rs) ∧ ∃ g, v53 = .slice (some ⟨g, 0, none⟩) 1 1 ∧ w'.heap[g]? = some (.cells ((rOth k a b m v51).cells).toArray 39 (0, 0)) ∧ ∃ sb, v51 = .slice (some ⟨sb, 0, none⟩) m m := by
          obtain ⟨XA, XB, _, _, hpa, hpb⟩ := (HW.out.1 h17).ex
          obtain ⟨g, e1, _, e3⟩ := hpb.2 p13 hL
          obtain ⟨sb, e, _⟩ := hpb.1 p11
          exact ⟨(hpa.2.1 p6 hL).2.1, g, e1, e3, sb, e⟩
        refine step_append_src w' rfl (.tmp 46) (.tmp 53) 29 rfl wq.heap.size 39 i0 _ 10 136 Tryz.underlying29 hi0 hz0 hz1 hz2 rfl (by decide) v46 rs.length (rC rs) (F 6 46 _ rfl rfl) hrow v53 1 (rOth k a b m v51).cells (F 13 53 _ rfl rfl) (by rw [hg]; exact src_one hblk rfl (by rw [hsb]; intro u hu; simp [rOth, Rr.cells] at hu; rcases hu with rfl | rfl | rfl | rfl | rfl | rfl | rfl | rfl | rfl <;> rfl)) (by unfold maxLen; omega) (by omega) hB ?_
        intro a' c' w2 q1 q2 q3
        have HW2 : Hid (((L 17) = false → WM wq w2 (PMa wq.heap.size rs (rOth k a b m v51).cells (L 1) (L 6) true v41 v46 (.slice a' (rs.length + 1) c')) (PMb wq.heap.size m (rOth k a b m v51).cells (L 11) (L 13) true v51 v53)) ∧ ((L 17) = true → RP wq db lim (rs.map Rr.om ++ [⟨k, a, b, V0, [], [], List.replicate m V0⟩]) Q w2 ∧ ∃ xa xc, w2.cell? ⟨db, 0, none⟩ = some (.slice xa (rs.length + 1) xc))) := ⟨fun _ => by
          have h0 : WM wq w' (PMa wq.heap.size rs (rOth k a b m v51).cells (L 1) (L 6) (L 14) v41 v46 v54) (PMb wq.heap.size m (rOth k a b m v51).cells true true true v51 v53) := (HW.out.1 h17).mono (fun _ hX => hX) (fun X hX => ⟨fun _ => hX.1 p11, fun _ q => by (cases q)⟩)
          have hw := WM.stepA (PA' := PMa wq.heap.size rs (rOth k a b m v51).cells true true true v41 v46 (.slice a' (rs.length + 1) c')) h0 (PMb.lcl _ _ _ _ _ _ _ _) (w' := w2) (fun X hX _ => by
            obtain ⟨e1, e2⟩ := RwIn.app (hX.2.1 p6 hL) q1 q2 q3
            exact ⟨e1, fun _ q => by (cases q), fun _ q => by (cases q), fun _ => e2⟩)
          rw [p1, p6, p11, p13]
          exact hw, fun q => by rw [h17] at q; cases q⟩
        refine hK 14 54 _ w2 rfl ⟨_, _, _, _, _, _, _, _, _, _, _, _, _, _, _, _, _, rfl, d0, d2, d3, d4, d5, d7, d8, d9, d10, d12, d15, d16, (fun q => ⟨lmono (m6 q).1, lmono (m6 q).2⟩), (fun q => lmono (m12 q)), (fun q => lmono (m13 q)), (fun _ => ⟨lmono p6, lmono p13⟩), (fun q => ⟨lmono (m15 q).1, lmono (m15 q).2.1, lmono (m15 q).2.2.1, lmono (m15 q).2.2.2.1, lmono (m15 q).2.2.2.2.1, lmono (m15 q).2.2.2.2.2.1, lmono (m15 q).2.2.2.2.2.2.1, lmono (m15 q).2.2.2.2.2.2.2.1, lmono (m15 q).2.2.2.2.2.2.2.2.1, lmono (m15 q).2.2.2.2.2.2.2.2.2.1, lmono (m15 q).2.2.2.2.2.2.2.2.2.2.1, lmono (m15 q).2.2.2.2.2.2.2.2.2.2.2.1, lmono (m15 q).2.2.2.2.2.2.2.2.2.2.2.2.1, lmono (m15 q).2.2.2.2.2.2.2.2.2.2.2.2.2.1, lmono (m15 q).2.2.2.2.2.2.2.2.2.2.2.2.2.2⟩), (fun q => lmono (m16 q)), (fun q => lmono (m17 q)), HW2⟩
      · rintro A L vs w' F G ⟨v40, v41, v42, v43, v44, v45, v46, v47, v48, v49, v50, v51, v52, v53, v54, v55, v56, rfl, d0, d2, d3, d4, d5, d7, d8, d9, d10, d12, d15, d16, m6, m12, m13, m14, m15, m16, m17, HW⟩ hL hdep K' hK hK0
        have p0 : L 0 = true := hdep { on := 0, ground := Ground.data } (by simp) rfl
        have p1 : L 1 = true := hdep { on := 1, ground := Ground.phase } (by simp) rfl
        have p2 : L 2 = true := hdep { on := 2, ground := Ground.phase } (by simp) rfl
        have p3 : L 3 = true := hdep { on := 3, ground := Ground.phase } (by simp) rfl
        have p4 : L 4 = true := hdep { on := 4, ground := Ground.phase } (by simp) rfl
        have p5 : L 5 = true := hdep { on := 5, ground := Ground.phase } (by simp) rfl
        have p6 : L 6 = true := hdep { on := 6, ground := Ground.phase } (by simp) rfl
        have p7 : L 7 = true := hdep { on := 7, ground := Ground.phase } (by simp) rfl
        have p8 : L 8 = true := hdep { on := 8, ground := Ground.phase } (by simp) rfl
        have p9 : L 9 = true := hdep { on := 9, ground := Ground.phase } (by simp) rfl
        have p10 : L 10 = true := hdep { on := 10, ground := Ground.phase } (by simp) rfl
        have p11 : L 11 = true := hdep { on := 11, ground := Ground.phase } (by simp) rfl
        have p12 : L 12 = true := hdep { on := 12, ground := Ground.phase } (by simp) rfl
        have p13 : L 13 = true := hdep { on := 13, ground := Ground.phase } (by simp) rfl
        have p14 : L 14 = true := hdep { on := 14, ground := Ground.phase } (by simp) rfl
        have q := d0 p0
        subst q
        have g40 := evD (F 0 40 _ rfl rfl)
        clear F G
        go_simp
        refine hK 15 55 _ w' rfl ⟨_, _, _, _, _, _, _, _, _, _, _, _, _, _, _, _, _, rfl, (fun _ => rfl), d2, d3, d4, d5, d7, d8, d9, d10, d12, (fun _ => rfl), d16, (fun q => ⟨lmono (m6 q).1, lmono (m6 q).2⟩), (fun q => lmono (m12 q)), (fun q => lmono (m13 q)), (fun q => ⟨lmono (m14 q).1, lmono (m14 q).2⟩), (fun _ => ⟨lmono p0, lmono p1, lmono p2, lmono p3, lmono p4, lmono p5, lmono p6, lmono p7, lmono p8, lmono p9, lmono p10, lmono p11, lmono p12, lmono p13, lmono p14⟩), (fun q => lmono (m16 q)), (fun q => lmono (m17 q)), HW⟩
      · rintro A L vs w' F G ⟨v40, v41, v42, v43, v44, v45, v46, v47, v48, v49, v50, v51, v52, v53, v54, v55, v56, rfl, d0, d2, d3, d4, d5, d7, d8, d9, d10, d12, d15, d16, m6, m12, m13, m14, m15, m16, m17, HW⟩ hL hdep K' hK hK0
        have p15 : L 15 = true := hdep { on := 15, ground := Ground.data } (by simp) rfl
        have q := d15 p15
        subst q
        have g55 := evD (F 15 55 _ rfl rfl)
        clear F G
        go_simp
        refine hK 16 56 _ w' rfl ⟨_, _, _, _, _, _, _, _, _, _, _, _, _, _, _, _, _, rfl, d0, d2, d3, d4, d5, d7, d8, d9, d10, d12, (fun _ => rfl), (fun _ => rfl), (fun q => ⟨lmono (m6 q).1, lmono (m6 q).2⟩), (fun q => lmono (m12 q)), (fun q => lmono (m13 q)), (fun q => ⟨lmono (m14 q).1, lmono (m14 q).2⟩), (fun q => ⟨lmono (m15 q).1, lmono (m15 q).2.1, lmono (m15 q).2.2.1, lmono (m15 q).2.2.2.1, lmono (m15 q).2.2.2.2.1, lmono (m15 q).2.2.2.2.2.1, lmono (m15 q).2.2.2.2.2.2.1, lmono (m15 q).2.2.2.2.2.2.2.1, lmono (m15 q).2.2.2.2.2.2.2.2.1, lmono (m15 q).2.2.2.2.2.2.2.2.2.1, lmono (m15 q).2.2.2.2.2.2.2.2.2.2.1, lmono (m15 q).2.2.2.2.2.2.2.2.2.2.2.1, lmono (m15 q).2.2.2.2.2.2.2.2.2.2.2.2.1, lmono (m15 q).2.2.2.2.2.2.2.2.2.2.2.2.2.1, lmono (m15 q).2.2.2.2.2.2.2.2.2.2.2.2.2.2⟩), (fun _ => lmono p15), (fun q => lmono (m17 q)), HW⟩
      · rintro A L vs w' F G ⟨v40, v41, v42, v43, v44, v45, v46, v47, v48, v49, v50, v51, v52, v53, v54, v55, v56, rfl, d0, d2, d3, d4, d5, d7, d8, d9, d10, d12, d15, d16, m6, m12, m13, m14, m15, m16, m17, HW⟩ hL hdep K' hK hK0
        have p16 : L 16 = true := hdep { on := 16, ground := Ground.data } (by simp) rfl
        have p14 : L 14 = true := hdep { on := 14, ground := Ground.data } (by simp) rfl
        have p1 := (m6 (m14 p14).1).1
        have p6 := (m14 p14).1
        have p11 := m12 (m13 (m14 p14).2)
        have p13 := (m14 p14).2
        have hw := HW.out.1 hL
        rw [p1, p6, p11, p13, p14] at hw
        obtain ⟨XA, XB, x1, x2, hpa, hpb⟩ := hw.ex
        obtain ⟨⟨a', c', hv54⟩, hrow, hin⟩ := hpa.2.2 rfl
        obtain ⟨sb, hsb, hrs⟩ := hpb.1 rfl
        have cc : w'.cell? ⟨db, 0, none⟩ = some (.slice a0 rs.length cap) := (hw.low.cell hdb).trans a0c
        have hf : w'.frozen? ⟨db, 0, none⟩ = false := (hw.low.frozen hdb).trans hfd
        have q := d16 p16
        subst q
        subst hv54
        have HW2 : Hid ((true = false → WM wq (w'.setCell ⟨db, 0, none⟩ (.slice a' (rs.length + 1) c')) (PMa wq.heap.size rs (rOth k a b m v51).cells (L 1) (L 6) (L 14) v41 v46 (.slice a' (rs.length + 1) c')) (PMb wq.heap.size m (rOth k a b m v51).cells (L 11) (L 13) (L 14) v51 v53)) ∧ (true = true → RP wq db lim (rs.map Rr.om ++ [⟨k, a, b, V0, [], [], List.replicate m V0⟩]) Q (w'.setCell ⟨db, 0, none⟩ (.slice a' (rs.length + 1) c')) ∧ ∃ xa xc, (w'.setCell ⟨db, 0, none⟩ (.slice a' (rs.length + 1) c')).cell? ⟨db, 0, none⟩ = some (.slice xa (rs.length + 1) xc))) := ⟨fun q => by (cases q), fun _ => ⟨by
          refine Rv.snoc2 HV2.out (r := rOth k a b m v51) hw.low hrow (rOth_v (vr_of hrs.1) (fun g hg => Or.inr ((x2 g (Or.inr (hrs.2 g hg)))))) (fun g hg => ⟨fun e => x1 g (hin g e) (by
            rcases hg with q | q | q
            · simp [rOth, Value.ownBlock] at q
            · simp [rOth, Value.ownBlock] at q
            · exact hrs.2 g q), by
            rcases hg with q | q | q
            · simp [rOth, Value.ownBlock] at q
            · simp [rOth, Value.ownBlock] at q
            · have := (x2 g (Or.inr (hrs.2 g q))).1
              omega⟩) ?_
          have h1 : (rOth k a b m v51).om.wt = 1 + m := by simp [rOth, Om.wt]
          have := HC.out
          have := HUU.out
          omega, a', c', World.cell?_setCell_same _ _ _ cc⟩⟩
        clear hw hpa hpb hrow hin hrs x1 x2
        have g56 := evD (F 16 56 _ rfl rfl)
        have g54 := evD (F 14 54 _ rfl rfl)
        clear F G
        go_simp
        refine hK0 _ ⟨_, _, _, _, _, _, _, _, _, _, _, _, _, _, _, _, _, rfl, d0, d2, d3, d4, d5, d7, d8, d9, d10, d12, d15, (fun _ => rfl), (fun q => ⟨lmono (m6 q).1, lmono (m6 q).2⟩), (fun q => lmono (m12 q)), (fun q => lmono (m13 q)), (fun q => ⟨lmono (m14 q).1, lmono (m14 q).2⟩), (fun q => ⟨lmono (m15 q).1, lmono (m15 q).2.1, lmono (m15 q).2.2.1, lmono (m15 q).2.2.2.1, lmono (m15 q).2.2.2.2.1, lmono (m15 q).2.2.2.2.2.1, lmono (m15 q).2.2.2.2.2.2.1, lmono (m15 q).2.2.2.2.2.2.2.1, lmono (m15 q).2.2.2.2.2.2.2.2.1, lmono (m15 q).2.2.2.2.2.2.2.2.2.1, lmono (m15 q).2.2.2.2.2.2.2.2.2.2.1, lmono (m15 q).2.2.2.2.2.2.2.2.2.2.2.1, lmono (m15 q).2.2.2.2.2.2.2.2.2.2.2.2.1, lmono (m15 q).2.2.2.2.2.2.2.2.2.2.2.2.2.1, lmono (m15 q).2.2.2.2.2.2.2.2.2.2.2.2.2.2⟩), (fun q => lmono (m16 q)), (fun _ => lmono p16), HW2⟩
      · rintro L vs w' hall ⟨v40, v41, v42, v43, v44, v45, v46, v47, v48, v49, v50, v51, v52, v53, v54, v55, v56, rfl, d0, d2, d3, d4, d5, d7, d8, d9, d10, d12, d15, d16, m6, m12, m13, m14, m15, m16, m17, HW⟩
        obtain ⟨hrp, hcc⟩ := HW.out.2 (hall 17 (by decide))
        have HE := hide_p hrp
        have HE2 := hide_p hcc
        clear d0 d2 d3 d4 d5 d7 d8 d9 d10 d12 d15 d16 m6 m12 m13 m14 m15 m16 m17 HW hrp hcc
        simp only [puts]
        go_simp
        go_step
        go_meet
        exact ⟨rfl, HE.out, HE2.out⟩
    case rest =>
      obtain ⟨rfl, HE, a', c', hcc⟩ := hcut
      clear a0c hfd
      go_wp2
      go_ret2
      exact ⟨rfl, RP.from HE.out HBQ.out⟩

set_option maxHeartbeats 1000000 in
theorem rmake_full {w : World} {db lim : Nat} {R : Value} {rs : List Rr} {Q : Nat → Prop} (h : Rv w db lim R rs Q) (k a b : Int) (m : Nat) (hk : k = 6 ∨ k = 7 ∨ k = 9) (hm : m ≤ 255) (hu : ¬ usedR rs + (1 + m) ≤ lim) :
    Calls Tryz.prog 32 #[.pointer (some ⟨db, 0, none⟩), .int .i64 k, .int .i64 a, .int .i64 b, .int .i64 (m : Int)] w fun e w' => e = .returned (.tuple #[.int .i64 0, .int .i64 2]) ∧ Below w.heap.size w w' := by
  have HU : Hid (∀ q, Calls Tryz.prog 44 #[.pointer (some ⟨db, 0, none⟩)] (w.drewN q) fun e w' => e = .returned (.int .i64 ((usedR rs : Nat) : Int)) ∧ ∃ m, w' = (w.drewN q).drewN m) := fun q => rused_any (h.below (hp_drewN w q))
  have hc1 := h.c1
  have hul : usedR rs ≤ 1048576 := Nat.le_trans h.hu h.hl
  have hll := h.hl
  have hn0 : ¬ ((m : Int) < 0) := by omega
  have hn1 : ¬ ((m : Int) > 255) := by omega
  have c2 : ((usedR rs : Int) + 1 + (m : Int) > (lim : Int)) := by omega
  have HBQ : Hid (∀ q, Below w.heap.size w (w.drewN q)) := fun q => hp_drewN w q
  clear h hu
  generalize usedR rs = u at *
  rcases hk with rfl | rfl | rfl
  all_goals
    go_enter Tryz.func32, Tryz.ntmps32
    go_wp2_with fail
    go_quiet ((go_at_call 44; exact Calls.quiet_of (HU.out _)))
    clear HU
    go_wp2
    go_ret2
    exact ⟨rfl, HBQ.out nq⟩

theorem rmake_any {w : World} {db lim : Nat} {R : Value} {rs : List Rr} {Q : Nat → Prop} (h : Rv w db lim R rs Q) (k a b n : Int) :
    Calls Tryz.prog 32 #[.pointer (some ⟨db, 0, none⟩), .int .i64 k, .int .i64 a, .int .i64 b, .int .i64 n] w fun e w' => e = .returned (.tuple #[.int .i64 (makeM lim (rs.map Rr.om) k a b n).1.1, .int .i64 (makeM lim (rs.map Rr.om) k a b n).1.2]) ∧ RP w db lim (makeM lim (rs.map Rr.om) k a b n).2 Q w' := by
  by_cases c : (k ≠ 6 ∧ k ≠ 7 ∧ k ≠ 9) ∨ n < 0 ∨ 255 < n
  · have hm : makeM lim (rs.map Rr.om) k a b n = ((0, 1), rs.map Rr.om) := by unfold makeM; rw [if_pos c]
    rw [hm]
    refine (rmake_bad w db k a b n c).mono ?_
    rintro e w' ⟨rfl, rfl⟩
    exact ⟨rfl, h.rp (Below.refl _ _)⟩
  · obtain ⟨m, rfl⟩ : ∃ m : Nat, n = (m : Int) := ⟨n.toNat, by omega⟩
    by_cases d : usedR rs + (1 + m) ≤ lim
    · have hm : makeM lim (rs.map Rr.om) k a b (m : Int) = ((((rs.length + 1 : Nat) : Int), 0), rs.map Rr.om ++ [⟨k, a, b, V0, [], [], List.replicate m V0⟩]) := by unfold makeM; rw [if_neg c, used_rom, Int.toNat_natCast, if_pos d, List.length_map]
      rw [hm]
      exact rmake_ok h k a b m (by omega) (by omega) d
    · have hm : makeM lim (rs.map Rr.om) k a b (m : Int) = ((0, 2), rs.map Rr.om) := by unfold makeM; rw [if_neg c, used_rom, Int.toNat_natCast, if_neg d]
      rw [hm]
      refine (rmake_full h k a b m (by omega) (by omega) d).mono ?_
      rintro e w' ⟨rfl, hb1⟩
      exact ⟨rfl, h.rp hb1⟩

end Go.Proofs.YthmocdabakkfhaaGreatDoor
