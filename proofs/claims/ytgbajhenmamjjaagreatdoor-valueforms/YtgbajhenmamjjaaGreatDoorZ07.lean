/-
  Pt2, Pt3, Pt4, DigRound, DigRef
-/
import Derived.Deep.AppendLies
import Derived.Test.YtgbajhenmamjjaaGreatDoorZ06

/-
  The walks of timesAnd, minus, compare, bitLen, partsOf and Clone over parts.
-/
namespace Go.Proofs.YtgbajhenmamjjaaGreatDoor
set_option maxRecDepth 100000
open Go.RowKit Pt

theorem pu_made (w : World) (x y : Nat) (hx : x < 4294967296) (hy : y < 4294967296) : PU (w.alloc (.cells #[.int .u32 (x : Int), .int .u32 (y : Int)] 90)) w.heap.size (.slice (some ⟨w.heap.size, 0, none⟩) 2 2) [x, y] := by
  refine ⟨2, rfl, ?_, rfl, .inr ⟨w.heap.size, 2, _, rfl, Nat.zero_le _, heap_alloc_new w _, Nat.le_refl _, by unfold maxLen; omega, rfl, rfl⟩⟩
  intro d hd
  simp at hd
  omega
theorem pr_empty (w : World) : PR (w.alloc (.cells #[] 90)) w.heap.size (.slice (some ⟨w.heap.size, 0, none⟩) 0 0) 0 :=
  ⟨[], ⟨0, rfl, by intro d hd; simp at hd, rfl, .inr ⟨w.heap.size, 0, _, rfl, Nat.zero_le _, heap_alloc_new w _, Nat.le_refl _, by unfold maxLen; omega, rfl, rfl⟩⟩, rfl, Or.inl rfl⟩

set_option maxHeartbeats 400000 in
theorem partsOf_any (n : Nat) (w : World) (hn : n < 18446744073709551616) :
    Calls Tryz.prog 61 #[.int .u64 n] w fun e w' => ∃ v', e = .returned v' ∧ PR w' w.heap.size v' n ∧ Below w.heap.size w w' := by
  obtain ⟨x, hx⟩ : ∃ x, x = n % 4294967296 := ⟨_, rfl⟩
  obtain ⟨y, hy⟩ : ∃ y, y = n / 4294967296 := ⟨_, rfl⟩
  have t1 : (n : Int) % 4294967296 = (x : Int) := by omega
  have t2 : (n : Int) / 4294967296 = (y : Int) := by omega
  have t3 : (y : Int) % 4294967296 = (y : Int) := by omega
  have hP := pu_made w x y (by omega) (by omega)
  have HV : Hid (pv [x, y] = n) := by show pv [x, y] = n; simp [pv]; omega
  have hy2 : y < 4294967296 := by omega
  clear hx hy
  go_enter Tryz.func61, Tryz.ntmps61
  go_wp2_with (go_at_call 95; refine (trimmed_any w.heap.size 2 [x, y] _ hP).mono ?_; rintro e w' ⟨v', rfl, hR, rfl⟩)
  go_ret
  rw [HV.out] at hR
  exact ⟨_, rfl, hR, (Below.refl _ _).alloc (Nat.le_refl _) _⟩

set_option maxHeartbeats 1000000 in
theorem timesAnd_any (v : Value) (g n by' more K : Nat) (w : World) (hR : PR w g v n) (hn : n < 2 ^ K) (hK : K ≤ 1000000) (hb1 : 1 ≤ by') (hb2 : by' < 4294967296) (hm : more < 4294967296) :
    Calls Tryz.prog 65 #[v, .int .u32 by', .int .u32 more] w fun e w' => ∃ v' g', e = .returned v' ∧ PR w' g' v' (n * by' + more) ∧ w.grownBy w' (some g) ∧ (g' = g ∨ w.heap.size ≤ g') := by
  obtain ⟨ds, hP, hv, ht⟩ := hR
  have hgl := hP.lt
  have hlen : ds.length ≤ 1000001 := by have := len_bound (K := K) ht (by omega); omega
  obtain ⟨l, hl⟩ : ∃ l, l = ds.length := ⟨_, rfl⟩
  have hsm : Sm ds := hP.choose_spec.2.1
  obtain ⟨cap, hcap⟩ : ∃ cap, v = .slice (some ⟨g, 0, none⟩) l cap := by obtain ⟨cap, e, _⟩ := hP; exact ⟨cap, by rw [hl]; exact e⟩
  subst hcap
  obtain ⟨i0, hi, hz0, hz1, hz2⟩ := info_parts info32
  have HV : Hid (pv ds = n) := hv
  have HD : Hid (∀ j, j < l → ds.getD j 0 < 4294967296) := fun j _ => sm_getD j hsm
  have HT : Hid (Tr ds ∧ Sm ds ∧ l = ds.length) := ⟨ht, hsm, hl⟩
  have hl2 : l ≤ 1000001 := by omega
  have hcap := hP.cap.2
  have hcm := hcap.2
  have hcl := hcap.1
  unfold maxLen at hcm
  clear hv ht hsm hlen hn hl hcap
  go_enter Tryz.func65, Tryz.ntmps65
  go_wp2_with fail
  go_loopw [7, 14] (fun c t wr => ∃ (k cc : Nat) (rs : List Nat), k ≤ l ∧ t = .int .i64 k ∧ c = .int .u64 cc ∧ cc < 4294967296 ∧ PU wr g (.slice (some ⟨g, 0, none⟩) l cap) rs ∧ rs.length = l ∧
      (∀ j, k ≤ j → rs.getD j 0 = ds.getD j 0) ∧ Hid (pv (rs.take k) + 4294967296 ^ k * cc = pv (ds.take k) * by' + more) ∧ w.grownBy wr (some g)) (fun _ t _ => l - (intOf t).toNat)
  case atStart => exact ⟨0, more, ds, Nat.zero_le _, rfl, rfl, hm, hP, HT.out.2.2.symm, fun _ _ => rfl, by show pv _ + _ = _; simp [pv], gb_refl _ _⟩
  case round =>
    obtain ⟨k, cc, rs, hk, rfl, rfl, hcc, hPr, hrl, hrest, HI, hgb⟩ := hrel
    have HE : Hid (∀ j, k ≤ j → rs.getD j 0 = ds.getD j 0) := hrest
    clear hrest
    have HRL : Hid (rs.length = l) := hrl
    by_cases c : k < l
    · have hcell := hPr.cell (j := k) (by omega)
      have hfr := hPr.frozen k
      have hd := HD.out k c
      obtain ⟨d, hdd⟩ : ∃ d, d = ds.getD k 0 := ⟨_, rfl⟩
      rw [HE.out k (Nat.le_refl _), ← hdd] at hcell
      rw [← hdd] at hd
      obtain ⟨m1, m2⟩ := times_cc hcc hd hb2
      have m1i : (d : Int) * (by' : Int) ≤ 18446744065119617025 := by rw [← Int.natCast_mul]; omega
      have m0i : 0 ≤ (d : Int) * (by' : Int) := by rw [← Int.natCast_mul]; omega
      obtain ⟨y, hy⟩ : ∃ y, y = (cc + d * by') % 4294967296 := ⟨_, rfl⟩
      obtain ⟨c2, hc2⟩ : ∃ c2, c2 = (cc + d * by') / 4294967296 := ⟨_, rfl⟩
      have t1 : ((cc : Int) + (d : Int) * (by' : Int)) % 4294967296 = (y : Int) := by rw [hy]; simp
      have t2 : ((cc : Int) + (d : Int) * (by' : Int)) / 4294967296 = (c2 : Int) := by rw [hc2]; simp
      have HS : Hid (pv ((rs.set k y).take (k + 1)) + 4294967296 ^ (k + 1) * c2 = pv (ds.take (k + 1)) * by' + more) := by
        show pv _ + _ = _
        rw [hy, hc2, hdd]
        exact times_step (by omega) HI.out
      have hc3 : c2 < 4294967296 := by omega
      have hy3 : y < 4294967296 := by omega
      clear hdd hy hc2 m2 hrl
      go_wp2
      go_roundw
      case rel => exact ⟨k + 1, c2, rs.set k y, by omega, by go_num, rfl, hc3, hPr.stored hy3, by rw [List.length_set]; exact HRL.out, fun j hj => by rw [pget_set (by omega)]; exact HE.out j (by omega), HS, gb_trans hgb (gb_set _ _ _ _)⟩
      case measure => simp [intOf]; omega
    · have HK : Hid (k = l) := by show k = l; omega
      have HF : Hid (pv rs + 4294967296 ^ l * cc = n * by' + more) := by
        show pv rs + _ = _
        have := HI.out
        rw [HK.out, take_all HRL.out.symm, take_all HT.out.2.2, HV.out] at this
        exact this
      by_cases cz : cc = 0
      · subst cz
        have HQ : Hid (PR wr g (.slice (some ⟨g, 0, none⟩) l cap) (n * by' + more)) := by
          have h0 : pv rs = n * by' + more := by have := HF.out; rw [Nat.mul_zero, Nat.add_zero] at this; exact this
          exact ⟨rs, hPr, h0, tr_times (by rw [HRL.out, HT.out.2.2]) HT.out.1 hb1 (by rw [h0, HV.out])⟩
        go_wp2
        go_ret
        exact ⟨_, g, rfl, HQ.out, hgb, Or.inl rfl⟩
      · have hcz : ((cc : Int) == 0) = false := by rw [beq_eq_false_iff_ne]; omega
        have t3 : (cc : Int) % 4294967296 = (cc : Int) := by omega
        obtain ⟨cap', e', hs', hown⟩ := hPr
        have hown2 : (wr.alloc (.cells #[.int .u32 (cc : Int)] 90)).ownsRow 0 90 1 (.slice (some ⟨g, 0, none⟩) l cap) l (c32 rs) := by
          have := ownsRow_far (w' := wr.alloc (.cells #[.int .u32 (cc : Int)] 90)) hown (Below.heap_alloc wr _ g (Nat.lt_of_lt_of_le hgl hgb.size)) rfl
          rw [HRL.out] at this
          exact this
        have HM : Hid (Sm rs) := hs'
        clear hown e' hs' hrl HI
        go_wp2_with (at_builtin; refine wpList_append_lies _ rfl _ _ 59 rfl 0 90 i0 (.int .u32 0) 1 4 Tryz.underlying59 hi hz0 hz1 hz2 rfl (by decide) _ l (c32 rs) rfl hown2 ⟨wr.heap.size, 0, none⟩ 1 1 [.int .u32 (cc : Int)] rfl rfl (cell_one_new _ _ _) (by intro u hu; simp at hu; subst hu; rfl) (by decide) (by unfold maxLen; omega) (by omega) (Nat.zero_le _) _ rfl ?_)
        intro g2 cap2 w1 hown' hgrow hat _
        have HQ : Hid (∃ g', PR w1 g' (.slice (some ⟨g2, 0, none⟩) (l + 1) cap2) (n * by' + more) ∧ w.grownBy w1 (some g) ∧ (g' = g ∨ w.heap.size ≤ g')) := by
          have e1 : c32 rs ++ [.int .u32 (cc : Int)] = c32 (rs ++ [cc]) := by unfold c32; rw [List.map_append]; rfl
          rw [e1] at hown'
          have hgr : w.grownBy w1 (some g) := gb_trans (gb_trans hgb (World.grownBy_alloc _ _ _)) hgrow
          refine ⟨g2, ⟨rs ++ [cc], ⟨cap2, by rw [List.length_append, HRL.out]; rfl, sm_snoc HM.out hcc, by rw [List.length_append, HRL.out]; exact hown'⟩, ?_, tr_snoc cz⟩, hgr, ?_⟩
          · rw [pv_snoc, HRL.out]; exact HF.out
          · rcases hat with h | h
            · left; simp [Value.ownBlock] at h; exact h.symm
            · right; have := hgb.size; first | omega | (simp at h; omega)
        clear hown' hgrow hat
        go_wp2
        go_ret
        obtain ⟨g', q⟩ := HQ.out
        exact ⟨_, g', rfl, q⟩

/-- As the program compares. -/
def cmpI (n m : Nat) : Int := if n < m then -1 else if n = m then 0 else 1
theorem cmpI_lt {n m : Nat} (h : n < m) : cmpI n m = -1 := by unfold cmpI; rw [if_pos h]
theorem cmpI_eq {n m : Nat} (h : n = m) : cmpI n m = 0 := by unfold cmpI; rw [if_neg (by omega), if_pos h]
theorem cmpI_gt {n m : Nat} (h : m < n) : cmpI n m = 1 := by unfold cmpI; rw [if_neg (by omega), if_neg (by omega)]

theorem nanInt_any (x : Int) (w : World) : Calls Tryz.prog 111 #[.int .i64 x] w fun e w' => e = .returned (.bool false) ∧ w' = w := by
  go_enter Tryz.func111, Tryz.ntmps111
  go_wp2
  go_ret
  exact ⟨by simp, rfl⟩
theorem nanU_any (x : Int) (w : World) : Calls Tryz.prog 112 #[.int .u32 x] w fun e w' => e = .returned (.bool false) ∧ w' = w := by
  go_enter Tryz.func112, Tryz.ntmps112
  go_wp2
  go_ret
  exact ⟨by simp, rfl⟩
theorem cmpInt_any (n m : Nat) (w : World) (h : n ≠ m) : Calls Tryz.prog 96 #[.int .i64 n, .int .i64 m] w fun e w' => e = .returned (.int .i64 (cmpI n m)) ∧ w' = w := by
  rcases Nat.lt_or_gt_of_ne h with c | c
  · rw [cmpI_lt c]
    have c2 : (n : Int) < (m : Int) := by omega
    go_enter Tryz.func96, Tryz.ntmps96
    go_wp2_with (go_at_call 111; refine (nanInt_any _ _).mono ?_; rintro e w' ⟨rfl, rfl⟩)
    go_ret
    exact ⟨rfl, rfl⟩
  · rw [cmpI_gt c]
    have c2 : ¬ (n : Int) < (m : Int) := by omega
    have c3 : (m : Int) < (n : Int) := by omega
    go_enter Tryz.func96, Tryz.ntmps96
    go_wp2_with (go_at_call 111; refine (nanInt_any _ _).mono ?_; rintro e w' ⟨rfl, rfl⟩)
    go_ret
    exact ⟨rfl, rfl⟩
theorem cmpU_any (n m : Nat) (w : World) (h : n ≠ m) : Calls Tryz.prog 97 #[.int .u32 n, .int .u32 m] w fun e w' => e = .returned (.int .i64 (cmpI n m)) ∧ w' = w := by
  rcases Nat.lt_or_gt_of_ne h with c | c
  · rw [cmpI_lt c]
    have c2 : (n : Int) < (m : Int) := by omega
    go_enter Tryz.func97, Tryz.ntmps97
    go_wp2_with (go_at_call 112; refine (nanU_any _ _).mono ?_; rintro e w' ⟨rfl, rfl⟩)
    go_ret
    exact ⟨rfl, rfl⟩
  · rw [cmpI_gt c]
    have c2 : ¬ (n : Int) < (m : Int) := by omega
    have c3 : (m : Int) < (n : Int) := by omega
    go_enter Tryz.func97, Tryz.ntmps97
    go_wp2_with (go_at_call 112; refine (nanU_any _ _).mono ?_; rintro e w' ⟨rfl, rfl⟩)
    go_ret
    exact ⟨rfl, rfl⟩

set_option maxHeartbeats 1000000 in
theorem compare_any (v u : Value) (g h n m : Nat) (w : World) (hR : PR w g v n) (hS : PR w h u m) :
    Calls Tryz.prog 66 #[v, u] w fun e w' => e = .returned (.int .i64 (cmpI n m)) ∧ ∃ q, w' = w.drewN q := by
  obtain ⟨ds, hP, hv, ht⟩ := hR
  obtain ⟨ms, hQ, hu, hs⟩ := hS
  have hsd : Sm ds := hP.choose_spec.2.1
  have hsm : Sm ms := hQ.choose_spec.2.1
  obtain ⟨l, hl⟩ : ∃ l, l = ds.length := ⟨_, rfl⟩
  obtain ⟨k, hk⟩ : ∃ l, l = ms.length := ⟨_, rfl⟩
  obtain ⟨cap, hcap⟩ : ∃ cap, v = .slice (some ⟨g, 0, none⟩) l cap := by obtain ⟨cap, e, _⟩ := hP; exact ⟨cap, by rw [hl]; exact e⟩
  obtain ⟨cap2, hcap2⟩ : ∃ cap, u = .slice (some ⟨h, 0, none⟩) k cap := by obtain ⟨cap, e, _⟩ := hQ; exact ⟨cap, by rw [hk]; exact e⟩
  subst hcap
  subst hcap2
  have hc1 := hP.cap.2
  have hc2 := hQ.cap.2
  have b1 : l ≤ 9223372036854775807 := by unfold maxLen at hc1; omega
  have b2 : k ≤ 9223372036854775807 := by unfold maxLen at hc2; omega
  have HC : Hid (∀ j, j < l → w.cell? ⟨g, j, none⟩ = some (.int .u32 (ds.getD j 0 : Nat))) := fun j hj => hP.cell (by omega)
  have HC2 : Hid (∀ j, j < k → w.cell? ⟨h, j, none⟩ = some (.int .u32 (ms.getD j 0 : Nat))) := fun j hj => hQ.cell (by omega)
  have HV : Hid (pv ds = n ∧ pv ms = m ∧ Tr ds ∧ Tr ms ∧ Sm ds ∧ Sm ms ∧ l = ds.length ∧ k = ms.length) := ⟨hv, hu, ht, hs, hsd, hsm, hl, hk⟩
  by_cases c : l = k
  · subst c
    clear hP hQ hv hu ht hs hsd hsm hl hk hc1 hc2
    go_enter Tryz.func66, Tryz.ntmps66
    go_wp2_with fail
    go_loopw [5] (fun t wr => ∃ (j : Nat) (q : Nat), j ≤ l ∧ t = .int .i64 ((j : Int) - 1) ∧ wr = w.drewN q ∧ Hid (pv (ds.drop j) = pv (ms.drop j))) (fun t _ => (intOf t + 1).toNat)
    case atStart =>
      refine ⟨l, 0, Nat.le_refl _, rfl, rfl, ?_⟩
      obtain ⟨_, _, _, _, _, _, e1, e2⟩ := HV.out
      show pv _ = pv _
      rw [List.drop_of_length_le (by omega), List.drop_of_length_le (by omega)]
    case round =>
      obtain ⟨j, q, hj, rfl, rfl, HI⟩ := hrel
      cases j with
      | zero =>
        have HE : Hid (cmpI n m = 0) := by
          obtain ⟨e1, e2, _⟩ := HV.out
          have := HI.out
          simp at this
          exact cmpI_eq (by omega)
        rw [show ((0 : Nat) : Int) - 1 = -1 from rfl]
        go_wp2
        go_ret
        exact ⟨by rw [HE.out]; rfl, q, rfl⟩
      | succ j =>
        obtain ⟨d, hd⟩ : ∃ d, d = ds.getD j 0 := ⟨_, rfl⟩
        obtain ⟨e, he⟩ : ∃ d, d = ms.getD j 0 := ⟨_, rfl⟩
        have c1 := HC.out j (by omega)
        have c2 := HC2.out j (by omega)
        rw [← hd] at c1
        rw [← he] at c2
        have t0 : ((j + 1 : Nat) : Int) - 1 = (j : Int) := by omega
        rw [t0]
        by_cases de : d = e
        · have HS : Hid (pv (ds.drop j) = pv (ms.drop j)) := by
            show pv _ = pv _
            rw [drop_succ ds j, drop_succ ms j, HI.out, ← hd, ← he, de]
          subst de
          clear hd he t0
          go_wp2_with fail
          go_quiet (fail)
          go_wp2
          go_roundw
          case rel => exact ⟨j, _, by omega, rfl, rfl, HS⟩
          case measure => simp [intOf]
        · have HE : Hid (cmpI d e = cmpI n m) := by
            obtain ⟨e1, e2, _, _, s1, s2, l1, l2⟩ := HV.out
            show cmpI d e = cmpI n m
            rcases Nat.lt_or_gt_of_ne de with x | x
            · rw [cmpI_lt x, cmpI_lt]
              rw [← e1, ← e2]
              exact cmp_at s1 (k := j) (by omega) (by omega) HI.out (by omega)
            · rw [cmpI_gt x, cmpI_gt]
              rw [← e1, ← e2]
              exact cmp_at s2 (k := j) (by omega) (by omega) HI.out.symm (by omega)
          have HCU : Hid (∀ w, Calls Tryz.prog 97 #[.int .u32 d, .int .u32 e] w fun e' w' => e' = .returned (.int .i64 (cmpI n m)) ∧ w' = w) := fun w => by
            have := cmpU_any d e w de
            rw [HE.out] at this
            exact this
          have hne : ((d : Int) == (e : Int)) = false := by rw [beq_eq_false_iff_ne]; omega
          clear hd he t0 de
          go_wp2_with fail
          go_quiet (fail)
          obtain ⟨wq, hwq⟩ : ∃ wq, wq = (w.drewN q).drewN nq := ⟨_, rfl⟩
          have c1q : wq.cell? ⟨g, j, none⟩ = some (.int .u32 (d : Int)) := by rw [hwq]; exact c1
          have c2q : wq.cell? ⟨h, j, none⟩ = some (.int .u32 (e : Int)) := by rw [hwq]; exact c2
          have HW : Hid (∀ t, ∃ q, wq.drewN t = w.drewN q) := fun t => ⟨q + nq + t, by rw [hwq]; unfold World.drewN; simp [Nat.add_assoc]⟩
          rw [← hwq]
          clear c1 c2 hwq
          go_wp2_with fail
          go_quiet ((go_at_call 97; exact Calls.quiet_of_same (HCU.out _)))
          go_wp2
          go_ret
          exact ⟨rfl, HW.out _⟩
  · have HE : Hid (cmpI l k = cmpI n m) := by
      show cmpI l k = cmpI n m
      rcases Nat.lt_or_gt_of_ne c with x | x
      · rw [cmpI_lt x, cmpI_lt]
        rw [← hv, ← hu]
        exact cmp_len hsd hs (by omega)
      · rw [cmpI_gt x, cmpI_gt]
        rw [← hv, ← hu]
        exact cmp_len hsm ht (by omega)
    have HCI : Hid (∀ w, Calls Tryz.prog 96 #[.int .i64 l, .int .i64 k] w fun e' w' => e' = .returned (.int .i64 (cmpI n m)) ∧ w' = w) := fun w => by
      have := cmpInt_any l k w c
      rw [HE.out] at this
      exact this
    have hne : ((l : Int) == (k : Int)) = false := by rw [beq_eq_false_iff_ne]; omega
    clear hP hQ hv hu ht hs hsd hsm hl hk hc1 hc2 c
    go_enter Tryz.func66, Tryz.ntmps66
    go_wp2_with (go_at_call 96; refine (HCI.out _).mono ?_; rintro e w' ⟨rfl, rfl⟩)
    go_ret
    exact ⟨rfl, 0, rfl⟩

end Go.Proofs.YtgbajhenmamjjaaGreatDoor

/-
  The walks of minus, bitLen, Clone, timesTens, timesTwos over parts.
-/
namespace Go.Proofs.YtgbajhenmamjjaaGreatDoor
set_option maxRecDepth 100000
open Go.RowKit Pt

theorem PR.drewN {w : World} {g : Nat} {v : Value} {n : Nat} (h : PR w g v n) (q : Nat) : PR (w.drewN q) g v n := h

theorem bit_pick {d e bw : Nat} (hd : d < 4294967296) (he : e < 4294967296) (hb : bw ≤ 1) : ∃ df b2, df < 4294967296 ∧ b2 ≤ 1 ∧ df + e + bw = d + 4294967296 * b2 := by
  rcases Nat.lt_or_ge d (e + bw) with c | c
  · exact ⟨d + 4294967296 - e - bw, 1, by omega, by omega, by omega⟩
  · exact ⟨d - e - bw, 0, by omega, by omega, by omega⟩

set_option maxHeartbeats 1000000 in
theorem minus_any2 (v u : Value) (g h n m : Nat) (w : World) (hR : PR w g v n) (hS : PR w h u m) (hgh : h ≠ g) (hmn : m ≤ n) :
    Calls Tryz.prog 68 #[v, u] w fun e w' => ∃ v', e = .returned v' ∧ PR w' g v' (n - m) ∧ w.grownBy w' (some g) := by
  obtain ⟨ds, hP, hv, ht⟩ := hR
  obtain ⟨ms, hQ, hu, hs⟩ := hS
  have hsd : Sm ds := hP.choose_spec.2.1
  have hsm : Sm ms := hQ.choose_spec.2.1
  obtain ⟨l, hl⟩ : ∃ l, l = ds.length := ⟨_, rfl⟩
  obtain ⟨k, hk⟩ : ∃ l, l = ms.length := ⟨_, rfl⟩
  obtain ⟨cap, hcap⟩ : ∃ cap, v = .slice (some ⟨g, 0, none⟩) l cap := by obtain ⟨cap, e, _⟩ := hP; exact ⟨cap, by rw [hl]; exact e⟩
  obtain ⟨cap2, hcap2⟩ : ∃ cap, u = .slice (some ⟨h, 0, none⟩) k cap := by obtain ⟨cap, e, _⟩ := hQ; exact ⟨cap, by rw [hk]; exact e⟩
  subst hcap
  subst hcap2
  have hc1 := hP.cap.2
  have hc2 := hQ.cap.2
  have b1 : l ≤ 9223372036854775807 := by unfold maxLen at hc1; omega
  have b2 : k ≤ 9223372036854775807 := by unfold maxLen at hc2; omega
  have b3 := hc1.1
  have b4 := hc2.1
  have HV : Hid (pv ds = n ∧ pv ms = m ∧ Tr ds ∧ Tr ms ∧ Sm ds ∧ Sm ms ∧ l = ds.length ∧ k = ms.length) := ⟨hv, hu, ht, hs, hsd, hsm, hl, hk⟩
  clear hv hu ht hs hsd hsm hl hk hc1 hc2
  go_enter Tryz.func68, Tryz.ntmps68
  go_wp2_with fail
  go_loopw [5, 10] (fun c t wr => ∃ (j bw : Nat) (rs : List Nat), j ≤ l ∧ t = .int .i64 j ∧ c = .int .u32 bw ∧ bw ≤ 1 ∧ PU wr g (.slice (some ⟨g, 0, none⟩) l cap) rs ∧ rs.length = l ∧
      (∀ i, j ≤ i → rs.getD i 0 = ds.getD i 0) ∧ Hid (pv (rs.take j) + pv (ms.take j) = pv (ds.take j) + 4294967296 ^ j * bw) ∧ w.grownBy wr (some g)) (fun _ t _ => l - (intOf t).toNat)
  case atStart => exact ⟨0, 0, ds, Nat.zero_le _, rfl, rfl, by omega, hP, HV.out.2.2.2.2.2.2.1.symm, fun _ _ => rfl, by show pv _ + _ = _; simp [pv], gb_refl _ _⟩
  case round =>
    obtain ⟨j, bw, rs, hj, rfl, rfl, hbw, hPr, hrl, hrest, HI, hgb⟩ := hrel
    have HE : Hid (∀ i, j ≤ i → rs.getD i 0 = ds.getD i 0) := hrest
    have HRL : Hid (rs.length = l) := hrl
    clear hrest
    by_cases c : j < l
    · have hcell := hPr.cell (j := j) (by omega)
      have hfr := hPr.frozen j
      obtain ⟨d, hd⟩ : ∃ d, d = ds.getD j 0 := ⟨_, rfl⟩
      obtain ⟨e, he⟩ : ∃ e, e = ms.getD j 0 := ⟨_, rfl⟩
      rw [HE.out j (Nat.le_refl _), ← hd] at hcell
      have hd1 : d < 4294967296 := by rw [hd]; exact sm_getD j HV.out.2.2.2.2.1
      have he1 : e < 4294967296 := by rw [he]; exact sm_getD j HV.out.2.2.2.2.2.1
      obtain ⟨df, b2, hdf, hb2, hrel⟩ := bit_pick hd1 he1 hbw
      have HS : Hid (pv ((rs.set j df).take (j + 1)) + pv (ms.take (j + 1)) = pv (ds.take (j + 1)) + 4294967296 ^ (j + 1) * b2) := minus_step (by omega) HI.out (by rw [← hd, ← he]; exact hrel)
      have HSub : Hid (∀ w, Calls Tryz.prog 98 #[.int .u32 d, .int .u32 e, .int .u32 bw] w fun e w' => e = .returned (.tuple #[.int .u32 (df : Int), .int .u32 (b2 : Int)]) ∧ w' = w) := fun w => sub32_any d e bw df b2 w hd1 he1 hbw hdf hb2 hrel
      have hQr := hQ.other hgb hgh
      clear hrel hd hrl
      by_cases ck : j < k
      · have hcell2 := hQr.cell (j := j) (by have := HV.out.2.2.2.2.2.2.2; omega)
        rw [← he] at hcell2
        clear he
        go_wp2_with (go_at_call 98; refine (HSub.out _).mono ?_; rintro e w' ⟨rfl, rfl⟩)
        go_roundw
        case rel => exact ⟨j + 1, b2, rs.set j df, by omega, by go_num, rfl, hb2, hPr.stored hdf, by rw [List.length_set]; exact HRL.out, fun i hi => by rw [pget_set (by omega)]; exact HE.out i (by omega), HS, gb_trans hgb (gb_set _ _ _ _)⟩
        case measure => simp [intOf]; omega
      · have ez : e = 0 := by
          rw [he, List.getD_eq_getElem?_getD, List.getElem?_eq_none (by have := HV.out.2.2.2.2.2.2.2; omega)]; rfl
        subst ez
        clear he
        go_wp2_with (go_at_call 98; refine (HSub.out _).mono ?_; rintro e w' ⟨rfl, rfl⟩)
        go_roundw
        case rel => exact ⟨j + 1, b2, rs.set j df, by omega, by go_num, rfl, hb2, hPr.stored hdf, by rw [List.length_set]; exact HRL.out, fun i hi => by rw [pget_set (by omega)]; exact HE.out i (by omega), HS, gb_trans hgb (gb_set _ _ _ _)⟩
        case measure => simp [intOf]; omega
    · have hjl : j = l := by omega
      have HF : Hid (pv rs = n - m) := by
        obtain ⟨e1, e2, t1, t2, s1, s2, l1, l2⟩ := HV.out
        have hI := HI.out
        rw [hjl, l1] at hI
        have := pm_end (by rw [HRL.out, l1]) hPr.choose_spec.2.1 s1 t2 (by omega) hI
        show pv rs = n - m
        rw [this, e1, e2]
      have hPr2 : PU wr g (.slice (some ⟨g, 0, none⟩) rs.length cap) rs := by rw [HRL.out]; exact hPr
      have HTr : Hid (Calls Tryz.prog 95 #[.slice (some ⟨g, 0, none⟩) l cap] wr fun e w' => ∃ v', e = .returned v' ∧ PR wr g v' (n - m) ∧ w' = wr) := by
        have := trimmed_any g cap rs wr hPr2
        rw [HF.out, HRL.out] at this
        exact this
      clear hPr hPr2 hrl
      go_wp2_with (go_at_call 95; refine HTr.out.mono ?_; rintro e w' ⟨v', rfl, hR', rfl⟩)
      go_ret
      exact ⟨_, rfl, hR', hgb⟩

set_option maxHeartbeats 1000000 in
theorem len32_int (x : Int) (w : World) (h0 : 0 ≤ x) (h1 : x < 4294967296) : Calls Tryz.prog 125 #[.int .u32 x] w fun e w' => e = .returned (.int .i64 (Lib.bitLen x.toNat)) ∧ w' = w := by
  have hs := Lib.len8tab_size
  go_enter Tryz.func125, Tryz.ntmps125
  go_wp2
  all_goals (go_ret; refine ⟨congrArg Ending.returned (congrArg (Value.int IntKind.i64) ?_), rfl⟩)
  all_goals first
    | exact len_close x.toNat 24 _ (by omega) (by omega) (by omega) (by omega) _ _ (by omega) rfl
    | exact len_close x.toNat 16 _ (by omega) (by omega) (by omega) (by omega) _ _ (by omega) rfl
    | exact len_close x.toNat 8 _ (by omega) (by omega) (by omega) (by omega) _ _ (by omega) rfl
    | exact len_close x.toNat 0 _ (by omega) (by omega) (by omega) (by omega) _ _ (by omega) rfl
    | (have k := len_close x.toNat 0 0 (by omega) (by omega) (by omega) (by omega) x.toNat (by omega) (by omega) rfl; rwa [Int.zero_add] at k)
theorem len32_any (x : Nat) (w : World) (h : x < 4294967296) (h0 : x ≠ 0) : Calls Tryz.prog 125 #[.int .u32 x] w fun e w' => e = .returned (.int .i64 (bl x : Nat)) ∧ w' = w := by
  have hb : Lib.bitLen x = bl x := by rw [Flo.bitLen_log x h0 (by omega)]; unfold bl; rw [if_neg h0]
  have := len32_int x w (by omega) (by omega)
  rw [Int.toNat_natCast, hb] at this
  exact this

set_option maxHeartbeats 400000 in
theorem bitLen_any (v : Value) (g n K : Nat) (w : World) (hR : PR w g v n) (hn : n < 2 ^ K) (hK : K ≤ 1000000) :
    Calls Tryz.prog 119 #[v] w fun e w' => e = .returned (.int .i64 (bl n : Nat)) ∧ w' = w := by
  obtain ⟨ds, hP, hv, ht⟩ := hR
  have hsd : Sm ds := hP.choose_spec.2.1
  have hlen : ds.length ≤ 1000001 := by have := len_bound (K := K) ht (by omega); omega
  obtain ⟨l, hl⟩ : ∃ l, l = ds.length := ⟨_, rfl⟩
  obtain ⟨cap, hcap⟩ : ∃ cap, v = .slice (some ⟨g, 0, none⟩) l cap := by obtain ⟨cap, e, _⟩ := hP; exact ⟨cap, by rw [hl]; exact e⟩
  subst hcap
  cases l with
  | zero =>
    have e0 : ds = [] := List.eq_nil_of_length_eq_zero hl.symm
    have en : bl n = 0 := by rw [← hv, e0]; rfl
    rw [en]
    clear hP hv ht hsd hlen hl e0 en hn
    go_enter Tryz.func119, Tryz.ntmps119
    go_wp2
    go_ret
    exact ⟨rfl, rfl⟩
  | succ l =>
    obtain ⟨hz, hbl⟩ := bl_parts hsd hl.symm ht
    have hcell := hP.cell (j := l) (by omega)
    have hd1 := sm_getD l hsd
    obtain ⟨d, hd⟩ : ∃ d, d = ds.getD l 0 := ⟨_, rfl⟩
    rw [← hd] at hcell hd1 hz hbl
    have hbd : bl d ≤ 32 := bl_le (by omega)
    obtain ⟨b, hb⟩ : ∃ b, b = bl d := ⟨_, rfl⟩
    have HLn : Hid (∀ w, Calls Tryz.prog 125 #[.int .u32 d] w fun e w' => e = .returned (.int .i64 (b : Nat)) ∧ w' = w) := fun w => by rw [hb]; exact len32_any d w hd1 hz
    rw [← hv, hbl, ← hb]
    rw [← hb] at hbd
    have hcap := hP.cap.2
    have hlc := hcap.1
    have hl2 : l ≤ 1000000 := by omega
    clear hP hv ht hsd hl hd hb hbl hn hcap hlen
    go_enter Tryz.func119, Tryz.ntmps119
    go_wp2_with (go_at_call 125; refine (HLn.out _).mono ?_; rintro e w' ⟨rfl, rfl⟩)
    go_ret
    exact ⟨by go_num, rfl⟩

end Go.Proofs.YtgbajhenmamjjaaGreatDoor

/-
  The walks of timesTens, timesTwos and Clone over parts.
-/
namespace Go.Proofs.YtgbajhenmamjjaaGreatDoor
set_option maxRecDepth 100000
open Go.RowKit Pt

/-- Block g alone was written; what lay in it lies there or in a new block g'. -/
def Mv (w w' : World) (g g' : Nat) : Prop := w.grownBy w' (some g) ∧ (g' = g ∨ w.heap.size ≤ g')
theorem Mv.refl (w : World) (g : Nat) : Mv w w g g := ⟨gb_refl _ _, Or.inl rfl⟩
theorem Mv.trans {a b c : World} {g g1 g2 : Nat} (h : Mv a b g g1) (k : Mv b c g1 g2) : Mv a c g g2 := by
  refine ⟨gb_new h.1 k.1 h.2, ?_⟩
  have := h.1.size
  rcases k.2 with e | e
  · rw [e]; exact h.2
  · right; omega
theorem Mv.drewN {a b : World} {g g1 : Nat} (h : Mv a b g g1) (q : Nat) : Mv a (b.drewN q) g g1 := ⟨gb_drew h.1 q, h.2⟩
theorem Mv.pr {w w' : World} {g g' b : Nat} {u : Value} {m : Nat} (h : Mv w w' g g') (hp : PR w b u m) (hb : b ≠ g) : PR w' b u m := hp.other h.1 hb
theorem Mv.ne {w w' : World} {g g' b : Nat} (h : Mv w w' g g') (hp : b < w.heap.size) (hb : b ≠ g) : b ≠ g' := by
  rcases h.2 with e | e
  · rw [e]; exact hb
  · omega
theorem Mv.below {w w' : World} {B g g' : Nat} (h : Mv w w' g g') (hB : B ≤ w.heap.size) (hg : B ≤ g) : Below B w w' :=
  (Below.refl _ _).grown h.1 hB (by intro k hk; simp at hk; omega)
theorem Mv.ge {w w' : World} {B g g' : Nat} (h : Mv w w' g g') (hB : B ≤ w.heap.size) (hg : B ≤ g) : B ≤ g' := by
  rcases h.2 with e | e <;> omega

theorem timesAnd_mv (v : Value) (g n by' more K : Nat) (w : World) (hR : PR w g v n) (hn : n < 2 ^ K) (hK : K ≤ 1000000) (hb1 : 1 ≤ by') (hb2 : by' < 4294967296) (hm : more < 4294967296) :
    Calls Tryz.prog 65 #[v, .int .u32 by', .int .u32 more] w fun e w' => ∃ v' g', e = .returned v' ∧ PR w' g' v' (n * by' + more) ∧ Mv w w' g g' :=
  timesAnd_any v g n by' more K w hR hn hK hb1 hb2 hm
theorem times_lit (c : Nat) (ci : Int) (hc : (c : Int) = ci) (v : Value) (g n K : Nat) (w : World) (hR : PR w g v n) (hn : n < 2 ^ K) (hK : K ≤ 1000000) (hb1 : 1 ≤ c) (hb2 : c < 4294967296) :
    Calls Tryz.prog 65 #[v, .int .u32 ci, .int .u32 0] w fun e w' => ∃ v' g', e = .returned v' ∧ PR w' g' v' (n * c) ∧ Mv w w' g g' := by
  subst hc
  have := timesAnd_mv v g n c 0 K w hR hn hK hb1 hb2 (by decide)
  simp only [Nat.add_zero] at this
  exact this

theorem pow_part {N c k T K : Nat} (h : N * c ^ k = T) (hc : 0 < c) (hT : T < 2 ^ K) : N < 2 ^ K := by
  have := Nat.le_mul_of_pos_right N (Nat.pow_pos (n := k) hc)
  omega
theorem pow_step {N c k T s : Nat} (h : N * c ^ k = T) (hs : s ≤ k) : N * c ^ s * c ^ (k - s) = T := by
  rw [Nat.mul_assoc, ← Nat.pow_add, show s + (k - s) = k by omega]; exact h

set_option maxHeartbeats 1000000 in
theorem timesTens_any (v : Value) (g n c K : Nat) (w : World) (hR : PR w g v n) (hn : n * 10 ^ c < 2 ^ K) (hK : K ≤ 1000000) (hc : c ≤ 1000000) :
    Calls Tryz.prog 63 #[v, .int .i64 c] w fun e w' => ∃ v' g', e = .returned v' ∧ PR w' g' v' (n * 10 ^ c) ∧ Mv w w' g g' := by
  obtain ⟨T, hT⟩ : ∃ T, n * 10 ^ c = T := ⟨_, rfl⟩
  have HB : Hid (T < 2 ^ K) := by rw [← hT]; exact hn
  have H0 : Hid (n * 10 ^ c = T) := hT
  rw [hT]
  clear hT hn
  go_enter Tryz.func63, Tryz.ntmps63
  go_wp2_with fail
  go_loopw [0, 1] (fun t0 t1 wr => ∃ (k N g1 : Nat), k ≤ 1000000 ∧ t1 = .int .i64 k ∧ PR wr g1 t0 N ∧ Hid (N * 10 ^ k = T) ∧ Mv w wr g g1) (fun _ t1 _ => (intOf t1).toNat)
  case atStart => exact ⟨c, n, g, hc, rfl, hR, H0, Mv.refl _ _⟩
  case round =>
    obtain ⟨k, N, g1, hk, rfl, hRr, HI, hmv⟩ := hrel
    have HNB : Hid (N < 2 ^ K) := pow_part HI.out (by decide) HB.out
    by_cases c9 : 9 ≤ k
    · have HS : Hid (N * 1000000000 * 10 ^ (k - 9) = T) := pow_step (s := 9) HI.out c9
      have hk9 : (9 : Int) ≤ (k : Int) := by omega
      go_wp2_with (go_at_call 65; refine (times_lit 1000000000 _ rfl _ g1 N K _ hRr HNB.out hK (by decide) (by decide)).mono ?_; rintro e w' ⟨v2, g2, rfl, hR2, hm2⟩)
      go_roundw
      case rel => exact ⟨k - 9, N * 1000000000, g2, by omega, by go_num, hR2, HS, hmv.trans hm2⟩
      case measure => simp [intOf]; omega
    · have hk9 : ¬ (9 : Int) ≤ (k : Int) := by omega
      have hk8 : k ≤ 8 := by omega
      go_wp2_with fail
      go_loopw [0, 1] (fun t0 t1 wr => ∃ (k N g1 : Nat), k ≤ 8 ∧ t1 = .int .i64 k ∧ PR wr g1 t0 N ∧ Hid (N * 10 ^ k = T) ∧ Mv w wr g g1) (fun _ t1 _ => (intOf t1).toNat)
      case atStart => exact ⟨k, N, g1, hk8, rfl, hRr, HI, hmv⟩
      case round =>
        obtain ⟨k, N, g1, hk, rfl, hRr, HI, hmv⟩ := hrel
        have HNB : Hid (N < 2 ^ K) := pow_part HI.out (by decide) HB.out
        by_cases c0 : 0 < k
        · have HS : Hid (N * 10 * 10 ^ (k - 1) = T) := pow_step (s := 1) HI.out c0
          have hk0 : (0 : Int) < (k : Int) := by omega
          go_wp2_with (go_at_call 65; refine (times_lit 10 _ rfl _ g1 N K _ hRr HNB.out hK (by decide) (by decide)).mono ?_; rintro e w' ⟨v2, g2, rfl, hR2, hm2⟩)
          go_roundw
          case rel => exact ⟨k - 1, N * 10, g2, by omega, by go_num, hR2, HS, hmv.trans hm2⟩
          case measure => simp [intOf]; omega
        · have ek : k = 0 := by omega
          subst ek
          have HE : Hid (N = T) := by have := HI.out; rw [Nat.pow_zero, Nat.mul_one] at this; exact this
          go_wp2
          go_ret
          exact ⟨_, g1, rfl, by rw [← HE.out]; exact hRr, hmv⟩

set_option maxHeartbeats 1000000 in
theorem timesTwos_any (v : Value) (g n c K : Nat) (w : World) (hR : PR w g v n) (hn : n * 2 ^ c < 2 ^ K) (hK : K ≤ 1000000) (hc : c ≤ 1000000) :
    Calls Tryz.prog 62 #[v, .int .i64 c] w fun e w' => ∃ v' g', e = .returned v' ∧ PR w' g' v' (n * 2 ^ c) ∧ Mv w w' g g' := by
  obtain ⟨T, hT⟩ : ∃ T, n * 2 ^ c = T := ⟨_, rfl⟩
  have HB : Hid (T < 2 ^ K) := by rw [← hT]; exact hn
  have H0 : Hid (n * 2 ^ c = T) := hT
  rw [hT]
  clear hT hn
  go_enter Tryz.func62, Tryz.ntmps62
  go_wp2_with fail
  go_loopw [0, 1] (fun t0 t1 wr => ∃ (k N g1 : Nat), k ≤ 1000000 ∧ t1 = .int .i64 k ∧ PR wr g1 t0 N ∧ Hid (N * 2 ^ k = T) ∧ Mv w wr g g1) (fun _ t1 _ => (intOf t1).toNat)
  case atStart => exact ⟨c, n, g, hc, rfl, hR, H0, Mv.refl _ _⟩
  case round =>
    obtain ⟨k, N, g1, hk, rfl, hRr, HI, hmv⟩ := hrel
    have HNB : Hid (N < 2 ^ K) := pow_part HI.out (by decide) HB.out
    by_cases c9 : 31 ≤ k
    · have HS : Hid (N * 2147483648 * 2 ^ (k - 31) = T) := pow_step (s := 31) HI.out c9
      have hk9 : (31 : Int) ≤ (k : Int) := by omega
      go_wp2_with (go_at_call 65; refine (times_lit 2147483648 _ rfl _ g1 N K _ hRr HNB.out hK (by decide) (by decide)).mono ?_; rintro e w' ⟨v2, g2, rfl, hR2, hm2⟩)
      go_roundw
      case rel => exact ⟨k - 31, N * 2147483648, g2, by omega, by go_num, hR2, HS, hmv.trans hm2⟩
      case measure => simp [intOf]; omega
    · have hk9 : ¬ (31 : Int) ≤ (k : Int) := by omega
      have hp : 2 ^ k < 4294967296 := Nat.lt_of_le_of_lt (Nat.pow_le_pow_right (by decide) (show k ≤ 31 by omega)) (by decide)
      have hp1 : 1 ≤ 2 ^ k := Nat.two_pow_pos k
      obtain ⟨P, hP⟩ : ∃ P, P = 2 ^ k := ⟨_, rfl⟩
      have HE : Hid (N * P = T) := by show N * P = T; rw [hP]; exact HI.out
      rw [← hP] at hp hp1
      have hPi : (2 : Int) ^ k % 4294967296 = (P : Int) := by
        have e : (2 : Int) ^ k = (P : Int) := by rw [hP, Int.natCast_pow]; rfl
        rw [e]; omega
      clear hP HI
      go_wp2_with fail
      refine (times_lit P _ rfl _ g1 N K _ hRr HNB.out hK hp1 hp).mono ?_
      rintro e w' ⟨v2, g2, rfl, hR2, hm2⟩
      go_wp2
      go_ret
      rw [HE.out] at hR2
      exact ⟨_, g2, rfl, hR2, hmv.trans hm2⟩

theorem eql_nil {P : Program} {t e : TypeId} (a : Option Addr) (l c : Nat) (h : P.underlying t = some (.slice e)) (w : World) : (binOp .eql t (.slice a l c) (.slice none 0 0)).run P w = .ok (.bool a.isNone) w := by
  simp only [binOp]
  simp [run_equal_slice_nil w t e a l c h]

set_option maxHeartbeats 1000000 in
theorem clone_any (v : Value) (g n K : Nat) (w : World) (hR : PR w g v n) (hn : n < 2 ^ K) (hK : K ≤ 1000000) (h0 : 0 < n) :
    Calls Tryz.prog 64 #[v] w fun e w' => ∃ v' g', e = .returned v' ∧ PR w' g' v' n ∧ Below w.heap.size w w' ∧ w.heap.size ≤ g' := by
  obtain ⟨ds, hP, hv, ht⟩ := hR
  have hsd : Sm ds := hP.choose_spec.2.1
  have hlen : ds.length ≤ 1000001 := by have := len_bound (K := K) ht (by omega); omega
  have hl0 : 0 < ds.length := by
    rcases Nat.eq_zero_or_pos ds.length with c | c
    · have := List.eq_nil_of_length_eq_zero c
      rw [this] at hv; simp [pv] at hv; omega
    · exact c
  obtain ⟨l, hl⟩ : ∃ l, l = ds.length := ⟨_, rfl⟩
  have hg := hP.lt
  obtain ⟨cap, rfl, _, hown⟩ := hP
  obtain ⟨i0, hi, hz0, hz1, hz2⟩ := info_parts info32
  have HN : Hid (∀ j u, (c32 ds)[j]? = some u → (w.alloc (.cells #[] 90)).cell? ((⟨g, 0, none⟩ : Addr).add j) = some u) := by
    intro j u hu
    exact (ownsRow_far hown (Below.heap_alloc w _ g hg) rfl).cells (g := g) rfl j u hu
  have hm : (w.alloc (.cells #[] 90)).ownsRow w.heap.size 90 1 (.slice (some ⟨w.heap.size, 0, none⟩) 0 0) 0 [] := World.ownsRow_made w #[] 0 (Nat.le_refl _) (by decide) rfl
  have h1 := c32_one ds
  have hd : (c32 ds).length = l * 1 := by rw [c32_length]; omega
  have HV : Hid (pv ds = n ∧ Tr ds ∧ Sm ds ∧ l = ds.length) := ⟨hv, ht, hsd, hl⟩
  rw [← hl] at hlen hl0 ⊢
  have hun : ∀ w, (binOp .eql 59 (.slice (some ⟨g, 0, none⟩) l cap) (.slice none 0 0)).run Tryz.prog w = .ok (.bool false) w := eql_nil (some ⟨g, 0, none⟩) l cap Tryz.underlying59
  clear hown hv ht hsd hl hn
  go_enter Tryz.func64, Tryz.ntmps64
  go_wp2_with (at_builtin; refine wpList_append_lies _ rfl _ _ 59 rfl w.heap.size 90 i0 (.int .u32 0) 1 4 Tryz.underlying59 hi hz0 hz1 hz2 rfl (by decide) _ 0 [] rfl hm ⟨g, 0, none⟩ l cap (c32 ds) rfl hd HN.out h1 hl0 (by unfold maxLen; omega) (by omega) (by simp) _ rfl ?_)
  intro g2 cap2 w1 hown' hgrow hat _
  have HQ : Hid (PR w1 g2 (.slice (some ⟨g2, 0, none⟩) l cap2) n ∧ Below w.heap.size w w1 ∧ w.heap.size ≤ g2) := by
    obtain ⟨e1, e2, e3, e4⟩ := HV.out
    refine ⟨⟨ds, ⟨cap2, by rw [e4], e3, ?_⟩, e1, e2⟩, ?_, (hown'.lt g2 rfl).1⟩
    · rw [← e4]
      exact ownsRow_base hown'
    · exact ((Below.refl _ _).alloc (Nat.le_refl _) _).grown hgrow (by simp) (by intro k hk; simp [Value.ownBlock] at hk; omega)
  clear hown' hgrow hat
  go_wp2
  go_ret
  exact ⟨_, g2, rfl, HQ.out⟩

end Go.Proofs.YtgbajhenmamjjaaGreatDoor

/-
  Plain mathematics: what the reference's Round reckons is the nearest rung.
-/
namespace Go.Proofs.YtgbajhenmamjjaaGreatDoor
set_option maxRecDepth 100000
open Go.RowKit Dg Flo

/-- Two bits below the last one that counts, and whether anything is below these. -/
def rX (N : Nat) (drop : Int) : Nat := if 2 ≤ drop then N / 2 ^ (drop - 2).toNat else N * 2 ^ (2 - drop).toNat
def rLost (N : Nat) (drop : Int) (more : Bool) : Bool := if 2 ≤ drop then more || decide (N % 2 ^ (drop - 2).toNat ≠ 0) else more
def rUp (X : Nat) (lost : Bool) : Bool := decide (2 < X % 4 ∨ (X % 4 = 2 ∧ (lost = true ∨ X / 4 % 2 = 1)))
def rQ (X : Nat) (lost : Bool) : Nat := X / 4 + (rUp X lost).toNat

theorem ite_iff {A B : Prop} [Decidable A] [Decidable B] (h : A ↔ B) : (decide A).toNat = if B then 1 else 0 := by
  by_cases c : A
  · rw [decide_eq_true c, if_pos (h.1 c)]; rfl
  · rw [decide_eq_false c, if_neg (fun k => c (h.2 k))]; rfl

theorem rQ_down {N k : Nat} {more : Bool} : rQ (N / 2 ^ k) (more || decide (N % 2 ^ k ≠ 0)) = rne (2 * N + more.toNat) (k + 3) := by
  have hp : 0 < 2 ^ k := Nat.two_pow_pos k
  have hdm := Nat.div_add_mod N (2 ^ k)
  have hlt : N % 2 ^ k < 2 ^ k := Nat.mod_lt _ hp
  have e8 : 2 ^ (k + 3) = 8 * 2 ^ k := by rw [Nat.pow_add]; omega
  have hm : more.toNat ≤ 1 := by cases more <;> simp
  have hm1 : more.toNat = 0 ↔ more = false := by cases more <;> simp
  unfold rQ rUp rne
  rw [e8]
  generalize N / 2 ^ k = X at *
  generalize N % 2 ^ k = R at *
  generalize 2 ^ k = P at *
  have hM : 2 * N + more.toNat = 8 * P * (X / 4) + (2 * P * (X % 4) + (2 * R + more.toNat)) := by
    have hx := Nat.div_add_mod X 4
    have : P * X = 4 * P * (X / 4) + P * (X % 4) := by
      calc P * X = P * (4 * (X / 4) + X % 4) := by rw [hx]
        _ = _ := by rw [Nat.mul_add]; grind
    grind
  have hs : 2 * P * (X % 4) + (2 * R + more.toNat) < 8 * P := by
    have h3 : X % 4 ≤ 3 := by omega
    have : 2 * P * (X % 4) ≤ 2 * P * 3 := Nat.mul_le_mul_left _ h3
    omega
  have q1 : (2 * N + more.toNat) / (8 * P) = X / 4 := by
    rw [hM, Nat.mul_add_div (by omega), Nat.div_eq_of_lt hs, Nat.add_zero]
  have q2 : (2 * N + more.toNat) % (8 * P) = 2 * P * (X % 4) + (2 * R + more.toNat) := by
    rw [hM, Nat.mul_add_mod, Nat.mod_eq_of_lt hs]
  rw [q1, q2]
  congr 1
  have hlost : (more || decide (R ≠ 0)) = true ↔ 0 < 2 * R + more.toNat := by
    cases more <;> simp <;> omega
  refine ite_iff ?_
  rw [hlost]
  have h4 : X % 4 = 0 ∨ X % 4 = 1 ∨ X % 4 = 2 ∨ X % 4 = 3 := by omega
  have hs2 : 2 * R + more.toNat < 2 * P := by omega
  generalize X / 4 % 2 = odd
  generalize 2 * R + more.toNat = s at *
  clear hM q1 q2 hdm e8
  rcases h4 with h | h | h | h <;> rw [h] <;> omega

theorem rQ_one {N : Nat} {more : Bool} : rQ (N * 2) more = rne (2 * N + more.toNat) 2 := by
  unfold rQ rUp rne
  have hm : more.toNat ≤ 1 := by cases more <;> simp
  have hm1 : more = true ↔ more.toNat = 1 := by cases more <;> simp
  have q1 : (2 * N + more.toNat) / 2 ^ 2 = N * 2 / 4 := by omega
  have q2 : (2 * N + more.toNat) % 2 ^ 2 = N * 2 % 4 + more.toNat := by omega
  rw [q1, q2]
  congr 1
  refine ite_iff ?_
  rw [hm1]
  have : N * 2 % 4 = 0 ∨ N * 2 % 4 = 2 := by omega
  rcases this with h | h <;> rw [h] <;> omega
theorem rQ_up {N k : Nat} : rQ (N * 2 ^ (k + 2)) false = N * 2 ^ k := by
  have e : N * 2 ^ (k + 2) = 4 * (N * 2 ^ k) := by rw [Nat.pow_add]; grind
  unfold rQ rUp
  rw [e]
  have h1 : 4 * (N * 2 ^ k) % 4 = 0 := by omega
  have h2 : 4 * (N * 2 ^ k) / 4 = N * 2 ^ k := by omega
  rw [h1, h2]
  simp

/-- What the reference's Round comes to: the rung of the number, or a little more. -/
theorem round_rung (N n g : Nat) (exp drop : Int) (more : Bool) (h1 : 2 ^ n ≤ 2 * N) (h2 : 2 * N < 2 ^ (n + 1)) (hd : drop = max ((n : Int) - 53) (-1074 - exp)) (hg : 0 ≤ exp + 1073 + g) (hmore : more = true → 54 ≤ n) :
    rung g ((2 * N + more.toNat) * 2 ^ (exp + 1073 + g).toNat) = min ((exp + drop + 1074).toNat * 4503599627370496 + rQ (rX N drop) (rLost N drop more)) 9218868437227405312 ∧
      rQ (rX N drop) (rLost N drop more) ≤ 9007199254740992 ∧ (-1074 < exp + drop → 4503599627370496 ≤ rQ (rX N drop) (rLost N drop more)) ∧ rX N drop < 36028797018963968 := by
  have hm : more.toNat ≤ 1 := by cases more <;> simp
  have b1 : 2 ^ n ≤ 2 * N + more.toNat := by omega
  have b2 : 2 * N + more.toNat < 2 ^ (n + 1) := by
    have : 2 ^ (n + 1) = 2 * 2 ^ n := Nat.pow_succ'
    omega
  obtain ⟨E, hE⟩ := Int.eq_ofNat_of_zero_le hg
  rw [hE, Int.toNat_natCast]
  have hlow : lowest g ((2 * N + more.toNat) * 2 ^ E) = (exp + drop + 1074 + g).toNat := by
    by_cases c : -1074 - exp ≤ (n : Int) - 53
    · rw [low_b b1 b2 (by omega)]; omega
    · rw [low_a b2 (by omega)]; omega
  have hq : rQ (rX N drop) (rLost N drop more) = rne ((2 * N + more.toNat) * 2 ^ E) (exp + drop + 1074 + g).toNat := by
    unfold rX rLost
    by_cases c : 2 ≤ drop
    · rw [if_pos c, if_pos c, rne_down (by omega), show (exp + drop + 1074 + (g : Int)).toNat - E = (drop - 2).toNat + 3 by omega, rQ_down]
    · rw [if_neg c, if_neg c]
      by_cases c1 : drop = 1
      · rw [show (2 - drop).toNat = 1 by omega, Nat.pow_one, rQ_one, rne_down (by omega), show (exp + drop + 1074 + (g : Int)).toNat - E = 2 by omega]
      · have hf : more = false := by
          cases more
          · rfl
          · have := hmore rfl; omega
        rw [hf]
        rw [show (2 - drop).toNat = (-drop).toNat + 2 by omega, rQ_up, Bool.toNat_false, Nat.add_zero]
        by_cases c2 : drop = 0
        · rw [rne_down (by omega), show (exp + drop + 1074 + (g : Int)).toNat - E = 1 by omega, c2]
          have := rne_exact N 1
          rw [Nat.mul_comm] at this
          simp only [Nat.pow_one] at this
          rw [this]; simp
        · obtain ⟨j, hj⟩ : ∃ j, (-drop).toNat = j + 1 := ⟨(-drop).toNat - 1, by omega⟩
          rw [rne_up (by omega), show E - (exp + drop + 1074 + (g : Int)).toNat = j by omega, hj, Nat.pow_succ']
          grind
  refine ⟨?_, ?_, ?_, ?_⟩
  · unfold rung
    rw [hlow, hq, show (exp + drop + 1074 + (g : Int)).toNat - g = (exp + drop + 1074).toNat by omega]
  · rw [hq]
    have hs := (lowest_spec g ((2 * N + more.toNat) * 2 ^ E)).2.1
    rw [hlow] at hs
    exact rne_le hs
  · intro hc
    rw [hq]
    have hs := (lowest_spec g ((2 * N + more.toNat) * 2 ^ E)).2.2
    rw [hlow] at hs
    exact rne_ge (hs (by omega))
  · unfold rX
    have hN : N < 2 ^ n := by have : 2 ^ (n + 1) = 2 * 2 ^ n := Nat.pow_succ'; omega
    by_cases c : 2 ≤ drop
    · rw [if_pos c]
      refine (Nat.div_lt_iff_lt_mul (Nat.two_pow_pos _)).2 ?_
      rw [show (36028797018963968 : Nat) = 2 ^ 55 from by decide, ← Nat.pow_add]
      exact Nat.lt_of_lt_of_le hN (Nat.pow_le_pow_right (by decide) (by omega))
    · rw [if_neg c, show (36028797018963968 : Nat) = 2 ^ 55 from by decide]
      refine Nat.lt_of_lt_of_le (scaled_lt hN) (Nat.pow_le_pow_right (by decide) (by omega))

end Go.Proofs.YtgbajhenmamjjaaGreatDoor

/-
  The walk of the reference's Round.
-/
namespace Go.Proofs.YtgbajhenmamjjaaGreatDoor
set_option maxRecDepth 100000
open Go.RowKit Dg Flo

def sgn (neg : Bool) : Int := if neg then 9223372036854775808 else 0

theorem or_hi (neg : Bool) (y : Int) (h0 : 0 ≤ y) (h1 : y < 9223372036854775808) : bits .or .u64 (sgn neg) y = sgn neg + y := by
  cases neg
  · show bits .or .u64 0 y = 0 + y
    rw [u64_or _ _ (by decide) (by decide) h0 (by omega)]
    simp only [Int.toNat_zero, Nat.zero_or]; omega
  · show bits .or .u64 9223372036854775808 y = 9223372036854775808 + y
    rw [u64_or _ _ (by decide) (by decide) h0 (by omega), show (9223372036854775808 : Int).toNat = 9223372036854775808 from rfl, nat_join 63 _ _ (by decide) (by omega)]
    omega
theorem or_lo (x f : Int) (h0 : 0 ≤ x) (h1 : x < 18446744073709551616) (h2 : x % 4503599627370496 = 0) (h3 : 0 ≤ f) (h4 : f < 4503599627370496) : bits .or .u64 x f = x + f := by
  rw [u64_or _ _ h0 h1 h3 (by omega), nat_join 52 _ _ (by omega) (by omega)]
  omega

theorem len_n (v : Value) (N l n : Nat) (hn : blen N = n) (hl : l ≤ 1073741824) : ∀ w, D w v N l → Calls Tryz.prog 80 #[v] w fun e w' => e = .returned (.int .i64 n) ∧ w' = w := by
  intro w h
  have := len_any v N l w h hl
  rw [hn] at this
  exact this

set_option maxHeartbeats 1000000 in
theorem round_low (v : Value) (N l n : Nat) (exp : Int) (more neg : Bool) (w : World) (hD : D w v N l) (hl : l ≤ 1048576) (hn : blen N = n) (hn2 : n ≤ 16777216) (e1 : -16777216 ≤ exp) (e2 : exp ≤ 16777216)
    (h : (n = 0 ∧ more = false) ∨ (n : Int) + exp < -1100) :
    Calls Tryz.prog 90 #[.bool neg, .int .i64 exp, v, .bool more] w fun e w' => e = .returned (.int .u64 (sgn neg)) ∧ w' = w := by
  have HL : Hid (∀ w, D w v N l → Calls Tryz.prog 80 #[v] w fun e w' => e = .returned (.int .i64 n) ∧ w' = w) := len_n v N l n hn (by omega)
  have HS : Hid (∀ w, Calls Tryz.prog 106 #[.bool neg] w fun e w' => e = .returned (.int .u64 (sgn neg)) ∧ w' = w) := refSign_any neg
  generalize sgn neg = S at *
  clear hn
  by_cases c : n = 0 ∧ more = false
  · obtain ⟨rfl, rfl⟩ := c
    clear h
    go_enter Tryz.func90, Tryz.ntmps90
    go_wp2_with (first | (go_at_call 80; refine (HL.out _ hD).mono ?_; rintro e w' ⟨rfl, rfl⟩) | (go_at_call 106; refine (HS.out _).mono ?_; rintro e w' ⟨rfl, rfl⟩))
    go_ret
    exact ⟨rfl, rfl⟩
  · have h2 : (n : Int) + exp < -1100 := by
      rcases h with h | h
      · exact absurd h c
      · exact h
    clear h
    by_cases n0 : n = 0
    · subst n0
      have hm : more = true := by
        cases more
        · exact absurd ⟨rfl, rfl⟩ c
        · rfl
      subst hm
      clear c
      go_enter Tryz.func90, Tryz.ntmps90
      go_wp2_with (first | (go_at_call 80; refine (HL.out _ hD).mono ?_; rintro e w' ⟨rfl, rfl⟩) | (go_at_call 106; refine (HS.out _).mono ?_; rintro e w' ⟨rfl, rfl⟩))
      go_ret
      exact ⟨rfl, rfl⟩
    · have nz : ((n : Int) == 0) = false := by rw [beq_eq_false_iff_ne]; omega
      clear c
      go_enter Tryz.func90, Tryz.ntmps90
      go_wp2_with (first | (go_at_call 80; refine (HL.out _ hD).mono ?_; rintro e w' ⟨rfl, rfl⟩) | (go_at_call 106; refine (HS.out _).mono ?_; rintro e w' ⟨rfl, rfl⟩))
      go_ret
      exact ⟨rfl, rfl⟩

set_option maxHeartbeats 1000000 in
theorem round_high (v : Value) (N l n : Nat) (exp : Int) (more neg : Bool) (w : World) (hD : D w v N l) (hl : l ≤ 1048576) (hn : blen N = n) (hn2 : n ≤ 16777216) (e1 : -16777216 ≤ exp) (e2 : exp ≤ 16777216) (n0 : n ≠ 0)
    (h : 1100 < (n : Int) + exp) :
    Calls Tryz.prog 90 #[.bool neg, .int .i64 exp, v, .bool more] w fun e w' => e = .returned (.int .u64 (sgn neg + 9218868437227405312)) ∧ w' = w := by
  have HL : Hid (∀ w, D w v N l → Calls Tryz.prog 80 #[v] w fun e w' => e = .returned (.int .i64 n) ∧ w' = w) := len_n v N l n hn (by omega)
  have HS : Hid (∀ w, Calls Tryz.prog 89 #[.bool neg] w fun e w' => e = .returned (.int .u64 (sgn neg + 9218868437227405312)) ∧ w' = w) := by
    show ∀ w, _
    cases neg <;> exact refInf_any _
  generalize sgn neg + 9218868437227405312 = S at *
  clear hn
  have nz : ((n : Int) == 0) = false := by rw [beq_eq_false_iff_ne]; omega
  go_enter Tryz.func90, Tryz.ntmps90
  go_wp2_with (first | (go_at_call 80; refine (HL.out _ hD).mono ?_; rintro e w' ⟨rfl, rfl⟩) | (go_at_call 89; refine (HS.out _).mono ?_; rintro e w' ⟨rfl, rfl⟩))
  go_ret
  exact ⟨rfl, rfl⟩

theorem and3 (x : Nat) (h : x < 18446744073709551616) : bits .and .u64 (x : Int) 3 = ((x % 4 : Nat) : Int) := by
  rw [u64_and _ _ (Int.natCast_nonneg _) (by omega) (by decide) (by decide), Int.toNat_natCast, show (3 : Int).toNat = 2 ^ 2 - 1 from by decide, Nat.and_two_pow_sub_one_eq_mod]

/-- The end of Round, in its own words. -/
theorem round_end (neg : Bool) (e : Int) (Q : Nat) (h1 : -1074 ≤ e) (h2 : Q ≤ 9007199254740992) (h3 : -1074 < e → 4503599627370496 ≤ Q) :
    (Q = 9007199254740992 → 971 < e + 1 → sgn neg + 9218868437227405312 = sgn neg + (min ((e + 1074).toNat * 4503599627370496 + Q) 9218868437227405312 : Nat)) ∧
    (Q = 9007199254740992 → e + 1 ≤ 971 → bits .or .u64 (bits .or .u64 (sgn neg) ((e + 1 + 1075) * 4503599627370496)) 0 = sgn neg + (min ((e + 1074).toNat * 4503599627370496 + Q) 9218868437227405312 : Nat)) ∧
    (Q ≠ 9007199254740992 → 971 < e → sgn neg + 9218868437227405312 = sgn neg + (min ((e + 1074).toNat * 4503599627370496 + Q) 9218868437227405312 : Nat)) ∧
    (Q ≠ 9007199254740992 → e ≤ 971 → Q < 4503599627370496 → bits .or .u64 (sgn neg) (Q : Int) = sgn neg + (min ((e + 1074).toNat * 4503599627370496 + Q) 9218868437227405312 : Nat)) ∧
    (Q ≠ 9007199254740992 → e ≤ 971 → 4503599627370496 ≤ Q → bits .or .u64 (bits .or .u64 (sgn neg) ((e + 1075) * 4503599627370496)) ((Q : Int) - 4503599627370496) = sgn neg + (min ((e + 1074).toNat * 4503599627370496 + Q) 9218868437227405312 : Nat)) := by
  have hs : sgn neg = 0 ∨ sgn neg = 9223372036854775808 := by cases neg <;> simp [sgn]
  refine ⟨?_, ?_, ?_, ?_, ?_⟩
  · intro a b; omega
  · intro a b
    rw [or_hi neg _ (by omega) (by omega), or_lo _ _ (by omega) (by omega) (by omega) (by omega) (by omega)]
    omega
  · intro a b
    have := h3 (by omega)
    omega
  · intro a b c
    rw [or_hi neg _ (by omega) (by omega)]
    have : e = -1074 := by
      rcases Int.lt_or_eq_of_le h1 with k | k
      · have := h3 k; omega
      · exact k.symm
    omega
  · intro a b c
    rw [or_hi neg _ (by omega) (by omega), or_lo _ _ (by omega) (by omega) (by omega) (by omega) (by omega)]
    omega

end Go.Proofs.YtgbajhenmamjjaaGreatDoor
