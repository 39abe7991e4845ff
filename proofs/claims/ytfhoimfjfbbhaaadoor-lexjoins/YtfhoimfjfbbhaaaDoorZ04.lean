/-
  Pt3, Pt4, FloRung, DigRound, FloMake, FloMake2
-/
import Derived.Test.YtfhoimfjfbbhaaaDoorZ03

/-
  The walks of minus, bitLen, Clone, timesTens, timesTwos over parts.
-/
namespace Go.Proofs.YtfhoimfjfbbhaaaDoor
set_option maxRecDepth 100000
open Go.RowKit Pt

theorem PR.drewN {w : World} {g : Nat} {v : Value} {n : Nat} (h : PR w g v n) (q : Nat) : PR (w.drewN q) g v n := h

theorem bit_pick {d e bw : Nat} (hd : d < 4294967296) (he : e < 4294967296) (hb : bw ≤ 1) : ∃ df b2, df < 4294967296 ∧ b2 ≤ 1 ∧ df + e + bw = d + 4294967296 * b2 := by
  rcases Nat.lt_or_ge d (e + bw) with c | c
  · exact ⟨d + 4294967296 - e - bw, 1, by omega, by omega, by omega⟩
  · exact ⟨d - e - bw, 0, by omega, by omega, by omega⟩

set_option maxHeartbeats 1000000 in
theorem minus_any2 (v u : Value) (g h n m : Nat) (w : World) (hR : PR w g v n) (hS : PR w h u m) (hgh : h ≠ g) (hmn : m ≤ n) :
    Calls Tryd.prog 44 #[v, u] w fun e w' => ∃ v', e = .returned v' ∧ PR w' g v' (n - m) ∧ w.grownBy w' (some g) := by
  obtain ⟨ds, hP, hv, ht⟩ := hR
  obtain ⟨ms, hQ, hu, hs⟩ := hS
  have hsd : Sm ds := hP.choose_spec.2.1
  have hsm : Sm ms := hQ.choose_spec.2.1
  obtain ⟨l, hl⟩ : ∃ l, l = ds.length := ⟨_, rfl⟩
  obtain ⟨k, hk⟩ : ∃ l, l = ms.length := ⟨_, rfl⟩
  obtain ⟨cap, hcap⟩ : ∃ cap, v = .slice (some ⟨g, 0, none⟩) l cap := by obtain ⟨cap, e, _⟩ := hP; exact ⟨cap, by rw [hl]; exact e⟩
  obtain ⟨cap2, hcap2⟩ : ∃ cap, u = .slice (some ⟨h, 0, none⟩) k cap := by obtain ⟨cap, e, _⟩ := hQ; exact ⟨cap, by rw [hk]; exact e⟩
  subst hcap
  subst hcap2
  have hc1 := hP.cap.2
  have hc2 := hQ.cap.2
  have b1 : l ≤ 9223372036854775807 := by unfold maxLen at hc1; omega
  have b2 : k ≤ 9223372036854775807 := by unfold maxLen at hc2; omega
  have b3 := hc1.1
  have b4 := hc2.1
  have HV : Hid (pv ds = n ∧ pv ms = m ∧ Tr ds ∧ Tr ms ∧ Sm ds ∧ Sm ms ∧ l = ds.length ∧ k = ms.length) := ⟨hv, hu, ht, hs, hsd, hsm, hl, hk⟩
  clear hv hu ht hs hsd hsm hl hk hc1 hc2
  go_enter Tryd.func44, Tryd.ntmps44
  go_wp2_with fail
  go_loopw [5, 10] (fun c t wr => ∃ (j bw : Nat) (rs : List Nat), j ≤ l ∧ t = .int .i64 j ∧ c = .int .u32 bw ∧ bw ≤ 1 ∧ PU wr g (.slice (some ⟨g, 0, none⟩) l cap) rs ∧ rs.length = l ∧
      (∀ i, j ≤ i → rs.getD i 0 = ds.getD i 0) ∧ Hid (pv (rs.take j) + pv (ms.take j) = pv (ds.take j) + 4294967296 ^ j * bw) ∧ w.grownBy wr (some g)) (fun _ t _ => l - (intOf t).toNat)
  case atStart => exact ⟨0, 0, ds, Nat.zero_le _, rfl, rfl, by omega, hP, HV.out.2.2.2.2.2.2.1.symm, fun _ _ => rfl, by show pv _ + _ = _; simp [pv], gb_refl _ _⟩
  case round =>
    obtain ⟨j, bw, rs, hj, rfl, rfl, hbw, hPr, hrl, hrest, HI, hgb⟩ := hrel
    have HE : Hid (∀ i, j ≤ i → rs.getD i 0 = ds.getD i 0) := hrest
    have HRL : Hid (rs.length = l) := hrl
    clear hrest
    by_cases c : j < l
    · have hcell := hPr.cell (j := j) (by omega)
      have hfr := hPr.frozen j
      obtain ⟨d, hd⟩ : ∃ d, d = ds.getD j 0 := ⟨_, rfl⟩
      obtain ⟨e, he⟩ : ∃ e, e = ms.getD j 0 := ⟨_, rfl⟩
      rw [HE.out j (Nat.le_refl _), ← hd] at hcell
      have hd1 : d < 4294967296 := by rw [hd]; exact sm_getD j HV.out.2.2.2.2.1
      have he1 : e < 4294967296 := by rw [he]; exact sm_getD j HV.out.2.2.2.2.2.1
      obtain ⟨df, b2, hdf, hb2, hrel⟩ := bit_pick hd1 he1 hbw
      have HS : Hid (pv ((rs.set j df).take (j + 1)) + pv (ms.take (j + 1)) = pv (ds.take (j + 1)) + 4294967296 ^ (j + 1) * b2) := minus_step (by omega) HI.out (by rw [← hd, ← he]; exact hrel)
      have HSub : Hid (∀ w, Calls Tryd.prog 49 #[.int .u32 d, .int .u32 e, .int .u32 bw] w fun e w' => e = .returned (.tuple #[.int .u32 (df : Int), .int .u32 (b2 : Int)]) ∧ w' = w) := fun w => sub32_any d e bw df b2 w hd1 he1 hbw hdf hb2 hrel
      have hQr := hQ.other hgb hgh
      clear hrel hd hrl
      by_cases ck : j < k
      · have hcell2 := hQr.cell (j := j) (by have := HV.out.2.2.2.2.2.2.2; omega)
        rw [← he] at hcell2
        clear he
        go_wp2_with (go_at_call 49; refine (HSub.out _).mono ?_; rintro e w' ⟨rfl, rfl⟩)
        go_roundw
        case rel => exact ⟨j + 1, b2, rs.set j df, by omega, by go_num, rfl, hb2, hPr.stored hdf, by rw [List.length_set]; exact HRL.out, fun i hi => by rw [pget_set (by omega)]; exact HE.out i (by omega), HS, gb_trans hgb (gb_set _ _ _ _)⟩
        case measure => simp [intOf]; omega
      · have ez : e = 0 := by
          rw [he, List.getD_eq_getElem?_getD, List.getElem?_eq_none (by have := HV.out.2.2.2.2.2.2.2; omega)]; rfl
        subst ez
        clear he
        go_wp2_with (go_at_call 49; refine (HSub.out _).mono ?_; rintro e w' ⟨rfl, rfl⟩)
        go_roundw
        case rel => exact ⟨j + 1, b2, rs.set j df, by omega, by go_num, rfl, hb2, hPr.stored hdf, by rw [List.length_set]; exact HRL.out, fun i hi => by rw [pget_set (by omega)]; exact HE.out i (by omega), HS, gb_trans hgb (gb_set _ _ _ _)⟩
        case measure => simp [intOf]; omega
    · have hjl : j = l := by omega
      have HF : Hid (pv rs = n - m) := by
        obtain ⟨e1, e2, t1, t2, s1, s2, l1, l2⟩ := HV.out
        have hI := HI.out
        rw [hjl, l1] at hI
        have := pm_end (by rw [HRL.out, l1]) hPr.choose_spec.2.1 s1 t2 (by omega) hI
        show pv rs = n - m
        rw [this, e1, e2]
      have hPr2 : PU wr g (.slice (some ⟨g, 0, none⟩) rs.length cap) rs := by rw [HRL.out]; exact hPr
      have HTr : Hid (Calls Tryd.prog 40 #[.slice (some ⟨g, 0, none⟩) l cap] wr fun e w' => ∃ v', e = .returned v' ∧ PR wr g v' (n - m) ∧ w' = wr) := by
        have := trimmed_any g cap rs wr hPr2
        rw [HF.out, HRL.out] at this
        exact this
      clear hPr hPr2 hrl
      go_wp2_with (go_at_call 40; refine HTr.out.mono ?_; rintro e w' ⟨v', rfl, hR', rfl⟩)
      go_ret
      exact ⟨_, rfl, hR', hgb⟩

set_option maxHeartbeats 1000000 in
theorem len32_int (x : Int) (w : World) (h0 : 0 ≤ x) (h1 : x < 4294967296) : Calls Tryd.prog 46 #[.int .u32 x] w fun e w' => e = .returned (.int .i64 (Lib.bitLen x.toNat)) ∧ w' = w := by
  have hs := Lib.len8tab_size
  go_enter Tryd.func46, Tryd.ntmps46
  go_wp2
  all_goals (go_ret; refine ⟨congrArg Ending.returned (congrArg (Value.int IntKind.i64) ?_), rfl⟩)
  all_goals first
    | exact len_close x.toNat 24 _ (by omega) (by omega) (by omega) (by omega) _ _ (by omega) rfl
    | exact len_close x.toNat 16 _ (by omega) (by omega) (by omega) (by omega) _ _ (by omega) rfl
    | exact len_close x.toNat 8 _ (by omega) (by omega) (by omega) (by omega) _ _ (by omega) rfl
    | exact len_close x.toNat 0 _ (by omega) (by omega) (by omega) (by omega) _ _ (by omega) rfl
    | (have k := len_close x.toNat 0 0 (by omega) (by omega) (by omega) (by omega) x.toNat (by omega) (by omega) rfl; rwa [Int.zero_add] at k)
theorem len32_any (x : Nat) (w : World) (h : x < 4294967296) (h0 : x ≠ 0) : Calls Tryd.prog 46 #[.int .u32 x] w fun e w' => e = .returned (.int .i64 (bl x : Nat)) ∧ w' = w := by
  have hb : Lib.bitLen x = bl x := by rw [Flo.bitLen_log x h0 (by omega)]; unfold bl; rw [if_neg h0]
  have := len32_int x w (by omega) (by omega)
  rw [Int.toNat_natCast, hb] at this
  exact this

set_option maxHeartbeats 400000 in
theorem bitLen_any (v : Value) (g n K : Nat) (w : World) (hR : PR w g v n) (hn : n < 2 ^ K) (hK : K ≤ 1000000) :
    Calls Tryd.prog 41 #[v] w fun e w' => e = .returned (.int .i64 (bl n : Nat)) ∧ w' = w := by
  obtain ⟨ds, hP, hv, ht⟩ := hR
  have hsd : Sm ds := hP.choose_spec.2.1
  have hlen : ds.length ≤ 1000001 := by have := len_bound (K := K) ht (by omega); omega
  obtain ⟨l, hl⟩ : ∃ l, l = ds.length := ⟨_, rfl⟩
  obtain ⟨cap, hcap⟩ : ∃ cap, v = .slice (some ⟨g, 0, none⟩) l cap := by obtain ⟨cap, e, _⟩ := hP; exact ⟨cap, by rw [hl]; exact e⟩
  subst hcap
  cases l with
  | zero =>
    have e0 : ds = [] := List.eq_nil_of_length_eq_zero hl.symm
    have en : bl n = 0 := by rw [← hv, e0]; rfl
    rw [en]
    clear hP hv ht hsd hlen hl e0 en hn
    go_enter Tryd.func41, Tryd.ntmps41
    go_wp2
    go_ret
    exact ⟨rfl, rfl⟩
  | succ l =>
    obtain ⟨hz, hbl⟩ := bl_parts hsd hl.symm ht
    have hcell := hP.cell (j := l) (by omega)
    have hd1 := sm_getD l hsd
    obtain ⟨d, hd⟩ : ∃ d, d = ds.getD l 0 := ⟨_, rfl⟩
    rw [← hd] at hcell hd1 hz hbl
    have hbd : bl d ≤ 32 := bl_le (by omega)
    obtain ⟨b, hb⟩ : ∃ b, b = bl d := ⟨_, rfl⟩
    have HLn : Hid (∀ w, Calls Tryd.prog 46 #[.int .u32 d] w fun e w' => e = .returned (.int .i64 (b : Nat)) ∧ w' = w) := fun w => by rw [hb]; exact len32_any d w hd1 hz
    rw [← hv, hbl, ← hb]
    rw [← hb] at hbd
    have hcap := hP.cap.2
    have hlc := hcap.1
    have hl2 : l ≤ 1000000 := by omega
    clear hP hv ht hsd hl hd hb hbl hn hcap hlen
    go_enter Tryd.func41, Tryd.ntmps41
    go_wp2_with (go_at_call 46; refine (HLn.out _).mono ?_; rintro e w' ⟨rfl, rfl⟩)
    go_ret
    exact ⟨by go_num, rfl⟩

end Go.Proofs.YtfhoimfjfbbhaaaDoor

/-
  The walks of timesTens, timesTwos and Clone over parts.
-/
namespace Go.Proofs.YtfhoimfjfbbhaaaDoor
set_option maxRecDepth 100000
open Go.RowKit Pt

/-- Block g alone was written; what lay in it lies there or in a new block g'. -/
def Mv (w w' : World) (g g' : Nat) : Prop := w.grownBy w' (some g) ∧ (g' = g ∨ w.heap.size ≤ g')
theorem Mv.refl (w : World) (g : Nat) : Mv w w g g := ⟨gb_refl _ _, Or.inl rfl⟩
theorem Mv.trans {a b c : World} {g g1 g2 : Nat} (h : Mv a b g g1) (k : Mv b c g1 g2) : Mv a c g g2 := by
  refine ⟨gb_new h.1 k.1 h.2, ?_⟩
  have := h.1.size
  rcases k.2 with e | e
  · rw [e]; exact h.2
  · right; omega
theorem Mv.drewN {a b : World} {g g1 : Nat} (h : Mv a b g g1) (q : Nat) : Mv a (b.drewN q) g g1 := ⟨gb_drew h.1 q, h.2⟩
theorem Mv.pr {w w' : World} {g g' b : Nat} {u : Value} {m : Nat} (h : Mv w w' g g') (hp : PR w b u m) (hb : b ≠ g) : PR w' b u m := hp.other h.1 hb
theorem Mv.ne {w w' : World} {g g' b : Nat} (h : Mv w w' g g') (hp : b < w.heap.size) (hb : b ≠ g) : b ≠ g' := by
  rcases h.2 with e | e
  · rw [e]; exact hb
  · omega
theorem Mv.below {w w' : World} {B g g' : Nat} (h : Mv w w' g g') (hB : B ≤ w.heap.size) (hg : B ≤ g) : Below B w w' :=
  (Below.refl _ _).grown h.1 hB (by intro k hk; simp at hk; omega)
theorem Mv.ge {w w' : World} {B g g' : Nat} (h : Mv w w' g g') (hB : B ≤ w.heap.size) (hg : B ≤ g) : B ≤ g' := by
  rcases h.2 with e | e <;> omega

theorem timesAnd_mv (v : Value) (g n by' more K : Nat) (w : World) (hR : PR w g v n) (hn : n < 2 ^ K) (hK : K ≤ 1000000) (hb1 : 1 ≤ by') (hb2 : by' < 4294967296) (hm : more < 4294967296) :
    Calls Tryd.prog 37 #[v, .int .u32 by', .int .u32 more] w fun e w' => ∃ v' g', e = .returned v' ∧ PR w' g' v' (n * by' + more) ∧ Mv w w' g g' :=
  timesAnd_any v g n by' more K w hR hn hK hb1 hb2 hm
theorem times_lit (c : Nat) (ci : Int) (hc : (c : Int) = ci) (v : Value) (g n K : Nat) (w : World) (hR : PR w g v n) (hn : n < 2 ^ K) (hK : K ≤ 1000000) (hb1 : 1 ≤ c) (hb2 : c < 4294967296) :
    Calls Tryd.prog 37 #[v, .int .u32 ci, .int .u32 0] w fun e w' => ∃ v' g', e = .returned v' ∧ PR w' g' v' (n * c) ∧ Mv w w' g g' := by
  subst hc
  have := timesAnd_mv v g n c 0 K w hR hn hK hb1 hb2 (by decide)
  simp only [Nat.add_zero] at this
  exact this

theorem pow_part {N c k T K : Nat} (h : N * c ^ k = T) (hc : 0 < c) (hT : T < 2 ^ K) : N < 2 ^ K := by
  have := Nat.le_mul_of_pos_right N (Nat.pow_pos (n := k) hc)
  omega
theorem pow_step {N c k T s : Nat} (h : N * c ^ k = T) (hs : s ≤ k) : N * c ^ s * c ^ (k - s) = T := by
  rw [Nat.mul_assoc, ← Nat.pow_add, show s + (k - s) = k by omega]; exact h

set_option maxHeartbeats 1000000 in
theorem timesTens_any (v : Value) (g n c K : Nat) (w : World) (hR : PR w g v n) (hn : n * 10 ^ c < 2 ^ K) (hK : K ≤ 1000000) (hc : c ≤ 1000000) :
    Calls Tryd.prog 39 #[v, .int .i64 c] w fun e w' => ∃ v' g', e = .returned v' ∧ PR w' g' v' (n * 10 ^ c) ∧ Mv w w' g g' := by
  obtain ⟨T, hT⟩ : ∃ T, n * 10 ^ c = T := ⟨_, rfl⟩
  have HB : Hid (T < 2 ^ K) := by rw [← hT]; exact hn
  have H0 : Hid (n * 10 ^ c = T) := hT
  rw [hT]
  clear hT hn
  go_enter Tryd.func39, Tryd.ntmps39
  go_wp2_with fail
  go_loopw [0, 1] (fun t0 t1 wr => ∃ (k N g1 : Nat), k ≤ 1000000 ∧ t1 = .int .i64 k ∧ PR wr g1 t0 N ∧ Hid (N * 10 ^ k = T) ∧ Mv w wr g g1) (fun _ t1 _ => (intOf t1).toNat)
  case atStart => exact ⟨c, n, g, hc, rfl, hR, H0, Mv.refl _ _⟩
  case round =>
    obtain ⟨k, N, g1, hk, rfl, hRr, HI, hmv⟩ := hrel
    have HNB : Hid (N < 2 ^ K) := pow_part HI.out (by decide) HB.out
    by_cases c9 : 9 ≤ k
    · have HS : Hid (N * 1000000000 * 10 ^ (k - 9) = T) := pow_step (s := 9) HI.out c9
      have hk9 : (9 : Int) ≤ (k : Int) := by omega
      go_wp2_with (go_at_call 37; refine (times_lit 1000000000 _ rfl _ g1 N K _ hRr HNB.out hK (by decide) (by decide)).mono ?_; rintro e w' ⟨v2, g2, rfl, hR2, hm2⟩)
      go_roundw
      case rel => exact ⟨k - 9, N * 1000000000, g2, by omega, by go_num, hR2, HS, hmv.trans hm2⟩
      case measure => simp [intOf]; omega
    · have hk9 : ¬ (9 : Int) ≤ (k : Int) := by omega
      have hk8 : k ≤ 8 := by omega
      go_wp2_with fail
      go_loopw [0, 1] (fun t0 t1 wr => ∃ (k N g1 : Nat), k ≤ 8 ∧ t1 = .int .i64 k ∧ PR wr g1 t0 N ∧ Hid (N * 10 ^ k = T) ∧ Mv w wr g g1) (fun _ t1 _ => (intOf t1).toNat)
      case atStart => exact ⟨k, N, g1, hk8, rfl, hRr, HI, hmv⟩
      case round =>
        obtain ⟨k, N, g1, hk, rfl, hRr, HI, hmv⟩ := hrel
        have HNB : Hid (N < 2 ^ K) := pow_part HI.out (by decide) HB.out
        by_cases c0 : 0 < k
        · have HS : Hid (N * 10 * 10 ^ (k - 1) = T) := pow_step (s := 1) HI.out c0
          have hk0 : (0 : Int) < (k : Int) := by omega
          go_wp2_with (go_at_call 37; refine (times_lit 10 _ rfl _ g1 N K _ hRr HNB.out hK (by decide) (by decide)).mono ?_; rintro e w' ⟨v2, g2, rfl, hR2, hm2⟩)
          go_roundw
          case rel => exact ⟨k - 1, N * 10, g2, by omega, by go_num, hR2, HS, hmv.trans hm2⟩
          case measure => simp [intOf]; omega
        · have ek : k = 0 := by omega
          subst ek
          have HE : Hid (N = T) := by have := HI.out; rw [Nat.pow_zero, Nat.mul_one] at this; exact this
          go_wp2
          go_ret
          exact ⟨_, g1, rfl, by rw [← HE.out]; exact hRr, hmv⟩

set_option maxHeartbeats 1000000 in
theorem timesTwos_any (v : Value) (g n c K : Nat) (w : World) (hR : PR w g v n) (hn : n * 2 ^ c < 2 ^ K) (hK : K ≤ 1000000) (hc : c ≤ 1000000) :
    Calls Tryd.prog 42 #[v, .int .i64 c] w fun e w' => ∃ v' g', e = .returned v' ∧ PR w' g' v' (n * 2 ^ c) ∧ Mv w w' g g' := by
  obtain ⟨T, hT⟩ : ∃ T, n * 2 ^ c = T := ⟨_, rfl⟩
  have HB : Hid (T < 2 ^ K) := by rw [← hT]; exact hn
  have H0 : Hid (n * 2 ^ c = T) := hT
  rw [hT]
  clear hT hn
  go_enter Tryd.func42, Tryd.ntmps42
  go_wp2_with fail
  go_loopw [0, 1] (fun t0 t1 wr => ∃ (k N g1 : Nat), k ≤ 1000000 ∧ t1 = .int .i64 k ∧ PR wr g1 t0 N ∧ Hid (N * 2 ^ k = T) ∧ Mv w wr g g1) (fun _ t1 _ => (intOf t1).toNat)
  case atStart => exact ⟨c, n, g, hc, rfl, hR, H0, Mv.refl _ _⟩
  case round =>
    obtain ⟨k, N, g1, hk, rfl, hRr, HI, hmv⟩ := hrel
    have HNB : Hid (N < 2 ^ K) := pow_part HI.out (by decide) HB.out
    by_cases c9 : 31 ≤ k
    · have HS : Hid (N * 2147483648 * 2 ^ (k - 31) = T) := pow_step (s := 31) HI.out c9
      have hk9 : (31 : Int) ≤ (k : Int) := by omega
      go_wp2_with (go_at_call 37; refine (times_lit 2147483648 _ rfl _ g1 N K _ hRr HNB.out hK (by decide) (by decide)).mono ?_; rintro e w' ⟨v2, g2, rfl, hR2, hm2⟩)
      go_roundw
      case rel => exact ⟨k - 31, N * 2147483648, g2, by omega, by go_num, hR2, HS, hmv.trans hm2⟩
      case measure => simp [intOf]; omega
    · have hk9 : ¬ (31 : Int) ≤ (k : Int) := by omega
      have hp : 2 ^ k < 4294967296 := Nat.lt_of_le_of_lt (Nat.pow_le_pow_right (by decide) (show k ≤ 31 by omega)) (by decide)
      have hp1 : 1 ≤ 2 ^ k := Nat.two_pow_pos k
      obtain ⟨P, hP⟩ : ∃ P, P = 2 ^ k := ⟨_, rfl⟩
      have HE : Hid (N * P = T) := by show N * P = T; rw [hP]; exact HI.out
      rw [← hP] at hp hp1
      have hPi : (2 : Int) ^ k % 4294967296 = (P : Int) := by
        have e : (2 : Int) ^ k = (P : Int) := by rw [hP, Int.natCast_pow]; rfl
        rw [e]; omega
      clear hP HI
      go_wp2_with fail
      refine (times_lit P _ rfl _ g1 N K _ hRr HNB.out hK hp1 hp).mono ?_
      rintro e w' ⟨v2, g2, rfl, hR2, hm2⟩
      go_wp2
      go_ret
      rw [HE.out] at hR2
      exact ⟨_, g2, rfl, hR2, hmv.trans hm2⟩

theorem eql_nil {P : Program} {t e : TypeId} (a : Option Addr) (l c : Nat) (h : P.underlying t = some (.slice e)) (w : World) : (binOp .eql t (.slice a l c) (.slice none 0 0)).run P w = .ok (.bool a.isNone) w := by
  simp only [binOp]
  simp [run_equal_slice_nil w t e a l c h]

end Go.Proofs.YtfhoimfjfbbhaaaDoor

/-
  Plain mathematics: the rung of a whole number times a power of two.
-/
namespace Go.Proofs.YtfhoimfjfbbhaaaDoor.Flo
set_option maxRecDepth 100000

/-- How many places below the least number's place the units lie. -/
def G : Nat := 300
theorem G_eq : G = 300 := rfl

theorem scaled_lt {n L E : Nat} (h : n < 2 ^ L) : n * 2 ^ E < 2 ^ (L + E) := by
  rw [Nat.pow_add]; exact Nat.mul_lt_mul_of_pos_right h (Nat.two_pow_pos E)
theorem scaled_ge {n L E : Nat} (h : 2 ^ L ≤ n) : 2 ^ (L + E) ≤ n * 2 ^ E := by
  rw [Nat.pow_add]; exact Nat.mul_le_mul_right _ h

theorem rne_up {n E d : Nat} (h : d ≤ E) : rne (n * 2 ^ E) d = n * 2 ^ (E - d) := by
  have e : n * 2 ^ E = n * 2 ^ (E - d) * 2 ^ d := by rw [Nat.mul_assoc, ← Nat.pow_add, show E - d + d = E by omega]
  rw [e, rne_exact]
theorem rne_down {n E d : Nat} (h : E ≤ d) : rne (n * 2 ^ E) d = rne n (d - E) := by
  have e := rne_scale n (d - E) E
  rw [show d - E + E = d by omega] at e
  exact e

theorem low_a {g n L E : Nat} (h : n < 2 ^ L) (hc : L + E ≤ g + 53) : lowest g (n * 2 ^ E) = g :=
  lowest_low (Nat.lt_of_lt_of_le (scaled_lt h) (Nat.pow_le_pow_right (by decide) hc))
theorem low_b {g n L E : Nat} (h0 : 2 ^ L ≤ n) (h : n < 2 ^ (L + 1)) (hc : g + 53 ≤ L + 1 + E) : lowest g (n * 2 ^ E) = L + 1 + E - 53 := by
  rcases Nat.lt_or_ge (g + 53) (L + 1 + E) with k | k
  · refine lowest_high (by omega) ?_ ?_
    · rw [show L + 1 + E - 53 + 52 = L + E by omega]; exact scaled_ge h0
    · rw [show L + 1 + E - 53 + 53 = L + 1 + E by omega]; exact scaled_lt h
  · rw [low_a h (by omega)]; omega

/-- The four ways, in the code's own words. -/
theorem rung_a0 {g n L E : Nat} (h0 : 2 ^ L ≤ n) (h : n < 2 ^ (L + 1)) (hc : g + 53 ≤ L + 1 + E) (hl : L + 1 ≤ 53) :
    rung g (n * 2 ^ E) = min ((L + 1 + E - 53 - g) * 4503599627370496 + n * 2 ^ (53 - (L + 1))) 9218868437227405312 := by
  unfold rung
  rw [low_b h0 h hc, rne_up (by omega), show E - (L + 1 + E - 53) = 53 - (L + 1) by omega]
theorem rung_a1 {g n L E : Nat} (h0 : 2 ^ L ≤ n) (h : n < 2 ^ (L + 1)) (hc : g + 53 ≤ L + 1 + E) (hl : 53 ≤ L + 1) :
    rung g (n * 2 ^ E) = min ((L + 1 + E - 53 - g) * 4503599627370496 + rne n (L + 1 - 53)) 9218868437227405312 := by
  unfold rung
  rw [low_b h0 h hc, rne_down (by omega), show L + 1 + E - 53 - E = L + 1 - 53 by omega]
theorem rung_b0 {g n L E : Nat} (h : n < 2 ^ L) (hc : L + E ≤ g + 53) (hl : g ≤ E) :
    rung g (n * 2 ^ E) = min (n * 2 ^ (E - g)) 9218868437227405312 := by
  unfold rung
  rw [low_a h hc, rne_up hl, Nat.sub_self, Nat.zero_mul, Nat.zero_add]
theorem rung_b1 {g n L E : Nat} (h : n < 2 ^ L) (hc : L + E ≤ g + 53) (hl : E ≤ g) :
    rung g (n * 2 ^ E) = min (rne n (g - E)) 9218868437227405312 := by
  unfold rung
  rw [low_a h hc, rne_down hl, Nat.sub_self, Nat.zero_mul, Nat.zero_add]

theorem kept_a0 {n L : Nat} (h : n < 2 ^ (L + 1)) (hl : L + 1 ≤ 53) : n * 2 ^ (53 - (L + 1)) < 9007199254740992 := by
  have := scaled_lt (E := 53 - (L + 1)) h
  rw [show L + 1 + (53 - (L + 1)) = 53 by omega] at this
  omega
theorem kept_b0 {g n L E : Nat} (h : n < 2 ^ L) (hc : L + E ≤ g + 53) (hl : g ≤ E) : n * 2 ^ (E - g) < 9007199254740992 := by
  have := scaled_lt (E := E - g) h
  have k : 2 ^ (L + (E - g)) ≤ 2 ^ 53 := Nat.pow_le_pow_right (by decide) (by omega)
  omega
theorem kept_1 {n L d : Nat} (h : n < 2 ^ L) (hc : L ≤ d + 53) : rne n d ≤ 9007199254740992 :=
  rne_le (Nat.lt_of_lt_of_le h (Nat.pow_le_pow_right (by decide) hc))

end Go.Proofs.YtfhoimfjfbbhaaaDoor.Flo

/-
  Plain mathematics: what the reference's Round reckons is the nearest rung.
-/
namespace Go.Proofs.YtfhoimfjfbbhaaaDoor
set_option maxRecDepth 100000
open Go.RowKit Dg Flo

/-- Two bits below the last one that counts, and whether anything is below these. -/
def rX (N : Nat) (drop : Int) : Nat := if 2 ≤ drop then N / 2 ^ (drop - 2).toNat else N * 2 ^ (2 - drop).toNat
def rLost (N : Nat) (drop : Int) (more : Bool) : Bool := if 2 ≤ drop then more || decide (N % 2 ^ (drop - 2).toNat ≠ 0) else more
def rUp (X : Nat) (lost : Bool) : Bool := decide (2 < X % 4 ∨ (X % 4 = 2 ∧ (lost = true ∨ X / 4 % 2 = 1)))
def rQ (X : Nat) (lost : Bool) : Nat := X / 4 + (rUp X lost).toNat

theorem ite_iff {A B : Prop} [Decidable A] [Decidable B] (h : A ↔ B) : (decide A).toNat = if B then 1 else 0 := by
  by_cases c : A
  · rw [decide_eq_true c, if_pos (h.1 c)]; rfl
  · rw [decide_eq_false c, if_neg (fun k => c (h.2 k))]; rfl

theorem rQ_down {N k : Nat} {more : Bool} : rQ (N / 2 ^ k) (more || decide (N % 2 ^ k ≠ 0)) = rne (2 * N + more.toNat) (k + 3) := by
  have hp : 0 < 2 ^ k := Nat.two_pow_pos k
  have hdm := Nat.div_add_mod N (2 ^ k)
  have hlt : N % 2 ^ k < 2 ^ k := Nat.mod_lt _ hp
  have e8 : 2 ^ (k + 3) = 8 * 2 ^ k := by rw [Nat.pow_add]; omega
  have hm : more.toNat ≤ 1 := by cases more <;> simp
  have hm1 : more.toNat = 0 ↔ more = false := by cases more <;> simp
  unfold rQ rUp rne
  rw [e8]
  generalize N / 2 ^ k = X at *
  generalize N % 2 ^ k = R at *
  generalize 2 ^ k = P at *
  have hM : 2 * N + more.toNat = 8 * P * (X / 4) + (2 * P * (X % 4) + (2 * R + more.toNat)) := by
    have hx := Nat.div_add_mod X 4
    have : P * X = 4 * P * (X / 4) + P * (X % 4) := by
      calc P * X = P * (4 * (X / 4) + X % 4) := by rw [hx]
        _ = _ := by rw [Nat.mul_add]; grind
    grind
  have hs : 2 * P * (X % 4) + (2 * R + more.toNat) < 8 * P := by
    have h3 : X % 4 ≤ 3 := by omega
    have : 2 * P * (X % 4) ≤ 2 * P * 3 := Nat.mul_le_mul_left _ h3
    omega
  have q1 : (2 * N + more.toNat) / (8 * P) = X / 4 := by
    rw [hM, Nat.mul_add_div (by omega), Nat.div_eq_of_lt hs, Nat.add_zero]
  have q2 : (2 * N + more.toNat) % (8 * P) = 2 * P * (X % 4) + (2 * R + more.toNat) := by
    rw [hM, Nat.mul_add_mod, Nat.mod_eq_of_lt hs]
  rw [q1, q2]
  congr 1
  have hlost : (more || decide (R ≠ 0)) = true ↔ 0 < 2 * R + more.toNat := by
    cases more <;> simp <;> omega
  refine ite_iff ?_
  rw [hlost]
  have h4 : X % 4 = 0 ∨ X % 4 = 1 ∨ X % 4 = 2 ∨ X % 4 = 3 := by omega
  have hs2 : 2 * R + more.toNat < 2 * P := by omega
  generalize X / 4 % 2 = odd
  generalize 2 * R + more.toNat = s at *
  clear hM q1 q2 hdm e8
  rcases h4 with h | h | h | h <;> rw [h] <;> omega

theorem rQ_one {N : Nat} {more : Bool} : rQ (N * 2) more = rne (2 * N + more.toNat) 2 := by
  unfold rQ rUp rne
  have hm : more.toNat ≤ 1 := by cases more <;> simp
  have hm1 : more = true ↔ more.toNat = 1 := by cases more <;> simp
  have q1 : (2 * N + more.toNat) / 2 ^ 2 = N * 2 / 4 := by omega
  have q2 : (2 * N + more.toNat) % 2 ^ 2 = N * 2 % 4 + more.toNat := by omega
  rw [q1, q2]
  congr 1
  refine ite_iff ?_
  rw [hm1]
  have : N * 2 % 4 = 0 ∨ N * 2 % 4 = 2 := by omega
  rcases this with h | h <;> rw [h] <;> omega
theorem rQ_up {N k : Nat} : rQ (N * 2 ^ (k + 2)) false = N * 2 ^ k := by
  have e : N * 2 ^ (k + 2) = 4 * (N * 2 ^ k) := by rw [Nat.pow_add]; grind
  unfold rQ rUp
  rw [e]
  have h1 : 4 * (N * 2 ^ k) % 4 = 0 := by omega
  have h2 : 4 * (N * 2 ^ k) / 4 = N * 2 ^ k := by omega
  rw [h1, h2]
  simp

/-- What the reference's Round comes to: the rung of the number, or a little more. -/
theorem round_rung (N n g : Nat) (exp drop : Int) (more : Bool) (h1 : 2 ^ n ≤ 2 * N) (h2 : 2 * N < 2 ^ (n + 1)) (hd : drop = max ((n : Int) - 53) (-1074 - exp)) (hg : 0 ≤ exp + 1073 + g) (hmore : more = true → 54 ≤ n) :
    rung g ((2 * N + more.toNat) * 2 ^ (exp + 1073 + g).toNat) = min ((exp + drop + 1074).toNat * 4503599627370496 + rQ (rX N drop) (rLost N drop more)) 9218868437227405312 ∧
      rQ (rX N drop) (rLost N drop more) ≤ 9007199254740992 ∧ (-1074 < exp + drop → 4503599627370496 ≤ rQ (rX N drop) (rLost N drop more)) ∧ rX N drop < 36028797018963968 := by
  have hm : more.toNat ≤ 1 := by cases more <;> simp
  have b1 : 2 ^ n ≤ 2 * N + more.toNat := by omega
  have b2 : 2 * N + more.toNat < 2 ^ (n + 1) := by
    have : 2 ^ (n + 1) = 2 * 2 ^ n := Nat.pow_succ'
    omega
  obtain ⟨E, hE⟩ := Int.eq_ofNat_of_zero_le hg
  rw [hE, Int.toNat_natCast]
  have hlow : lowest g ((2 * N + more.toNat) * 2 ^ E) = (exp + drop + 1074 + g).toNat := by
    by_cases c : -1074 - exp ≤ (n : Int) - 53
    · rw [low_b b1 b2 (by omega)]; omega
    · rw [low_a b2 (by omega)]; omega
  have hq : rQ (rX N drop) (rLost N drop more) = rne ((2 * N + more.toNat) * 2 ^ E) (exp + drop + 1074 + g).toNat := by
    unfold rX rLost
    by_cases c : 2 ≤ drop
    · rw [if_pos c, if_pos c, rne_down (by omega), show (exp + drop + 1074 + (g : Int)).toNat - E = (drop - 2).toNat + 3 by omega, rQ_down]
    · rw [if_neg c, if_neg c]
      by_cases c1 : drop = 1
      · rw [show (2 - drop).toNat = 1 by omega, Nat.pow_one, rQ_one, rne_down (by omega), show (exp + drop + 1074 + (g : Int)).toNat - E = 2 by omega]
      · have hf : more = false := by
          cases more
          · rfl
          · have := hmore rfl; omega
        rw [hf]
        rw [show (2 - drop).toNat = (-drop).toNat + 2 by omega, rQ_up, Bool.toNat_false, Nat.add_zero]
        by_cases c2 : drop = 0
        · rw [rne_down (by omega), show (exp + drop + 1074 + (g : Int)).toNat - E = 1 by omega, c2]
          have := rne_exact N 1
          rw [Nat.mul_comm] at this
          simp only [Nat.pow_one] at this
          rw [this]; simp
        · obtain ⟨j, hj⟩ : ∃ j, (-drop).toNat = j + 1 := ⟨(-drop).toNat - 1, by omega⟩
          rw [rne_up (by omega), show E - (exp + drop + 1074 + (g : Int)).toNat = j by omega, hj, Nat.pow_succ']
          grind
  refine ⟨?_, ?_, ?_, ?_⟩
  · unfold rung
    rw [hlow, hq, show (exp + drop + 1074 + (g : Int)).toNat - g = (exp + drop + 1074).toNat by omega]
  · rw [hq]
    have hs := (lowest_spec g ((2 * N + more.toNat) * 2 ^ E)).2.1
    rw [hlow] at hs
    exact rne_le hs
  · intro hc
    rw [hq]
    have hs := (lowest_spec g ((2 * N + more.toNat) * 2 ^ E)).2.2
    rw [hlow] at hs
    exact rne_ge (hs (by omega))
  · unfold rX
    have hN : N < 2 ^ n := by have : 2 ^ (n + 1) = 2 * 2 ^ n := Nat.pow_succ'; omega
    by_cases c : 2 ≤ drop
    · rw [if_pos c]
      refine (Nat.div_lt_iff_lt_mul (Nat.two_pow_pos _)).2 ?_
      rw [show (36028797018963968 : Nat) = 2 ^ 55 from by decide, ← Nat.pow_add]
      exact Nat.lt_of_lt_of_le hN (Nat.pow_le_pow_right (by decide) (by omega))
    · rw [if_neg c, show (36028797018963968 : Nat) = 2 ^ 55 from by decide]
      refine Nat.lt_of_lt_of_le (scaled_lt hN) (Nat.pow_le_pow_right (by decide) (by omega))

end Go.Proofs.YtfhoimfjfbbhaaaDoor

/-
  The walks of pack, rounded, magnitude and Make.
-/
namespace Go.Proofs.YtfhoimfjfbbhaaaDoor
set_option maxRecDepth 100000
open Go.RowKit Flo

theorem ret_u64 {a b : Int} (h : a = b) : Ending.returned (.int .u64 a) = .returned (.int .u64 b) := by rw [h]

set_option maxHeartbeats 400000 in
theorem pack_any (x k : Int) (w : World) (h1 : 0 ≤ x + 1074) (h2 : x ≤ 1200) (h3 : 0 ≤ k) (h4 : k ≤ 9007199254740992) :
    Calls Tryd.prog 54 #[.int .i64 x, .int .u64 k] w fun e w' => e = .returned (.int .u64 (min ((x + 1074) * 4503599627370496 + k) 9218868437227405312)) ∧ w' = w := by
  go_enter Tryd.func54, Tryd.ntmps54
  go_wp2
  · go_ret
    exact ⟨ret_u64 (by omega), rfl⟩
  · go_ret
    exact ⟨ret_u64 (by omega), rfl⟩

theorem rounded_far (f d : Int) (m : Bool) (w : World) (h : 64 < d) :
    Calls Tryd.prog 55 #[.int .u64 f, .int .i64 d, .bool m] w fun e w' => e = .returned (.int .u64 0) ∧ w' = w := by
  go_enter Tryd.func55, Tryd.ntmps55
  go_wp2
  go_ret
  exact ⟨rfl, rfl⟩

set_option maxHeartbeats 400000 in
theorem rounded_walk (f d q r p : Nat) (m b : Bool) (w : World) (h2 : 1 ≤ d) (h3 : d ≤ 64) (hq : q < 9223372036854775808)
    (k1 : IntKind.u64.wrap (↑f - IntKind.u64.wrap (↑q * 2 ^ d)) = (r : Int)) (k2 : IntKind.u64.wrap (2 ^ (d - 1)) = (p : Int)) (k3 : ((f : Int) / 2 ^ d : Int) = (q : Int))
    (k4 : bits BinOp.and IntKind.u64 (q : Int) 1 = if b then 1 else 0) :
    Calls Tryd.prog 55 #[.int .u64 f, .int .i64 d, .bool m] w fun e w' => e = .returned (.int .u64 ((q : Int) + if p < r ∨ (r = p ∧ (m = true ∨ b = true)) then 1 else 0)) ∧ w' = w := by
  rcases Nat.lt_trichotomy r p with c | c | c
  · rw [if_neg (by omega), Int.add_zero]
    go_enter Tryd.func55, Tryd.ntmps55
    go_wp2
    go_ret
    exact ⟨rfl, rfl⟩
  · subst c
    cases m
    · cases b
      · rw [if_neg (by simp), Int.add_zero]
        rw [if_neg (by simp)] at k4
        go_enter Tryd.func55, Tryd.ntmps55
        go_wp2
        go_ret
        exact ⟨rfl, rfl⟩
      · rw [if_pos (by simp)]
        rw [if_pos rfl] at k4
        go_enter Tryd.func55, Tryd.ntmps55
        go_wp2
        go_ret
        exact ⟨rfl, rfl⟩
    · rw [if_pos (by simp)]
      clear k4
      go_enter Tryd.func55, Tryd.ntmps55
      go_wp2
      go_ret
      exact ⟨rfl, rfl⟩
  · rw [if_pos (by omega)]
    clear k4
    go_enter Tryd.func55, Tryd.ntmps55
    go_wp2
    go_ret
    exact ⟨rfl, rfl⟩

theorem u64_wrap_nat (n : Nat) (h : n < 18446744073709551616) : IntKind.u64.wrap (n : Int) = (n : Int) := by
  rw [IntKind.wrap_u64]; omega

theorem rounded_near (f d : Nat) (m : Bool) (w : World) (h1 : f < 18446744073709551616) (h2 : 1 ≤ d) (h3 : d ≤ 64) :
    Calls Tryd.prog 55 #[.int .u64 f, .int .i64 d, .bool m] w fun e w' => e = .returned (.int .u64 (roundedN f d m)) ∧ w' = w := by
  obtain ⟨j, rfl⟩ := Nat.exists_eq_add_of_le h2
  have hdm := Nat.div_add_mod f (2 ^ (1 + j))
  have hlt : f % 2 ^ (1 + j) < 2 ^ (1 + j) := Nat.mod_lt _ (Nat.two_pow_pos _)
  have hq : f / 2 ^ (1 + j) < 9223372036854775808 := by
    have : 2 ^ 1 ≤ 2 ^ (1 + j) := Nat.pow_le_pow_right (by decide) (by omega)
    have h := Nat.div_le_div_left (a := f) this (by decide)
    omega
  have hp : 2 ^ j < 18446744073709551616 := Nat.lt_of_lt_of_le (Nat.pow_lt_pow_right (by decide) (show j < 64 by omega)) (by decide)
  have k3 : ((f : Int) / 2 ^ (1 + j) : Int) = ((f / 2 ^ (1 + j) : Nat) : Int) := by
    rw [Int.natCast_ediv, Int.natCast_pow]; rfl
  have k2 : IntKind.u64.wrap (2 ^ (1 + j - 1)) = ((2 ^ j : Nat) : Int) := by
    rw [show 1 + j - 1 = j by omega, ← u64_wrap_nat _ hp, Int.natCast_pow]; rfl
  have k1 : IntKind.u64.wrap (↑f - IntKind.u64.wrap (((f / 2 ^ (1 + j) : Nat) : Int) * 2 ^ (1 + j))) = ((f % 2 ^ (1 + j) : Nat) : Int) := by
    have e : ((f / 2 ^ (1 + j) : Nat) : Int) * 2 ^ (1 + j) = ((2 ^ (1 + j) * (f / 2 ^ (1 + j)) : Nat) : Int) := by
      rw [Nat.mul_comm, Int.natCast_mul, Int.natCast_pow]; rfl
    rw [e]
    generalize 2 ^ (1 + j) * (f / 2 ^ (1 + j)) = z at *
    generalize f % 2 ^ (1 + j) = r at *
    rw [u64_wrap_nat z (by omega), show (f : Int) - (z : Int) = ((r : Nat) : Int) by omega, u64_wrap_nat r (by omega)]
  have k4 : bits BinOp.and IntKind.u64 ((f / 2 ^ (1 + j) : Nat) : Int) 1 = if (decide (f / 2 ^ (1 + j) % 2 = 1)) then 1 else 0 := by
    rw [u64_and _ _ (Int.natCast_nonneg _) (by clear k1 k2 k3; omega) (by decide) (by decide), Int.toNat_natCast]
    rw [show (1 : Int).toNat = 1 from rfl, nat_mask1]
    by_cases c : f / 2 ^ (1 + j) % 2 = 1
    · simp [c]
    · have : f / 2 ^ (1 + j) % 2 = 0 := by omega
      simp [this]
  refine (rounded_walk f (1 + j) (f / 2 ^ (1 + j)) (f % 2 ^ (1 + j)) (2 ^ j) m (decide (f / 2 ^ (1 + j) % 2 = 1)) w h2 h3 hq k1 k2 k3 k4).mono ?_
  rintro e w' ⟨rfl, rfl⟩
  refine ⟨ret_u64 ?_, rfl⟩
  unfold roundedN
  rw [if_neg (show ¬ 64 < 1 + j by omega), show 1 + j - 1 = j by omega]
  simp only [decide_eq_true_eq]
  split <;> simp

/-- rounded, whatever falls out. -/
theorem rounded_any (f d : Nat) (m : Bool) (w : World) (h1 : f < 18446744073709551616) (h2 : 1 ≤ d) :
    Calls Tryd.prog 55 #[.int .u64 f, .int .i64 d, .bool m] w fun e w' => e = .returned (.int .u64 (roundedN f d m)) ∧ w' = w := by
  by_cases h : d ≤ 64
  · exact rounded_near f d m w h1 h2 h
  · refine (rounded_far f d m w (by omega)).mono ?_
    rintro e w' ⟨rfl, rfl⟩
    refine ⟨ret_u64 ?_, rfl⟩
    unfold roundedN
    rw [if_pos (by omega)]
    rfl

end Go.Proofs.YtfhoimfjfbbhaaaDoor

/-
  The walks of magnitude.
-/
namespace Go.Proofs.YtfhoimfjfbbhaaaDoor
set_option maxRecDepth 100000
open Go.RowKit Flo

theorem mag_zero (x : Int) (m : Bool) (w : World) :
    Calls Tryd.prog 50 #[.int .i64 x, .int .u64 0, .bool m] w fun e w' => e = .returned (.int .u64 0) ∧ w' = w := by
  go_enter Tryd.func50, Tryd.ntmps50
  go_wp2
  go_ret
  exact ⟨rfl, rfl⟩

theorem len64_nat (f L : Nat) (w : World) (h1 : f < 18446744073709551616) (hL : Lib.bitLen f = L) :
    Calls Tryd.prog 53 #[.int .u64 f] w fun e w' => e = .returned (.int .i64 L) ∧ w' = w := by
  have h := len64_any f w ⟨by omega, by omega⟩
  rw [Int.toNat_natCast, hL] at h
  exact h

/-- Nothing falls out; a Plain number. -/
theorem mag_a0 (x : Int) (f L k : Nat) (m : Bool) (w : World) (h0 : f ≠ 0) (h1 : f < 18446744073709551616) (hx : -1300 ≤ x) (hy : x ≤ 1100) (hL : Lib.bitLen f = L) (l1 : 1 ≤ L) (l2 : L ≤ 53)
    (hc : -1074 - x ≤ (L : Int) - 53) (hk : IntKind.u64.wrap ((f : Int) * 2 ^ (-((L : Int) - 53)).toNat) = (k : Int)) (hk2 : k ≤ 9007199254740992) :
    Calls Tryd.prog 50 #[.int .i64 x, .int .u64 f, .bool m] w fun e w' => e = .returned (.int .u64 (min ((x + ((L : Int) - 53) + 1074) * 4503599627370496 + k) 9218868437227405312)) ∧ w' = w := by
  have hz : ((f : Int) == 0) = false := by rw [beq_eq_false_iff_ne]; omega
  go_enter Tryd.func50, Tryd.ntmps50
  go_wp2_with (first | (go_at_call 53; refine (len64_nat f L _ h1 hL).mono ?_; rintro e w' ⟨rfl, rfl⟩) | (go_at_call 54; refine (pack_any (x + ((L : Int) - 53)) k _ (by omega) (by omega) (by omega) (by omega)).mono ?_; rintro e w' ⟨rfl, rfl⟩))
  go_ret
  exact ⟨rfl, rfl⟩

/-- Some bits fall out; a Plain number. -/
theorem mag_a1 (x : Int) (f L d k : Nat) (m : Bool) (w : World) (h0 : f ≠ 0) (h1 : f < 18446744073709551616) (hx : -1300 ≤ x) (hy : x ≤ 1100) (hL : Lib.bitLen f = L) (l2 : L ≤ 64)
    (hc : -1074 - x ≤ (L : Int) - 53) (hd : (L : Int) - 53 = (d : Int)) (d1 : 1 ≤ d) (hk : roundedN f d m = k) (hk2 : k ≤ 9007199254740992) :
    Calls Tryd.prog 50 #[.int .i64 x, .int .u64 f, .bool m] w fun e w' => e = .returned (.int .u64 (min ((x + (d : Int) + 1074) * 4503599627370496 + k) 9218868437227405312)) ∧ w' = w := by
  have hz : ((f : Int) == 0) = false := by rw [beq_eq_false_iff_ne]; omega
  go_enter Tryd.func50, Tryd.ntmps50
  go_wp2_with (first | (go_at_call 53; refine (len64_nat f L _ h1 hL).mono ?_; rintro e w' ⟨rfl, rfl⟩) | (go_at_call 55; refine (rounded_any f d m _ h1 d1).mono ?_; rintro e w' ⟨rfl, rfl⟩) | (go_at_call 54; refine (pack_any (x + (d : Int)) k _ (by omega) (by omega) (by omega) (by omega)).mono ?_; rintro e w' ⟨rfl, rfl⟩))
  go_ret
  exact ⟨rfl, rfl⟩

/-- Nothing falls out; a Tiny number. -/
theorem mag_b0 (x : Int) (f L k : Nat) (m : Bool) (w : World) (h0 : f ≠ 0) (h1 : f < 18446744073709551616) (hx : -1074 ≤ x) (hy : x ≤ 1100) (hL : Lib.bitLen f = L) (l2 : L ≤ 64)
    (hc : (L : Int) - 53 < -1074 - x) (hk : IntKind.u64.wrap ((f : Int) * 2 ^ (-(-1074 - x)).toNat) = (k : Int)) (hk2 : k ≤ 9007199254740992) :
    Calls Tryd.prog 50 #[.int .i64 x, .int .u64 f, .bool m] w fun e w' => e = .returned (.int .u64 (min ((x + (-1074 - x) + 1074) * 4503599627370496 + k) 9218868437227405312)) ∧ w' = w := by
  have hz : ((f : Int) == 0) = false := by rw [beq_eq_false_iff_ne]; omega
  go_enter Tryd.func50, Tryd.ntmps50
  go_wp2_with (first | (go_at_call 53; refine (len64_nat f L _ h1 hL).mono ?_; rintro e w' ⟨rfl, rfl⟩) | (go_at_call 54; refine (pack_any (x + (-1074 - x)) k _ (by omega) (by omega) (by omega) (by omega)).mono ?_; rintro e w' ⟨rfl, rfl⟩))
  go_ret
  exact ⟨rfl, rfl⟩

/-- Some bits fall out; a Tiny number. -/
theorem mag_b1 (x : Int) (f L d k : Nat) (m : Bool) (w : World) (h0 : f ≠ 0) (h1 : f < 18446744073709551616) (hx : -1300 ≤ x) (hy : x ≤ 1100) (hL : Lib.bitLen f = L) (l2 : L ≤ 64)
    (hc : (L : Int) - 53 < -1074 - x) (hd : -1074 - x = (d : Int)) (d1 : 1 ≤ d) (hk : roundedN f d m = k) (hk2 : k ≤ 9007199254740992) :
    Calls Tryd.prog 50 #[.int .i64 x, .int .u64 f, .bool m] w fun e w' => e = .returned (.int .u64 (min ((x + (d : Int) + 1074) * 4503599627370496 + k) 9218868437227405312)) ∧ w' = w := by
  have hz : ((f : Int) == 0) = false := by rw [beq_eq_false_iff_ne]; omega
  go_enter Tryd.func50, Tryd.ntmps50
  go_wp2_with (first | (go_at_call 53; refine (len64_nat f L _ h1 hL).mono ?_; rintro e w' ⟨rfl, rfl⟩) | (go_at_call 55; refine (rounded_any f d m _ h1 d1).mono ?_; rintro e w' ⟨rfl, rfl⟩) | (go_at_call 54; refine (pack_any (x + (d : Int)) k _ (by omega) (by omega) (by omega) (by omega)).mono ?_; rintro e w' ⟨rfl, rfl⟩))
  go_ret
  exact ⟨rfl, rfl⟩

end Go.Proofs.YtfhoimfjfbbhaaaDoor
