/-
  Trim, Sum and Minus once more: what they hand back lies in a block of its own.
-/
import Derived.Test.YtpgjibfggagbmaaDigMinus
namespace Go.Proofs.Ytpgjibfggagbmaa
open Go.RowKit Dg

/-- A slice whose block is not one of the first B. -/
def Fresh (B : Nat) (v : Value) : Prop := ∀ g, v.ownBlock = some g → B ≤ g
theorem Fresh.mono {B B' : Nat} {v : Value} (h : Fresh B v) (hb : B' ≤ B) : Fresh B' v := fun g hg => Nat.le_trans hb (h g hg)
theorem fresh_made (w : World) : Fresh w.heap.size (.slice (some ⟨w.heap.size, 0, none⟩) 0 0) := by
  intro g hg; simp [Value.ownBlock] at hg; omega

set_option maxHeartbeats 400000 in
theorem trim_new (v : Value) (n l : Nat) (w : World) (hD : D w v n l) (hl : l ≤ 1073741824) :
    Calls Try.prog 47 #[v] w fun e w' => ∃ v', e = .returned v' ∧ D w' v' n (dlen n) ∧ Below w.heap.size w w' ∧ Fresh w.heap.size v' := by
  have hsh := hD.shape
  have hlt := hD.lt
  obtain ⟨ds, g, cap, rfl, hlen, hsm, hval, hown⟩ := hD
  obtain ⟨g', cap', hv', hg, hlc, hcm, hcell⟩ := hsh
  obtain ⟨rfl, rfl⟩ : g = g' ∧ cap = cap' := by simpa using hv'
  clear hv'
  unfold maxLen at hcm
  obtain ⟨i0, hi, hz0, hz1, hz2⟩ := info_parts infoU
  go_enter Try.func47, Try.ntmps47
  go_wp2
  go_loop [3] (fun t => ∃ k : Nat, k ≤ l ∧ t = .int .i64 k ∧ n < 65536 ^ k) (fun t => (intOf t).toNat)
  case atStart => exact ⟨l, Nat.le_refl _, rfl, hlt⟩
  case round =>
    obtain ⟨k, hk, rfl, hn⟩ := hrel
    cases k with
    | zero =>
      have hz : n = 0 := by simpa using hn
      clear hcell
      go_wp2
      go_ret
      exact ⟨_, rfl, D_empty w, (Below.refl _ _).alloc (Nat.le_refl _) _, fresh_made w⟩
    | succ k =>
      have hc := hcell k (by omega)
      clear hcell
      by_cases c : dig n k = 0
      · rw [c] at hc
        go_wp2
        go_round
        case rel => exact ⟨k, by omega, by go_num, lt_of_dig hn c⟩
        case measure => simp [intOf]
      · have hcz : (((dig n k : Nat) : Int) == 0) = false := by rw [beq_eq_false_iff_ne]; omega
        have hds : (cells (ds.take (k + 1))).length = (k + 1) * 1 := by rw [cells_length, List.length_take]; omega
        have HN : Hid (∀ j u, (cells (ds.take (k + 1)))[j]? = some u → (w.alloc (.cells #[] 22)).cell? ((⟨g, 0, none⟩ : Addr).add j) = some u) := news_of_own hown _
        have hm : (w.alloc (.cells #[] 22)).ownsRow w.heap.size 22 1 (.slice (some ⟨w.heap.size, 0, none⟩) 0 0) 0 [] := World.ownsRow_made w #[] 0 (Nat.le_refl _) (by decide) rfl
        have h1 := cells_one (ds.take (k + 1))
        have hv : val (ds.take (k + 1)) = n := by rw [val_take ds (k + 1) hsm (by omega), hval, Nat.mod_eq_of_lt hn]
        have hlast : k + 1 = dlen n := dlen_eq hn (Or.inr (by simpa using c))
        have HV : Hid (val (ds.take (k + 1)) = n ∧ k + 1 = dlen n) := ⟨hv, hlast⟩
        have hs := small_take (k + 1) hsm
        clear hv hlast
        go_wp2_with (at_builtin; refine wpList_append_own _ rfl _ _ 41 rfl w.heap.size 22 i0 (.int .u64 0) 1 8 Try.underlying41 hi hz0 hz1 hz2 rfl (by decide) _ 0 [] rfl hm ⟨g, 0, none⟩ (k + 1) cap (cells (ds.take (k + 1))) rfl hds HN.out h1 (by unfold maxLen; omega) (by omega) (by simp) ?_)
        intro v' w1 hown' hgrow _
        have R := trim_close (ownsRow_base hown') hgrow hs HV.out
        have F : Fresh w.heap.size v' := fun g hg => (hown'.lt g hg).1
        clear hown' hgrow
        go_wp2
        go_ret
        exact ⟨_, rfl, R.1, R.2, F⟩

set_option maxHeartbeats 1000000 in
theorem sum_new (v u : Value) (n l m k : Nat) (w : World) (hD : D w v n l) (hE : D w u m k) (hl : l ≤ 536870912) (hk : k ≤ 536870912) :
    Calls Try.prog 39 #[v, u] w fun e w' => ∃ v', e = .returned v' ∧ D w' v' (n + m) (dlen (n + m)) ∧ Below w.heap.size w w' ∧ Fresh w.heap.size v' := by
  obtain ⟨i0, hi, hz0, hz1, hz2⟩ := info_parts infoU
  obtain ⟨L, hL⟩ : ∃ L, L = max l k := ⟨_, rfl⟩
  have hL1 : L ≤ 536870912 := by omega
  have hn : n < 65536 ^ L := Nat.lt_of_lt_of_le hD.lt (Nat.pow_le_pow_right (by decide) (by omega))
  have hm : m < 65536 ^ L := Nat.lt_of_lt_of_le hE.lt (Nat.pow_le_pow_right (by decide) (by omega))
  have HL : Hid (max l k = L) := hL.symm
  clear hL
  obtain ⟨B, hB⟩ : ∃ B, B = w.heap.size := ⟨_, rfl⟩
  go_enter Try.func39, Try.ntmps39
  go_wp2
  go_loopw [5, 6, 7] (fun o c i wr => ∃ (j cc : Nat) (os : List Nat), j ≤ L ∧ i = .int .i64 j ∧ c = .int .u64 cc ∧ cc ≤ 1 ∧ os.length = j ∧ Small16 os ∧ val os + 65536 ^ j * cc = n % 65536 ^ j + m % 65536 ^ j ∧
      wr.ownsRow w.heap.size 22 1 o j (cells os) ∧ Below w.heap.size w wr ∧ w.heap.size ≤ wr.heap.size ∧ D wr v n l ∧ D wr u m k) (fun _ _ i _ => L - (intOf i).toNat)
  case atStart =>
    exact ⟨0, 0, [], Nat.zero_le _, rfl, rfl, by omega, rfl, by intro x hx; simp at hx, by simp [val, Nat.mod_one], World.ownsRow_made w #[] 0 (Nat.le_refl _) (by decide) rfl, (Below.refl _ _).alloc (Nat.le_refl _) _, by simp, hD.below ((Below.refl _ _).alloc (Nat.le_refl _) _), hE.below ((Below.refl _ _).alloc (Nat.le_refl _) _)⟩
  case round =>
    obtain ⟨j, cc, os, hj, rfl, rfl, hc1, hlen, hsm, hval, hown, hbel, hsz, hDr, hEr⟩ := hrel
    have HV : Hid (val os + 65536 ^ j * cc = n % 65536 ^ j + m % 65536 ^ j) := hval
    clear hval
    by_cases hlt : j < L
    · obtain ⟨p, hp⟩ : ∃ p, p = dig n j := ⟨_, rfl⟩
      obtain ⟨q, hq⟩ : ∃ q, q = dig m j := ⟨_, rfl⟩
      have p1 : p < 65536 := by rw [hp]; exact dig_lt _ _
      have q1 : q < 65536 := by rw [hq]; exact dig_lt _ _
      obtain ⟨d, hd⟩ : ∃ d, d = (p + q + cc) % 65536 := ⟨_, rfl⟩
      obtain ⟨f, hf⟩ : ∃ f, f = (p + q + cc) / 65536 := ⟨_, rfl⟩
      have t1 : bits .and .u64 ((p : Int) + (q : Int) + (cc : Int)) 65535 = (d : Int) := by
        have := and16 (p + q + cc) (by omega)
        rw [hd, ← this]; simp
      have t2 : ((p : Int) + (q : Int) + (cc : Int)) / 65536 = (f : Int) := by rw [hf]; simp
      have hM := sum_math hp hq hlen HV.out
      rw [← hd, ← hf] at hM
      have HM : Hid (val (os ++ [d]) + 65536 ^ (j + 1) * f = n % 65536 ^ (j + 1) + m % 65536 ^ (j + 1)) := hM
      have d1 : d < 65536 := by omega
      have f1 : f ≤ 1 := by omega
      have H1 : Hid (∀ w, D w v n l → Calls Try.prog 58 #[v, .int .i64 j] w fun e w' => e = .returned (.int .u64 p) ∧ w' = w) := by
        intro w h
        have := at_any v n l j w h (by omega)
        rw [Int.toNat_natCast, ← hp] at this
        exact this
      have H2 : Hid (∀ w, D w u m k → Calls Try.prog 58 #[u, .int .i64 j] w fun e w' => e = .returned (.int .u64 q) ∧ w' = w) := by
        intro w h
        have := at_any u m k j w h (by omega)
        rw [Int.toNat_natCast, ← hq] at this
        exact this
      have hs2 := small_snoc hsm d1
      clear hp hq hd hf hM
      go_wp2_with fail
      refine (most_any _ _ n l m k _ hDr hEr).mono ?_
      rintro e w' ⟨rfl, rfl⟩
      rw [HL.out]
      go_wp2_with fail
      refine (H1.out _ hDr).mono ?_
      rintro e w' ⟨rfl, rfl⟩
      go_wp2_with fail
      refine (H2.out _ hEr).mono ?_
      rintro e w' ⟨rfl, rfl⟩
      go_wp2_with (at_builtin; refine wpList_append_own _ rfl _ _ 41 rfl w.heap.size 22 i0 (.int .u64 0) 1 8 Try.underlying41 hi hz0 hz1 hz2 rfl (by decide) _ j (cells os) rfl (hown.alloc _) ⟨w'.heap.size, 0, none⟩ 1 1 [.int .u64 (d : Int)] rfl rfl (one_new _ _ _) (by intro x hx; simp at hx; subst hx; rfl) (by unfold maxLen; omega) (by omega) (by simp; omega) ?_)
      intro v' w1 hown' hgrow _
      have R := sum_step hown hbel hsz hown' hgrow
      have hD1 := hD.below R.2.1
      have hE1 := hE.below R.2.1
      clear hown' hgrow hown hbel hsz
      go_wp2
      go_roundw
      case rel => exact ⟨j + 1, f, os ++ [d], by omega, by go_num, rfl, f1, by simp [hlen], hs2, HM.out, R.1, R.2.1, R.2.2, hD1, hE1⟩
      case measure => simp [intOf]; omega
    · have HJ : Hid (j = L) := by show j = L; omega
      go_wp2_with fail
      refine (most_any _ _ n l m k _ hDr hEr).mono ?_
      rintro e w' ⟨rfl, rfl⟩
      rw [HL.out]
      go_wp2_with (at_builtin; refine wpList_append_own _ rfl _ _ 41 rfl w.heap.size 22 i0 (.int .u64 0) 1 8 Try.underlying41 hi hz0 hz1 hz2 rfl (by decide) _ j (cells os) rfl (hown.alloc _) ⟨w'.heap.size, 0, none⟩ 1 1 [.int .u64 (cc : Int)] rfl rfl (one_new _ _ _) (by intro x hx; simp at hx; subst hx; rfl) (by unfold maxLen; omega) (by omega) (by simp; omega) ?_)
      intro v' w1 hown' hgrow _
      have R := sum_step hown hbel hsz hown' hgrow
      have hd : D w1 v' (n + m) (j + 1) := sum_end (ownsRow_base R.1) hsm hc1 hlen HJ.out hn hm HV.out
      have hb := R.2.1
      clear hown' hgrow hown hbel hsz R
      go_wp2_with fail
      refine (trim_new _ (n + m) (j + 1) _ hd (by omega)).mono ?_
      rintro e w2 ⟨v2, rfl, hd2, hb2, hf2⟩
      go_wp2
      go_ret
      exact ⟨_, rfl, hd2, hb.trans (hb2.mono hb.size), hf2.mono hb.size⟩

set_option maxHeartbeats 1000000 in
theorem minus_new (v u : Value) (n l m k : Nat) (w : World) (hD : D w v n l) (hE : D w u m k) (hl : l ≤ 536870912) (hm : m ≤ n) :
    Calls Try.prog 46 #[v, u] w fun e w' => ∃ v', e = .returned v' ∧ D w' v' (n - m) (dlen (n - m)) ∧ Below w.heap.size w w' ∧ Fresh w.heap.size v' := by
  obtain ⟨i0, hi, hz0, hz1, hz2⟩ := info_parts infoU
  have hn := hD.lt
  have hsh := hD.shape
  obtain ⟨g, cap, rfl, hg, hlc, hcm, -⟩ := hsh
  unfold maxLen at hcm
  go_enter Try.func46, Try.ntmps46
  go_wp2
  go_loopw [5, 6, 7] (fun o c i wr => ∃ (j cc : Nat) (os : List Nat), j ≤ l ∧ i = .int .i64 j ∧ c = .int .u64 cc ∧ cc ≤ 1 ∧ os.length = j ∧ Small16 os ∧ n % 65536 ^ j + 65536 ^ j * cc = val os + m % 65536 ^ j ∧
      wr.ownsRow w.heap.size 22 1 o j (cells os) ∧ o ≠ .slice none 0 0 ∧ Below w.heap.size w wr ∧ w.heap.size ≤ wr.heap.size ∧ D wr (.slice (some ⟨g, 0, none⟩) l cap) n l ∧ D wr u m k) (fun _ _ i _ => l - (intOf i).toNat)
  case atStart =>
    exact ⟨0, 0, [], Nat.zero_le _, rfl, rfl, by omega, rfl, by intro x hx; simp at hx, by simp [val, Nat.mod_one], World.ownsRow_made w #[] 0 (Nat.le_refl _) (by decide) rfl, by simp, (Below.refl _ _).alloc (Nat.le_refl _) _, by simp, hD.below ((Below.refl _ _).alloc (Nat.le_refl _) _), hE.below ((Below.refl _ _).alloc (Nat.le_refl _) _)⟩
  case round =>
    obtain ⟨j, cc, os, hj, rfl, rfl, hc1, hlen, hsm, hval, hown, hnil, hbel, hsz, hDr, hEr⟩ := hrel
    have HV : Hid (n % 65536 ^ j + 65536 ^ j * cc = val os + m % 65536 ^ j) := hval
    clear hval
    by_cases hlt : j < l
    · obtain ⟨p, hp⟩ : ∃ p, p = dig n j := ⟨_, rfl⟩
      obtain ⟨q, hq⟩ : ∃ q, q = dig m j := ⟨_, rfl⟩
      have p1 : p < 65536 := by rw [hp]; exact dig_lt _ _
      have q1 : q < 65536 := by rw [hq]; exact dig_lt _ _
      obtain ⟨f, hf⟩ : ∃ f, f = if p < q + cc then 1 else 0 := ⟨_, rfl⟩
      obtain ⟨d, hd⟩ : ∃ d, d = p + 65536 * f - (q + cc) := ⟨_, rfl⟩
      have hpd : p + 65536 * f = d + (q + cc) := by rw [hd, hf]; split <;> omega
      have hM := minus_math hp hq hlen HV.out hpd
      have HM : Hid (n % 65536 ^ (j + 1) + 65536 ^ (j + 1) * f = val (os ++ [d]) + m % 65536 ^ (j + 1)) := hM
      have d1 : d < 65536 := by rw [hd, hf]; split <;> omega
      have f1 : f ≤ 1 := by rw [hf]; split <;> omega
      have hcell : wr.cell? ⟨g, j, none⟩ = some (.int .u64 (p : Int)) := by rw [hp]; exact hDr.shape_cell rfl hlt
      have H2 : Hid (∀ w, D w u m k → Calls Try.prog 58 #[u, .int .i64 j] w fun e w' => e = .returned (.int .u64 q) ∧ w' = w) := by
        intro w h
        have := at_any u m k j w h (by omega)
        rw [Int.toNat_natCast, ← hq] at this
        exact this
      have hs2 := small_snoc hsm d1
      clear hp hq hM hd
      by_cases hlow : p < q + cc
      · rw [if_pos hlow] at hf
        subst hf
        have hd2 : (p : Int) + 65536 - ((q : Int) + (cc : Int)) = (d : Int) := by omega
        have HD2 : Hid ((p : Int) + 65536 - ((q : Int) + (cc : Int)) = (d : Int)) := hd2
        clear hpd hd2
        go_wp2_with fail
        go_quiet ((go_at_call 58; refine Calls.quiet_of_same (H2.out _ ?_); exact hEr))
        have hownq : (wr.drewN nq).ownsRow w.heap.size 22 1 u5 j (cells os) := hown
        have hbq : Below w.heap.size w (wr.drewN nq) := below_drewN hbel nq
        have hszq : w.heap.size ≤ (wr.drewN nq).heap.size := hsz
        clear hcell hEr hDr hown hbel hsz
        generalize wr.drewN nq = wq at *
        have hd2 := HD2.out
        go_wp2_with (at_builtin; refine wpList_append_own _ rfl _ _ 41 rfl w.heap.size 22 i0 (.int .u64 0) 1 8 Try.underlying41 hi hz0 hz1 hz2 rfl (by decide) _ j (cells os) rfl (hownq.alloc _) ⟨wq.heap.size, 0, none⟩ 1 1 [.int .u64 (d : Int)] rfl rfl (one_new _ _ _) (by intro x hx; simp at hx; subst hx; rfl) (by unfold maxLen; omega) (by omega) (by simp; omega) ?_)
        intro v' w1 hown' hgrow _
        have R := sum_step hownq hbq hszq hown' hgrow
        have hD1 := hD.below R.2.1
        have hE1 := hE.below R.2.1
        clear hown' hgrow hownq hbq hszq
        go_wp2
        go_roundw
        case rel => exact ⟨j + 1, 1, os ++ [d], by omega, by go_num, rfl, f1, by simp [hlen], hs2, HM.out, R.1, nil_ne R.1, R.2.1, R.2.2, hD1, hE1⟩
        case measure => simp [intOf]; omega
      · rw [if_neg hlow] at hf
        subst hf
        have hd2 : (p : Int) - ((q : Int) + (cc : Int)) = (d : Int) := by omega
        have HD2 : Hid ((p : Int) - ((q : Int) + (cc : Int)) = (d : Int)) := hd2
        clear hpd hd2
        go_wp2_with fail
        go_quiet ((go_at_call 58; refine Calls.quiet_of_same (H2.out _ ?_); exact hEr))
        have hownq : (wr.drewN nq).ownsRow w.heap.size 22 1 u5 j (cells os) := hown
        have hbq : Below w.heap.size w (wr.drewN nq) := below_drewN hbel nq
        have hszq : w.heap.size ≤ (wr.drewN nq).heap.size := hsz
        clear hcell hEr hDr hown hbel hsz
        generalize wr.drewN nq = wq at *
        have hd2 := HD2.out
        go_wp2_with (at_builtin; refine wpList_append_own _ rfl _ _ 41 rfl w.heap.size 22 i0 (.int .u64 0) 1 8 Try.underlying41 hi hz0 hz1 hz2 rfl (by decide) _ j (cells os) rfl (hownq.alloc _) ⟨wq.heap.size, 0, none⟩ 1 1 [.int .u64 (d : Int)] rfl rfl (one_new _ _ _) (by intro x hx; simp at hx; subst hx; rfl) (by unfold maxLen; omega) (by omega) (by simp; omega) ?_)
        intro v' w1 hown' hgrow _
        have R := sum_step hownq hbq hszq hown' hgrow
        have hD1 := hD.below R.2.1
        have hE1 := hE.below R.2.1
        clear hown' hgrow hownq hbq hszq
        go_wp2
        go_roundw
        case rel => exact ⟨j + 1, 0, os ++ [d], by omega, by go_num, rfl, f1, by simp [hlen], hs2, HM.out, R.1, nil_ne R.1, R.2.1, R.2.2, hD1, hE1⟩
        case measure => simp [intOf]; omega
    · have HJ : j = l := by omega
      have hd : D wr u5 (n - m) j := minus_end (ownsRow_base hown) hnil hsm hlen HJ hn hm HV.out
      have hb := hbel
      clear hown hbel hsz HJ
      go_wp2_with fail
      refine (trim_new _ (n - m) j _ hd (by omega)).mono ?_
      rintro e w2 ⟨v2, rfl, hd2, hb2, hf2⟩
      go_wp2
      go_ret
      exact ⟨_, rfl, hd2, hb.trans (hb2.mono hb.size), hf2.mono hb.size⟩

end Go.Proofs.Ytpgjibfggagbmaa
