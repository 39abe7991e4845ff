/-
  The reference's Minus.
-/
import Derived.Test.YtpjgmlhchaojaaaDigCmp
import Derived.Deep.QuietTactic
import Derived.BigQuiet
import Derived.WalkSmall
namespace Go.Proofs.Ytpjgmlhchaojaaa
open Go.RowKit Dg

theorem minus_math {n m j c p q d f : Nat} {os : List Nat} (hp : p = dig n j) (hq : q = dig m j) (hl : os.length = j) (h : n % 65536 ^ j + 65536 ^ j * c = val os + m % 65536 ^ j) (hd : p + 65536 * f = d + (q + c)) :
    n % 65536 ^ (j + 1) + 65536 ^ (j + 1) * f = val (os ++ [d]) + m % 65536 ^ (j + 1) := by
  rw [val_snoc, hl, dig_step n j, dig_step m j, ← hp, ← hq, Nat.pow_succ]
  have e : 65536 ^ j * p + 65536 ^ j * 65536 * f = 65536 ^ j * d + 65536 ^ j * q + 65536 ^ j * c := by
    rw [Nat.mul_assoc, ← Nat.mul_add, hd]
    grind
  omega

theorem minus_end {w : World} {v : Value} {os : List Nat} {n m j c L : Nat} (h : w.ownsRow 0 22 1 v j (cells os)) (hnil : v ≠ .slice none 0 0) (hs : Small16 os) (hl : os.length = j) (hj : j = L)
    (hn : n < 65536 ^ L) (hm : m ≤ n) (hv : n % 65536 ^ j + 65536 ^ j * c = val os + m % 65536 ^ j) : D w v (n - m) j := by
  have hd := D.of_own h hnil hs
  have h2 := val_lt os hs
  rw [hl] at h2
  rw [hj, Nat.mod_eq_of_lt hn, Nat.mod_eq_of_lt (by omega)] at hv
  have hc : c = 0 := by
    rcases Nat.eq_zero_or_pos c with k | k
    · exact k
    · have := Nat.le_mul_of_pos_right (65536 ^ L) k
      rw [hj] at h2
      omega
  rw [hc] at hv
  have : val os = n - m := by omega
  rw [this] at hd
  exact hd

theorem nil_ne {w : World} {B e n : Nat} {v : Value} {xs : List Value} (h : w.ownsRow B e 1 v (n + 1) xs) : v ≠ .slice none 0 0 := by
  intro k
  subst k
  rcases h.2 with ⟨_, k⟩ | ⟨g, cap, cur, k, _⟩
  · simp at k
  · simp at k

set_option maxHeartbeats 1000000 in
theorem minus_any (v u : Value) (n l m k : Nat) (w : World) (hD : D w v n l) (hE : D w u m k) (hl : l ≤ 536870912) (hm : m ≤ n) :
    Calls Try.prog 55 #[v, u] w fun e w' => ∃ v', e = .returned v' ∧ D w' v' (n - m) (dlen (n - m)) ∧ Below w.heap.size w w' := by
  obtain ⟨i0, hi, hz0, hz1, hz2⟩ := info_parts infoU
  have hn := hD.lt
  have hsh := hD.shape
  obtain ⟨g, cap, rfl, hg, hlc, hcm, -⟩ := hsh
  unfold maxLen at hcm
  go_enter Try.func55, Try.ntmps55
  go_wp2
  go_loopw [5, 6, 7] (fun o c i wr => ∃ (j cc : Nat) (os : List Nat), j ≤ l ∧ i = .int .i64 j ∧ c = .int .u64 cc ∧ cc ≤ 1 ∧ os.length = j ∧ Small16 os ∧ n % 65536 ^ j + 65536 ^ j * cc = val os + m % 65536 ^ j ∧
      wr.ownsRow w.heap.size 22 1 o j (cells os) ∧ o ≠ .slice none 0 0 ∧ Below w.heap.size w wr ∧ w.heap.size ≤ wr.heap.size ∧ D wr (.slice (some ⟨g, 0, none⟩) l cap) n l ∧ D wr u m k) (fun _ _ i _ => l - (intOf i).toNat)
  case atStart =>
    exact ⟨0, 0, [], Nat.zero_le _, rfl, rfl, by omega, rfl, by intro x hx; simp at hx, by simp [val, Nat.mod_one], World.ownsRow_made w #[] 0 (Nat.le_refl _) (by decide) rfl, by simp, (Below.refl _ _).alloc (Nat.le_refl _) _, by simp, hD.below ((Below.refl _ _).alloc (Nat.le_refl _) _), hE.below ((Below.refl _ _).alloc (Nat.le_refl _) _)⟩
  case round =>
    obtain ⟨j, cc, os, hj, rfl, rfl, hc1, hlen, hsm, hval, hown, hnil, hbel, hsz, hDr, hEr⟩ := hrel
    have HV : Hid (n % 65536 ^ j + 65536 ^ j * cc = val os + m % 65536 ^ j) := hval
    clear hval
    by_cases hlt : j < l
    · obtain ⟨p, hp⟩ : ∃ p, p = dig n j := ⟨_, rfl⟩
      obtain ⟨q, hq⟩ : ∃ q, q = dig m j := ⟨_, rfl⟩
      have p1 : p < 65536 := by rw [hp]; exact dig_lt _ _
      have q1 : q < 65536 := by rw [hq]; exact dig_lt _ _
      obtain ⟨f, hf⟩ : ∃ f, f = if p < q + cc then 1 else 0 := ⟨_, rfl⟩
      obtain ⟨d, hd⟩ : ∃ d, d = p + 65536 * f - (q + cc) := ⟨_, rfl⟩
      have hpd : p + 65536 * f = d + (q + cc) := by rw [hd, hf]; split <;> omega
      have hM := minus_math hp hq hlen HV.out hpd
      have HM : Hid (n % 65536 ^ (j + 1) + 65536 ^ (j + 1) * f = val (os ++ [d]) + m % 65536 ^ (j + 1)) := hM
      have d1 : d < 65536 := by rw [hd, hf]; split <;> omega
      have f1 : f ≤ 1 := by rw [hf]; split <;> omega
      have hcell : wr.cell? ⟨g, j, none⟩ = some (.int .u64 (p : Int)) := by rw [hp]; exact hDr.shape_cell rfl hlt
      have H2 : Hid (∀ w, D w u m k → Calls Try.prog 58 #[u, .int .i64 j] w fun e w' => e = .returned (.int .u64 q) ∧ w' = w) := by
        intro w h
        have := at_any u m k j w h (by omega)
        rw [Int.toNat_natCast, ← hq] at this
        exact this
      have hs2 := small_snoc hsm d1
      clear hp hq hM hd
      by_cases hlow : p < q + cc
      · rw [if_pos hlow] at hf
        subst hf
        have hd2 : (p : Int) + 65536 - ((q : Int) + (cc : Int)) = (d : Int) := by omega
        have HD2 : Hid ((p : Int) + 65536 - ((q : Int) + (cc : Int)) = (d : Int)) := hd2
        clear hpd hd2
        go_wp2_with fail
        go_quiet ((go_at_call 58; refine Calls.quiet_of_same (H2.out _ ?_); exact hEr))
        have hownq : (wr.drewN nq).ownsRow w.heap.size 22 1 u5 j (cells os) := hown
        have hbq : Below w.heap.size w (wr.drewN nq) := below_drewN hbel nq
        have hszq : w.heap.size ≤ (wr.drewN nq).heap.size := hsz
        clear hcell hEr hDr hown hbel hsz
        generalize wr.drewN nq = wq at *
        have hd2 := HD2.out
        go_wp2_with (at_builtin; refine wpList_append_own _ rfl _ _ 39 rfl w.heap.size 22 i0 (.int .u64 0) 1 8 Try.underlying39 hi hz0 hz1 hz2 rfl (by decide) _ j (cells os) rfl (hownq.alloc _) ⟨wq.heap.size, 0, none⟩ 1 1 [.int .u64 (d : Int)] rfl rfl (one_new _ _ _) (by intro x hx; simp at hx; subst hx; rfl) (by unfold maxLen; omega) (by omega) (by simp; omega) ?_)
        intro v' w1 hown' hgrow _
        have R := sum_step hownq hbq hszq hown' hgrow
        have hD1 := hD.below R.2.1
        have hE1 := hE.below R.2.1
        clear hown' hgrow hownq hbq hszq
        go_wp2
        go_roundw
        case rel => exact ⟨j + 1, 1, os ++ [d], by omega, by go_num, rfl, f1, by simp [hlen], hs2, HM.out, R.1, nil_ne R.1, R.2.1, R.2.2, hD1, hE1⟩
        case measure => simp [intOf]; omega
      · rw [if_neg hlow] at hf
        subst hf
        have hd2 : (p : Int) - ((q : Int) + (cc : Int)) = (d : Int) := by omega
        have HD2 : Hid ((p : Int) - ((q : Int) + (cc : Int)) = (d : Int)) := hd2
        clear hpd hd2
        go_wp2_with fail
        go_quiet ((go_at_call 58; refine Calls.quiet_of_same (H2.out _ ?_); exact hEr))
        have hownq : (wr.drewN nq).ownsRow w.heap.size 22 1 u5 j (cells os) := hown
        have hbq : Below w.heap.size w (wr.drewN nq) := below_drewN hbel nq
        have hszq : w.heap.size ≤ (wr.drewN nq).heap.size := hsz
        clear hcell hEr hDr hown hbel hsz
        generalize wr.drewN nq = wq at *
        have hd2 := HD2.out
        go_wp2_with (at_builtin; refine wpList_append_own _ rfl _ _ 39 rfl w.heap.size 22 i0 (.int .u64 0) 1 8 Try.underlying39 hi hz0 hz1 hz2 rfl (by decide) _ j (cells os) rfl (hownq.alloc _) ⟨wq.heap.size, 0, none⟩ 1 1 [.int .u64 (d : Int)] rfl rfl (one_new _ _ _) (by intro x hx; simp at hx; subst hx; rfl) (by unfold maxLen; omega) (by omega) (by simp; omega) ?_)
        intro v' w1 hown' hgrow _
        have R := sum_step hownq hbq hszq hown' hgrow
        have hD1 := hD.below R.2.1
        have hE1 := hE.below R.2.1
        clear hown' hgrow hownq hbq hszq
        go_wp2
        go_roundw
        case rel => exact ⟨j + 1, 0, os ++ [d], by omega, by go_num, rfl, f1, by simp [hlen], hs2, HM.out, R.1, nil_ne R.1, R.2.1, R.2.2, hD1, hE1⟩
        case measure => simp [intOf]; omega
    · have HJ : j = l := by omega
      have hd : D wr u5 (n - m) j := minus_end (ownsRow_base hown) hnil hsm hlen HJ hn hm HV.out
      have hb := hbel
      clear hown hbel hsz HJ
      go_wp2_with fail
      refine (trim_any _ (n - m) j _ hd (by omega)).mono ?_
      rintro e w2 ⟨v2, rfl, hd2, hb2⟩
      go_wp2
      go_ret
      exact ⟨_, rfl, hd2, hb.trans (hb2.mono hb.size)⟩

end Go.Proofs.Ytpjgmlhchaojaaa
