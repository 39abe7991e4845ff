/-
  The walks of the reference's Digits and Sum.
-/
import Derived.Test.YtpjgmlhchaojaaaDigWalk
namespace Go.Proofs.Ytpjgmlhchaojaaa
open Go.RowKit Dg

theorem and16 (x : Nat) (h : x < 18446744073709551616) : bits .and .u64 (x : Int) 65535 = ((x % 65536 : Nat) : Int) := by
  rw [u64_and _ _ (Int.natCast_nonneg _) (by omega) (by decide) (by decide), Int.toNat_natCast, show (65535 : Int).toNat = 2 ^ 16 - 1 from by decide, Nat.and_two_pow_sub_one_eq_mod]

theorem val_four (a b c d : Nat) : val [a, b, c, d] = a + 65536 * (b + 65536 * (c + 65536 * d)) := by simp [val]

theorem digits_any (n : Nat) (w : World) (h : n < 18446744073709551616) :
    Calls Try.prog 30 #[.int .u64 n] w fun e w' => ∃ v', e = .returned v' ∧ D w' v' n 4 ∧ Below w.heap.size w w' := by
  obtain ⟨a, ha⟩ : ∃ a, a = n % 65536 := ⟨_, rfl⟩
  obtain ⟨b, hb⟩ : ∃ a, a = n / 65536 % 65536 := ⟨_, rfl⟩
  obtain ⟨c, hc⟩ : ∃ a, a = n / 4294967296 % 65536 := ⟨_, rfl⟩
  obtain ⟨d, hd⟩ : ∃ a, a = n / 281474976710656 := ⟨_, rfl⟩
  have h1 : bits .and .u64 (n : Int) 65535 = (a : Int) := by rw [and16 n h, ha]
  have h2 : bits .and .u64 ((n : Int) / 65536) 65535 = (b : Int) := by
    have := and16 (n / 65536) (by omega)
    rw [hb, ← this]; rfl
  have h3 : bits .and .u64 ((n : Int) / 4294967296) 65535 = (c : Int) := by
    have := and16 (n / 4294967296) (by omega)
    rw [hc, ← this]; rfl
  have h4 : (n : Int) / 281474976710656 = (d : Int) := by rw [hd]; rfl
  have R : D (w.alloc (.cells #[.int .u64 a, .int .u64 b, .int .u64 c, .int .u64 d] 22)) (.slice (some ⟨w.heap.size, 0, none⟩) 4 4) n 4 := by
    refine ⟨[a, b, c, d], w.heap.size, 4, rfl, rfl, ?_, ?_, World.ownsRow_lit w #[.int .u64 a, .int .u64 b, .int .u64 c, .int .u64 d] 4 (Nat.zero_le _) (by decide) rfl⟩
    · intro x hx
      simp at hx
      omega
    · rw [val_four]; omega
  clear ha hb hc hd
  go_enter Try.func30, Try.ntmps30
  go_wp2
  go_ret
  exact ⟨_, rfl, R, (Below.refl _ _).alloc (Nat.le_refl _) _⟩

theorem ownsRow_base {w : World} {B e s n : Nat} {v : Value} {xs : List Value} (h : w.ownsRow B e s v n xs) : w.ownsRow 0 e s v n xs := by
  refine ⟨h.1, ?_⟩
  rcases h.2 with hn | ⟨g, cap, cur, rfl, h0, rest⟩
  · exact .inl hn
  · exact .inr ⟨g, cap, cur, rfl, Nat.zero_le _, rest⟩
theorem cells_snoc (ds : List Nat) (d : Nat) : cells ds ++ [.int .u64 (d : Int)] = cells (ds ++ [d]) := by unfold cells; simp
/-- One new cell, where an append lays it. -/
theorem one_new (w : World) (u : Value) (t : TypeId) : ∀ j x, [u][j]? = some x → (w.alloc (.cells #[u] t)).cell? ((⟨w.heap.size, 0, none⟩ : Addr).add j) = some x := by
  intro j x hj
  match j, hj with
  | 0, hj => simp at hj; subst hj; simp [Addr.add]

/-- What a round of Sum does to what was gathered. -/
theorem sum_step {w wr w1 : World} {v v' : Value} {os : List Nat} {k d : Nat} {B : Nat} (hown : wr.ownsRow B 22 1 v k (cells os)) (hb : Below B w wr) (hB : B ≤ wr.heap.size) {o : Obj}
    (hown' : w1.ownsRow B 22 1 v' (k + 1) (cells os ++ [.int .u64 (d : Int)])) (hgrow : (wr.alloc o).grownBy w1 v.ownBlock) :
    w1.ownsRow B 22 1 v' (k + 1) (cells (os ++ [d])) ∧ Below B w w1 ∧ B ≤ w1.heap.size := by
  rw [cells_snoc] at hown'
  refine ⟨hown', (hb.alloc hB o).grown hgrow (by simp; omega) (fun g hg => (hown.lt g hg).1), ?_⟩
  have := hgrow.size
  simp at this
  omega
theorem sum_math {n m k c p q : Nat} {os : List Nat} (hp : p = dig n k) (hq : q = dig m k) (hl : os.length = k) (h : val os + 65536 ^ k * c = n % 65536 ^ k + m % 65536 ^ k) :
    val (os ++ [(p + q + c) % 65536]) + 65536 ^ (k + 1) * ((p + q + c) / 65536) = n % 65536 ^ (k + 1) + m % 65536 ^ (k + 1) := by
  rw [val_snoc, hl, dig_step n k, dig_step m k, ← hp, ← hq, Nat.pow_succ]
  have e : 65536 ^ k * ((p + q + c) % 65536) + 65536 ^ k * 65536 * ((p + q + c) / 65536) = 65536 ^ k * p + 65536 ^ k * q + 65536 ^ k * c := by
    rw [Nat.mul_assoc, ← Nat.mul_add, ← Nat.mul_add, ← Nat.mul_add, Nat.mod_add_div]
  omega

theorem sum_end {w : World} {v : Value} {os : List Nat} {n m j c L : Nat} (h : w.ownsRow 0 22 1 v (j + 1) (cells (os ++ [c]))) (hs : Small16 os) (hc : c ≤ 1) (hl : os.length = j) (hj : j = L)
    (hn : n < 65536 ^ L) (hm : m < 65536 ^ L) (hv : val os + 65536 ^ j * c = n % 65536 ^ j + m % 65536 ^ j) : D w v (n + m) (j + 1) := by
  have hd := D.of_own_pos h (by omega) (small_snoc hs (by omega))
  rw [val_snoc, hl, hv, hj, Nat.mod_eq_of_lt hn, Nat.mod_eq_of_lt hm] at hd
  rw [hj]
  exact hd

set_option maxHeartbeats 1000000 in
theorem sum_any (v u : Value) (n l m k : Nat) (w : World) (hD : D w v n l) (hE : D w u m k) (hl : l ≤ 536870912) (hk : k ≤ 536870912) :
    Calls Try.prog 64 #[v, u] w fun e w' => ∃ v', e = .returned v' ∧ D w' v' (n + m) (dlen (n + m)) ∧ Below w.heap.size w w' := by
  obtain ⟨i0, hi, hz0, hz1, hz2⟩ := info_parts infoU
  obtain ⟨L, hL⟩ : ∃ L, L = max l k := ⟨_, rfl⟩
  have hL1 : L ≤ 536870912 := by omega
  have hn : n < 65536 ^ L := Nat.lt_of_lt_of_le hD.lt (Nat.pow_le_pow_right (by decide) (by omega))
  have hm : m < 65536 ^ L := Nat.lt_of_lt_of_le hE.lt (Nat.pow_le_pow_right (by decide) (by omega))
  have HL : Hid (max l k = L) := hL.symm
  clear hL
  obtain ⟨B, hB⟩ : ∃ B, B = w.heap.size := ⟨_, rfl⟩
  go_enter Try.func64, Try.ntmps64
  go_wp2
  go_loopw [5, 6, 7] (fun o c i wr => ∃ (j cc : Nat) (os : List Nat), j ≤ L ∧ i = .int .i64 j ∧ c = .int .u64 cc ∧ cc ≤ 1 ∧ os.length = j ∧ Small16 os ∧ val os + 65536 ^ j * cc = n % 65536 ^ j + m % 65536 ^ j ∧
      wr.ownsRow w.heap.size 22 1 o j (cells os) ∧ Below w.heap.size w wr ∧ w.heap.size ≤ wr.heap.size ∧ D wr v n l ∧ D wr u m k) (fun _ _ i _ => L - (intOf i).toNat)
  case atStart =>
    exact ⟨0, 0, [], Nat.zero_le _, rfl, rfl, by omega, rfl, by intro x hx; simp at hx, by simp [val, Nat.mod_one], World.ownsRow_made w #[] 0 (Nat.le_refl _) (by decide) rfl, (Below.refl _ _).alloc (Nat.le_refl _) _, by simp, hD.below ((Below.refl _ _).alloc (Nat.le_refl _) _), hE.below ((Below.refl _ _).alloc (Nat.le_refl _) _)⟩
  case round =>
    obtain ⟨j, cc, os, hj, rfl, rfl, hc1, hlen, hsm, hval, hown, hbel, hsz, hDr, hEr⟩ := hrel
    have HV : Hid (val os + 65536 ^ j * cc = n % 65536 ^ j + m % 65536 ^ j) := hval
    clear hval
    by_cases hlt : j < L
    · obtain ⟨p, hp⟩ : ∃ p, p = dig n j := ⟨_, rfl⟩
      obtain ⟨q, hq⟩ : ∃ q, q = dig m j := ⟨_, rfl⟩
      have p1 : p < 65536 := by rw [hp]; exact dig_lt _ _
      have q1 : q < 65536 := by rw [hq]; exact dig_lt _ _
      obtain ⟨d, hd⟩ : ∃ d, d = (p + q + cc) % 65536 := ⟨_, rfl⟩
      obtain ⟨f, hf⟩ : ∃ f, f = (p + q + cc) / 65536 := ⟨_, rfl⟩
      have t1 : bits .and .u64 ((p : Int) + (q : Int) + (cc : Int)) 65535 = (d : Int) := by
        have := and16 (p + q + cc) (by omega)
        rw [hd, ← this]; simp
      have t2 : ((p : Int) + (q : Int) + (cc : Int)) / 65536 = (f : Int) := by rw [hf]; simp
      have hM := sum_math hp hq hlen HV.out
      rw [← hd, ← hf] at hM
      have HM : Hid (val (os ++ [d]) + 65536 ^ (j + 1) * f = n % 65536 ^ (j + 1) + m % 65536 ^ (j + 1)) := hM
      have d1 : d < 65536 := by omega
      have f1 : f ≤ 1 := by omega
      have H1 : Hid (∀ w, D w v n l → Calls Try.prog 58 #[v, .int .i64 j] w fun e w' => e = .returned (.int .u64 p) ∧ w' = w) := by
        intro w h
        have := at_any v n l j w h (by omega)
        rw [Int.toNat_natCast, ← hp] at this
        exact this
      have H2 : Hid (∀ w, D w u m k → Calls Try.prog 58 #[u, .int .i64 j] w fun e w' => e = .returned (.int .u64 q) ∧ w' = w) := by
        intro w h
        have := at_any u m k j w h (by omega)
        rw [Int.toNat_natCast, ← hq] at this
        exact this
      have hs2 := small_snoc hsm d1
      clear hp hq hd hf hM
      go_wp2_with fail
      refine (most_any _ _ n l m k _ hDr hEr).mono ?_
      rintro e w' ⟨rfl, rfl⟩
      rw [HL.out]
      go_wp2_with fail
      refine (H1.out _ hDr).mono ?_
      rintro e w' ⟨rfl, rfl⟩
      go_wp2_with fail
      refine (H2.out _ hEr).mono ?_
      rintro e w' ⟨rfl, rfl⟩
      go_wp2_with (at_builtin; refine wpList_append_own _ rfl _ _ 39 rfl w.heap.size 22 i0 (.int .u64 0) 1 8 Try.underlying39 hi hz0 hz1 hz2 rfl (by decide) _ j (cells os) rfl (hown.alloc _) ⟨w'.heap.size, 0, none⟩ 1 1 [.int .u64 (d : Int)] rfl rfl (one_new _ _ _) (by intro x hx; simp at hx; subst hx; rfl) (by unfold maxLen; omega) (by omega) (by simp; omega) ?_)
      intro v' w1 hown' hgrow _
      have R := sum_step hown hbel hsz hown' hgrow
      have hD1 := hD.below R.2.1
      have hE1 := hE.below R.2.1
      clear hown' hgrow hown hbel hsz
      go_wp2
      go_roundw
      case rel => exact ⟨j + 1, f, os ++ [d], by omega, by go_num, rfl, f1, by simp [hlen], hs2, HM.out, R.1, R.2.1, R.2.2, hD1, hE1⟩
      case measure => simp [intOf]; omega
    · have HJ : Hid (j = L) := by show j = L; omega
      go_wp2_with fail
      refine (most_any _ _ n l m k _ hDr hEr).mono ?_
      rintro e w' ⟨rfl, rfl⟩
      rw [HL.out]
      go_wp2_with (at_builtin; refine wpList_append_own _ rfl _ _ 39 rfl w.heap.size 22 i0 (.int .u64 0) 1 8 Try.underlying39 hi hz0 hz1 hz2 rfl (by decide) _ j (cells os) rfl (hown.alloc _) ⟨w'.heap.size, 0, none⟩ 1 1 [.int .u64 (cc : Int)] rfl rfl (one_new _ _ _) (by intro x hx; simp at hx; subst hx; rfl) (by unfold maxLen; omega) (by omega) (by simp; omega) ?_)
      intro v' w1 hown' hgrow _
      have R := sum_step hown hbel hsz hown' hgrow
      have hd : D w1 v' (n + m) (j + 1) := sum_end (ownsRow_base R.1) hsm hc1 hlen HJ.out hn hm HV.out
      have hb := R.2.1
      clear hown' hgrow hown hbel hsz R
      go_wp2_with fail
      refine (trim_any _ (n + m) (j + 1) _ hd (by omega)).mono ?_
      rintro e w2 ⟨v2, rfl, hd2, hb2⟩
      go_wp2
      go_ret
      exact ⟨_, rfl, hd2, hb.trans (hb2.mono hb.size)⟩

end Go.Proofs.Ytpjgmlhchaojaaa
