/-
  DigSum, DigBit, DigDown, DigProd, DigUp, DigRound
-/
import Derived.Deep.QuietTactic
import Derived.BigQuiet
import Derived.Test.YthmocdabakkfhaaGreatDoorZ01

/-
  The walks of the reference's Digits and Sum.
-/
namespace Go.Proofs.YthmocdabakkfhaaGreatDoor
set_option maxRecDepth 100000
open Go.RowKit Dg

theorem and16 (x : Nat) (h : x < 18446744073709551616) : bits .and .u64 (x : Int) 65535 = ((x % 65536 : Nat) : Int) := by
  rw [u64_and _ _ (Int.natCast_nonneg _) (by omega) (by decide) (by decide), Int.toNat_natCast, show (65535 : Int).toNat = 2 ^ 16 - 1 from by decide, Nat.and_two_pow_sub_one_eq_mod]

theorem val_four (a b c d : Nat) : val [a, b, c, d] = a + 65536 * (b + 65536 * (c + 65536 * d)) := by simp [val]

theorem digits_any (n : Nat) (w : World) (h : n < 18446744073709551616) :
    Calls Tryz.prog 71 #[.int .u64 n] w fun e w' => ∃ v', e = .returned v' ∧ D w' v' n 4 ∧ Below w.heap.size w w' := by
  obtain ⟨a, ha⟩ : ∃ a, a = n % 65536 := ⟨_, rfl⟩
  obtain ⟨b, hb⟩ : ∃ a, a = n / 65536 % 65536 := ⟨_, rfl⟩
  obtain ⟨c, hc⟩ : ∃ a, a = n / 4294967296 % 65536 := ⟨_, rfl⟩
  obtain ⟨d, hd⟩ : ∃ a, a = n / 281474976710656 := ⟨_, rfl⟩
  have h1 : bits .and .u64 (n : Int) 65535 = (a : Int) := by rw [and16 n h, ha]
  have h2 : bits .and .u64 ((n : Int) / 65536) 65535 = (b : Int) := by
    have := and16 (n / 65536) (by omega)
    rw [hb, ← this]; rfl
  have h3 : bits .and .u64 ((n : Int) / 4294967296) 65535 = (c : Int) := by
    have := and16 (n / 4294967296) (by omega)
    rw [hc, ← this]; rfl
  have h4 : (n : Int) / 281474976710656 = (d : Int) := by rw [hd]; rfl
  have R : D (w.alloc (.cells #[.int .u64 a, .int .u64 b, .int .u64 c, .int .u64 d] 34)) (.slice (some ⟨w.heap.size, 0, none⟩) 4 4) n 4 := by
    refine ⟨[a, b, c, d], w.heap.size, 4, rfl, rfl, ?_, ?_, World.ownsRow_lit w #[.int .u64 a, .int .u64 b, .int .u64 c, .int .u64 d] 4 (Nat.zero_le _) (by decide) rfl⟩
    · intro x hx
      simp at hx
      omega
    · rw [val_four]; omega
  clear ha hb hc hd
  go_enter Tryz.func71, Tryz.ntmps71
  go_wp2
  go_ret
  exact ⟨_, rfl, R, (Below.refl _ _).alloc (Nat.le_refl _) _⟩

theorem ownsRow_base {w : World} {B e s n : Nat} {v : Value} {xs : List Value} (h : w.ownsRow B e s v n xs) : w.ownsRow 0 e s v n xs := by
  refine ⟨h.1, ?_⟩
  rcases h.2 with hn | ⟨g, cap, cur, rfl, h0, rest⟩
  · exact .inl hn
  · exact .inr ⟨g, cap, cur, rfl, Nat.zero_le _, rest⟩
theorem cells_snoc (ds : List Nat) (d : Nat) : cells ds ++ [.int .u64 (d : Int)] = cells (ds ++ [d]) := by unfold cells; simp
/-- One new cell, where an append lays it. -/
theorem one_new (w : World) (u : Value) (t : TypeId) : ∀ j x, [u][j]? = some x → (w.alloc (.cells #[u] t)).cell? ((⟨w.heap.size, 0, none⟩ : Addr).add j) = some x := by
  intro j x hj
  match j, hj with
  | 0, hj => simp at hj; subst hj; simp [Addr.add]

/-- What a round of Sum does to what was gathered. -/
theorem sum_step {w wr w1 : World} {v v' : Value} {os : List Nat} {k d : Nat} {B : Nat} (hown : wr.ownsRow B 34 1 v k (cells os)) (hb : Below B w wr) (hB : B ≤ wr.heap.size) {o : Obj}
    (hown' : w1.ownsRow B 34 1 v' (k + 1) (cells os ++ [.int .u64 (d : Int)])) (hgrow : (wr.alloc o).grownBy w1 v.ownBlock) :
    w1.ownsRow B 34 1 v' (k + 1) (cells (os ++ [d])) ∧ Below B w w1 ∧ B ≤ w1.heap.size := by
  rw [cells_snoc] at hown'
  refine ⟨hown', (hb.alloc hB o).grown hgrow (by simp; omega) (fun g hg => (hown.lt g hg).1), ?_⟩
  have := hgrow.size
  simp at this
  omega
end Go.Proofs.YthmocdabakkfhaaGreatDoor

/-
  The walks of the reference's Bit, Len, Small, Sign and Infinite.
-/
namespace Go.Proofs.YthmocdabakkfhaaGreatDoor
set_option maxRecDepth 100000
open Go.RowKit Dg

/-- How many bits a number has. -/
def blen (n : Nat) : Nat := if n = 0 then 0 else n.log2 + 1

theorem bit_dig (n q r : Nat) (hr : r < 16) : dig n q / 2 ^ r % 2 = n / 2 ^ (16 * q + r) % 2 := by
  unfold dig
  rw [pow16, Nat.pow_add, ← Nat.div_div_eq_div_mul]
  generalize n / 2 ^ (16 * q) = x
  have e : 65536 = 2 ^ r * 2 ^ (16 - r) := by rw [← Nat.pow_add, show r + (16 - r) = 16 by omega]
  rw [e, Nat.mod_mul_right_div_self]
  have d : 2 ∣ 2 ^ (16 - r) := by
    rw [show 16 - r = (15 - r) + 1 by omega, Nat.pow_succ]; exact Nat.dvd_mul_left _ _
  exact Nat.mod_mod_of_dvd _ d

theorem and1 (x : Nat) (h : x < 18446744073709551616) : bits .and .u64 (x : Int) 1 = ((x % 2 : Nat) : Int) := by
  rw [u64_and _ _ (Int.natCast_nonneg _) (by omega) (by decide) (by decide), Int.toNat_natCast, show (1 : Int).toNat = 1 from rfl, nat_mask1]

set_option maxHeartbeats 400000 in
theorem bit_walk (v : Value) (n l i : Nat) (w : World) (hD : D w v n l) (h : i ≤ 1099511627776) (q r x d : Nat) (hq : (i : Int) / 16 = (q : Int)) (hr : (i : Int) % 16 = (r : Int)) (_hr2 : r < 16)
    (ha : ∀ w, D w v n l → Calls Tryz.prog 93 #[v, .int .i64 q] w fun e w' => e = .returned (.int .u64 d) ∧ w' = w)
    (_hd : d < 65536) (hx : bits .and .u64 ((d : Int) / 2 ^ r) 1 = (x : Int)) :
    Calls Tryz.prog 90 #[v, .int .i64 i] w fun e w' => e = .returned (.int .u64 x) ∧ w' = w := by
  have HA : Hid (∀ w, D w v n l → Calls Tryz.prog 93 #[v, .int .i64 q] w fun e w' => e = .returned (.int .u64 d) ∧ w' = w) := ha
  clear ha
  go_enter Tryz.func90, Tryz.ntmps90
  go_wp2_with (go_at_call 93; refine (HA.out _ hD).mono ?_; rintro e w' ⟨rfl, rfl⟩)
  go_ret
  exact ⟨rfl, rfl⟩

theorem bit_any (v : Value) (n l : Nat) (i : Int) (w : World) (hD : D w v n l) (h0 : 0 ≤ i) (h : i ≤ 1099511627776) :
    Calls Tryz.prog 90 #[v, .int .i64 i] w fun e w' => e = .returned (.int .u64 (n / 2 ^ i.toNat % 2 : Nat)) ∧ w' = w := by
  obtain ⟨k, rfl⟩ := Int.eq_ofNat_of_zero_le h0
  rw [Int.toNat_natCast]
  have hd := dig_lt n (k / 16)
  refine bit_walk v n l k w hD (by omega) (k / 16) (k % 16) _ (dig n (k / 16)) (by omega) (by omega) (by omega) ?_ hd ?_
  · intro w h
    have := at_any v n l ((k / 16 : Nat) : Int) w h (by omega)
    rw [Int.toNat_natCast] at this
    exact this
  · have hle : dig n (k / 16) / 2 ^ (k % 16) ≤ dig n (k / 16) := Nat.div_le_self _ _
    have := and1 (dig n (k / 16) / 2 ^ (k % 16)) (by omega)
    rw [bit_dig n (k / 16) (k % 16) (by omega), Nat.div_add_mod] at this
    rw [← this, Int.natCast_ediv, Int.natCast_pow]
    rfl

theorem blen_lt (n : Nat) : n < 2 ^ blen n := by
  unfold blen; split
  · rename_i h; subst h; simp
  · exact Nat.lt_log2_self
theorem blen_eq {n k : Nat} (h : n < 2 ^ k) (h2 : k = 0 ∨ n / 2 ^ (k - 1) % 2 = 1) : k = blen n := by
  unfold blen
  rcases Nat.eq_zero_or_pos k with k0 | k0
  · subst k0
    have : n = 0 := by simpa using h
    rw [if_pos this]
  · rcases h2 with h2 | h2
    · omega
    · have hge : 2 ^ (k - 1) ≤ n := by
        rcases Nat.lt_or_ge n (2 ^ (k - 1)) with hh | hh
        · rw [Nat.div_eq_of_lt hh] at h2; omega
        · exact hh
      have hn : n ≠ 0 := by have := Nat.two_pow_pos (k - 1); omega
      rw [if_neg hn]
      have := (Nat.log2_eq_iff hn).2 ⟨hge, by rw [show k - 1 + 1 = k by omega]; exact h⟩
      omega
theorem lt_of_bit {n k : Nat} (h : n < 2 ^ (k + 1)) (h2 : n / 2 ^ k % 2 = 0) : n < 2 ^ k := by
  have hq : n / 2 ^ k < 2 := (Nat.div_lt_iff_lt_mul (Nat.two_pow_pos k)).2 (by rw [← Nat.pow_succ']; exact h)
  rcases Nat.lt_or_ge n (2 ^ k) with hh | hh
  · exact hh
  · have := (Nat.le_div_iff_mul_le (Nat.two_pow_pos k)).2 (show 1 * 2 ^ k ≤ n by omega)
    generalize n / 2 ^ k = z at *
    omega

set_option maxHeartbeats 400000 in
theorem len_any (v : Value) (n l : Nat) (w : World) (hD : D w v n l) (hl : l ≤ 1073741824) :
    Calls Tryz.prog 81 #[v] w fun e w' => e = .returned (.int .i64 (blen n : Nat)) ∧ w' = w := by
  have hlt := hD.lt
  rw [pow16] at hlt
  have hD0 := hD
  obtain ⟨g, cap, rfl, -, -, -, -⟩ := hD.shape
  go_enter Tryz.func81, Tryz.ntmps81
  go_wp2
  go_loop [3] (fun t => ∃ k : Nat, k ≤ 16 * l ∧ t = .int .i64 k ∧ n < 2 ^ k) (fun t => (intOf t).toNat)
  case atStart => exact ⟨16 * l, Nat.le_refl _, by simp, hlt⟩
  case round =>
    obtain ⟨k, hk, rfl, hn⟩ := hrel
    cases k with
    | zero =>
      have H : Hid (0 = blen n) := blen_eq hn (Or.inl rfl)
      go_wp2
      go_ret
      exact ⟨by rw [← H.out]; rfl, rfl⟩
    | succ k =>
      have hb := fun w h => bit_any (.slice (some ⟨g, 0, none⟩) l cap) n l k w h (by omega) (by omega)
      rw [Int.toNat_natCast] at hb
      obtain ⟨b, hbb⟩ : ∃ b, b = n / 2 ^ k % 2 := ⟨_, rfl⟩
      rw [← hbb] at hb
      have HB : Hid (∀ w, D w (.slice (some ⟨g, 0, none⟩) l cap) n l → Calls Tryz.prog 90 #[.slice (some ⟨g, 0, none⟩) l cap, .int .i64 k] w fun e w' => e = .returned (.int .u64 b) ∧ w' = w) := hb
      clear hb
      by_cases c : b = 0
      · have H : Hid (n < 2 ^ k) := lt_of_bit hn (by omega)
        clear hbb
        subst c
        go_wp2_with (go_at_call 90; refine (HB.out _ hD0).mono ?_; rintro e w' ⟨rfl, rfl⟩)
        go_round
        case rel => exact ⟨k, by omega, by go_num, H.out⟩
        case measure => simp [intOf]
      · have H : Hid (k + 1 = blen n) := blen_eq hn (Or.inr (by rw [Nat.add_sub_cancel]; omega))
        have cz : ((b : Int) == 0) = false := by rw [beq_eq_false_iff_ne]; omega
        clear hbb
        go_wp2_with (go_at_call 90; refine (HB.out _ hD0).mono ?_; rintro e w' ⟨rfl, rfl⟩)
        go_ret
        exact ⟨by rw [← H.out]; rfl, rfl⟩

theorem join4 (n : Nat) (h : n < 18446744073709551616) : ((dig n 0 ||| dig n 1 * 65536) ||| dig n 2 * 4294967296) ||| dig n 3 * 281474976710656 = n := by
  have d0 := dig_lt n 0
  have d1 := dig_lt n 1
  have d2 := dig_lt n 2
  have d3 := dig_lt n 3
  rw [Nat.or_comm (dig n 0), nat_join 16 (dig n 1 * 65536) (dig n 0) (by omega) (by omega)]
  rw [Nat.or_comm _ (dig n 2 * 4294967296), nat_join 32 (dig n 2 * 4294967296) _ (by omega) (by omega)]
  rw [Nat.or_comm _ (dig n 3 * 281474976710656), nat_join 48 (dig n 3 * 281474976710656) _ (by omega) (by omega)]
  unfold dig
  simp only [Nat.pow_zero, Nat.div_one, Nat.pow_one]
  omega

set_option maxHeartbeats 400000 in
theorem small_walk (v : Value) (n l a b c d r1 r2 r3 : Nat) (w : World) (hD : D w v n l) (_ha : a < 65536) (hb : b < 65536) (hc : c < 65536) (hd : d < 65536)
    (h0 : ∀ (i : Int) (x : Nat) w, (i = 0 ∧ x = a) ∨ (i = 1 ∧ x = b) ∨ (i = 2 ∧ x = c) ∨ (i = 3 ∧ x = d) → D w v n l → Calls Tryz.prog 93 #[v, .int .i64 i] w fun e w' => e = .returned (.int .u64 x) ∧ w' = w)
    (e1 : bits .or .u64 (a : Int) ((b : Int) * 65536) = (r1 : Int)) (e2 : bits .or .u64 (r1 : Int) ((c : Int) * 4294967296) = (r2 : Int)) (e3 : bits .or .u64 (r2 : Int) ((d : Int) * 281474976710656) = (r3 : Int)) :
    Calls Tryz.prog 86 #[v] w fun e w' => e = .returned (.int .u64 r3) ∧ w' = w := by
  have H0 : Hid (∀ (i : Int) (x : Nat) w, (i = 0 ∧ x = a) ∨ (i = 1 ∧ x = b) ∨ (i = 2 ∧ x = c) ∨ (i = 3 ∧ x = d) → D w v n l → Calls Tryz.prog 93 #[v, .int .i64 i] w fun e w' => e = .returned (.int .u64 x) ∧ w' = w) := h0
  clear h0
  go_enter Tryz.func86, Tryz.ntmps86
  go_wp2_with fail
  refine (H0.out 0 a _ (by simp) hD).mono ?_
  rintro e w' ⟨rfl, rfl⟩
  go_wp2_with fail
  refine (H0.out 1 b _ (by simp) hD).mono ?_
  rintro e w' ⟨rfl, rfl⟩
  go_wp2_with fail
  refine (H0.out 2 c _ (by simp) hD).mono ?_
  rintro e w' ⟨rfl, rfl⟩
  go_wp2_with fail
  refine (H0.out 3 d _ (by simp) hD).mono ?_
  rintro e w' ⟨rfl, rfl⟩
  go_wp2_with fail
  go_ret
  exact ⟨rfl, rfl⟩

theorem or_nat (a b : Nat) (ha : a < 18446744073709551616) (hb : b < 18446744073709551616) (B : Int) (e : B = (b : Int)) : bits .or .u64 (a : Int) B = ((a ||| b : Nat) : Int) := by
  subst e
  exact u64_or_nat a b ha hb

theorem small_any (v : Value) (n l : Nat) (w : World) (hD : D w v n l) (h : n < 18446744073709551616) :
    Calls Tryz.prog 86 #[v] w fun e w' => e = .returned (.int .u64 n) ∧ w' = w := by
  have d0 := dig_lt n 0
  have d1 := dig_lt n 1
  have d2 := dig_lt n 2
  have d3 := dig_lt n 3
  have l1 : dig n 0 ||| dig n 1 * 65536 < 18446744073709551616 := Nat.or_lt_two_pow (n := 64) (by omega) (by omega)
  have l2 : dig n 0 ||| dig n 1 * 65536 ||| dig n 2 * 4294967296 < 18446744073709551616 := Nat.or_lt_two_pow (n := 64) l1 (by omega)
  have e := small_walk v n l (dig n 0) (dig n 1) (dig n 2) (dig n 3) _ _ _ w hD d0 d1 d2 d3 ?_ (or_nat _ _ (by omega) (by omega) _ (by omega)) (or_nat _ _ l1 (show dig n 2 * 4294967296 < 18446744073709551616 by omega) _ (by omega)) (or_nat _ _ l2 (show dig n 3 * 281474976710656 < 18446744073709551616 by omega) _ (by omega))
  · rw [join4 n h] at e
    exact e
  · intro i x w hi hd
    have := at_any v n l i w hd (by omega)
    rcases hi with ⟨rfl, rfl⟩ | ⟨rfl, rfl⟩ | ⟨rfl, rfl⟩ | ⟨rfl, rfl⟩ <;> exact this

theorem refSign_any (neg : Bool) (w : World) : Calls Tryz.prog 82 #[.bool neg] w fun e w' => e = .returned (.int .u64 (if neg then 9223372036854775808 else 0)) ∧ w' = w := by
  cases neg
  all_goals
    go_enter Tryz.func82, Tryz.ntmps82
    go_wp2
    go_ret
    exact ⟨rfl, rfl⟩
theorem refInf_any (neg : Bool) (w : World) : Calls Tryz.prog 83 #[.bool neg] w fun e w' => e = .returned (.int .u64 (if neg then 18442240474082181120 else 9218868437227405312)) ∧ w' = w := by
  have e1 : bits .or .u64 9223372036854775808 9218868437227405312 = 18442240474082181120 := by decide +kernel
  have e2 : bits .or .u64 0 9218868437227405312 = 9218868437227405312 := by decide +kernel
  cases neg
  · go_enter Tryz.func83, Tryz.ntmps83
    go_wp2_with (go_at_call 82; refine (refSign_any false _).mono ?_; rintro e w' ⟨rfl, rfl⟩)
    go_ret
    exact ⟨rfl, rfl⟩
  · go_enter Tryz.func83, Tryz.ntmps83
    go_wp2_with (go_at_call 82; refine (refSign_any true _).mono ?_; rintro e w' ⟨rfl, rfl⟩)
    go_ret
    exact ⟨rfl, rfl⟩

end Go.Proofs.YthmocdabakkfhaaGreatDoor

/-
  The walk of the reference's Down.
-/
namespace Go.Proofs.YthmocdabakkfhaaGreatDoor
set_option maxRecDepth 100000
open Go.RowKit Dg

theorem low_step (n j : Nat) : n % 2 ^ (j + 1) = n % 2 ^ j + 2 ^ j * (n / 2 ^ j % 2) := by rw [Nat.pow_succ, Nat.mod_mul]

theorem lost_step {n j : Nat} {lo : Bool} {b : Nat} (hl : lo = decide (n % 2 ^ j ≠ 0)) (hb : b = n / 2 ^ j % 2) : (lo || (b == 1)) = decide (n % 2 ^ (j + 1) ≠ 0) := by
  have hp := Nat.two_pow_pos j
  rw [low_step, ← hb, hl, Bool.eq_iff_iff]
  simp only [ne_eq, Bool.or_eq_true, decide_eq_true_eq, beq_iff_eq]
  have hb2 : b = 0 ∨ b = 1 := by rw [hb]; omega
  rcases hb2 with h | h
  · subst h; simp
  · subst h; simp
theorem lost_end {n l k j : Nat} (hn : n < 2 ^ (16 * l)) (hj : j ≤ k) (h : ¬ (j < k ∧ j < 16 * l)) : decide (n % 2 ^ j ≠ 0) = decide (n % 2 ^ k ≠ 0) := by
  by_cases c : j = k
  · rw [c]
  · have h1 : 2 ^ (16 * l) ≤ 2 ^ j := Nat.pow_le_pow_right (by decide) (by omega)
    have h2 : 2 ^ (16 * l) ≤ 2 ^ k := Nat.pow_le_pow_right (by decide) (by omega)
    rw [Nat.mod_eq_of_lt (by omega), Nat.mod_eq_of_lt (by omega)]

theorem bits_join {n s t x b : Nat} (hx : x = n / 2 ^ s % 2 ^ t) (hb : b = n / 2 ^ (s + t) % 2) (ht : t < 16) :
    bits .or .u64 (x : Int) (IntKind.u64.wrap ((b : Int) * 2 ^ t)) = ((n / 2 ^ s % 2 ^ (t + 1) : Nat) : Int) := by
  have hp : 2 ^ t ≤ 32768 := by
    have := Nat.pow_le_pow_right (n := 2) (by decide) (show t ≤ 15 by omega)
    omega
  have hx2 : x < 2 ^ t := by rw [hx]; exact Nat.mod_lt _ (Nat.two_pow_pos t)
  have hb2 : b ≤ 1 := by rw [hb]; omega
  have hbp : b * 2 ^ t ≤ 32768 := Nat.le_trans (Nat.mul_le_mul_right _ hb2) (by omega)
  have e : IntKind.u64.wrap ((b : Int) * 2 ^ t) = ((b * 2 ^ t : Nat) : Int) := by
    rw [IntKind.wrap_u64, show (b : Int) * 2 ^ t = ((b * 2 ^ t : Nat) : Int) by rw [Int.natCast_mul, Int.natCast_pow]; rfl]
    omega
  rw [e, u64_or_nat x _ (by omega) (by omega), Nat.or_comm, nat_join t _ _ (Nat.mul_mod_left _ _) hx2, low_step, ← hx]
  congr 1
  rw [Nat.add_comm, Nat.mul_comm b, hb, Nat.div_div_eq_div_mul, ← Nat.pow_add]

theorem down_digit {n k j : Nat} : n / 2 ^ (k + 16 * j) % 2 ^ 16 = dig (n / 2 ^ k) j := by
  unfold dig
  rw [pow16, Nat.div_div_eq_div_mul, ← Nat.pow_add]
theorem down_val {m j : Nat} {os : List Nat} (hl : os.length = j) (hv : val os = m % 65536 ^ j) : val (os ++ [dig m j]) = m % 65536 ^ (j + 1) := by
  rw [val_snoc, hl, hv, dig_step]

theorem down_end {w : World} {v : Value} {os : List Nat} {n l k j : Nat} (h : w.ownsRow 0 34 1 v j (cells os)) (hnil : v ≠ .slice none 0 0) (hs : Small16 os) (hv : val os = n / 2 ^ k % 65536 ^ j) (hn : n < 2 ^ (16 * l)) (hj : 16 * l ≤ k + 16 * j) : D w v (n / 2 ^ k) j := by
  have hd := D.of_own h hnil hs
  have : n / 2 ^ k < 65536 ^ j := by
    rw [pow16]
    refine (Nat.div_lt_iff_lt_mul (Nat.two_pow_pos k)).2 ?_
    rw [← Nat.pow_add]
    exact Nat.lt_of_lt_of_le hn (Nat.pow_le_pow_right (by decide) (by omega))
  rw [hv, Nat.mod_eq_of_lt this] at hd
  exact hd

theorem own_pos {w : World} {B e n : Nat} {v : Value} {xs : List Value} (h : w.ownsRow B e 1 v (n + 1) xs) : v ≠ .slice none 0 0 := by
  intro k
  rcases h.2 with ⟨_, k2⟩ | ⟨g, cap, cur, e', _⟩
  · omega
  · rw [k] at e'; cases e'

set_option maxHeartbeats 2000000 in
theorem down_any (v : Value) (n l k : Nat) (w : World) (hD : D w v n l) (hl : l ≤ 268435456) (hk : k ≤ 1073741824) :
    Calls Tryz.prog 84 #[v, .int .i64 k] w fun e w' => ∃ v', e = .returned (.tuple #[v', .bool (decide (n % 2 ^ k ≠ 0))]) ∧ D w' v' (n / 2 ^ k) (dlen (n / 2 ^ k)) ∧ Below w.heap.size w w' := by
  obtain ⟨i0, hi, hz0, hz1, hz2⟩ := info_parts infoU
  have hlt := hD.lt
  rw [pow16] at hlt
  have hD0 := hD
  obtain ⟨g, cap, rfl, -, -, -, -⟩ := hD.shape
  clear hD
  go_enter Tryz.func84, Tryz.ntmps84
  go_wp2
  go_loop [6, 7] (fun lo i => ∃ (j : Nat) (b : Bool), j ≤ k ∧ i = .int .i64 j ∧ lo = .bool b ∧ b = decide (n % 2 ^ j ≠ 0)) (fun _ i => k - (intOf i).toNat)
  case atStart => exact ⟨0, false, Nat.zero_le _, rfl, rfl, by simp [Nat.mod_one]⟩
  case round =>
    obtain ⟨j, lo, hj, rfl, rfl, hlo⟩ := hrel
    have HLO : Hid (lo = decide (n % 2 ^ j ≠ 0)) := hlo
    clear hlo
    by_cases c : j < k ∧ j < 16 * l
    · obtain ⟨c1, c2⟩ := c
      have hb := fun w h => bit_any (.slice (some ⟨g, 0, none⟩) l cap) n l j w h (by omega) (by omega)
      rw [Int.toNat_natCast] at hb
      obtain ⟨b, hbb⟩ : ∃ b, b = n / 2 ^ j % 2 := ⟨_, rfl⟩
      rw [← hbb] at hb
      have HB : Hid (∀ w, D w (.slice (some ⟨g, 0, none⟩) l cap) n l → Calls Tryz.prog 90 #[.slice (some ⟨g, 0, none⟩) l cap, .int .i64 j] w fun e w' => e = .returned (.int .u64 b) ∧ w' = w) := hb
      have HS : Hid ((lo || (b == 1)) = decide (n % 2 ^ (j + 1) ≠ 0)) := lost_step HLO.out hbb
      clear hb
      cases lo
      · by_cases b1 : b = 1
        · subst b1
          clear hbb
          go_wp2_with (go_at_call 90; refine (HB.out _ hD0).mono ?_; rintro e w' ⟨rfl, rfl⟩)
          go_round
          case rel => exact ⟨j + 1, true, by omega, by go_num, rfl, HS.out⟩
          case measure => simp [intOf]; omega
        · have bz : ((b : Int) == 1) = false := by rw [beq_eq_false_iff_ne]; omega
          have HF : Hid (false = decide (n % 2 ^ (j + 1) ≠ 0)) := by
            show false = _
            rw [← HS.out, show (b == 1) = false from by rw [beq_eq_false_iff_ne]; exact b1]; rfl
          clear hbb
          go_wp2_with (go_at_call 90; refine (HB.out _ hD0).mono ?_; rintro e w' ⟨rfl, rfl⟩)
          go_round
          case rel => exact ⟨j + 1, false, by omega, by go_num, rfl, HF.out⟩
          case measure => simp [intOf]; omega
      · clear hbb
        go_wp2_with (go_at_call 90; refine (HB.out _ hD0).mono ?_; rintro e w' ⟨rfl, rfl⟩)
        go_round
        case rel => exact ⟨j + 1, true, by omega, by go_num, rfl, by have := HS.out; simpa using this⟩
        case measure => simp [intOf]; omega
    · have HE : Hid (lo = decide (n % 2 ^ k ≠ 0)) := HLO.out.trans (lost_end hlt hj c)
      rcases (show (j < k ∧ 16 * l ≤ j) ∨ k ≤ j from by omega) with ⟨c1, c2⟩ | c1
      all_goals
        clear c
        have hdj : 16 * l ≤ j → decide ((j : Int) < 16 * (l : Int)) = false := fun h => by simp; omega
        try have hdj2 := hdj c2
        clear hdj
        go_wp2_with fail
        try clear c1
        try clear c2
        clear hj
        go_loopw [8, 9] (fun o i wr => ∃ (t : Nat) (os : List Nat), i = .int .i64 ((k : Int) + 16 * (t : Int)) ∧ k + 16 * t < k + 16 * l + 16 ∧ os.length = t ∧ Small16 os ∧ val os = n / 2 ^ k % 65536 ^ t ∧ o ≠ .slice none 0 0 ∧
          wr.ownsRow w.heap.size 34 1 o t (cells os) ∧ Below w.heap.size w wr ∧ w.heap.size ≤ wr.heap.size ∧ D wr (.slice (some ⟨g, 0, none⟩) l cap) n l) (fun _ i _ => 16 * l - (intOf i).toNat)
        case atStart =>
          exact ⟨0, [], by simp, by omega, rfl, by intro x hx; simp at hx, by simp [val, Nat.mod_one], by simp, World.ownsRow_made w #[] 0 (Nat.le_refl _) (by decide) rfl, (Below.refl _ _).alloc (Nat.le_refl _) _, by simp, hD0.below ((Below.refl _ _).alloc (Nat.le_refl _) _)⟩
        case round =>
          obtain ⟨t, os, rfl, ht, hlen, hsm, hval, hnil, hown, hbel, hsz, hDr⟩ := hrel
          have HV : Hid (val os = n / 2 ^ k % 65536 ^ t) := hval
          clear hval
          by_cases d1 : k + 16 * t < 16 * l
          · have hdt : decide ((k : Int) + 16 * (t : Int) < 16 * (l : Int)) = true := by simp; omega
            go_wp2_with fail
            go_loop [10, 11] (fun x i => ∃ (s y : Nat), s ≤ 16 ∧ i = .int .i64 s ∧ x = .int .u64 y ∧ y = n / 2 ^ (k + 16 * t) % 2 ^ s) (fun _ i => 16 - (intOf i).toNat)
            case atStart => exact ⟨0, 0, by omega, rfl, rfl, by simp [Nat.mod_one]⟩
            case round =>
              obtain ⟨s, y, hs, rfl, rfl, hy⟩ := hrel
              have HY : Hid (y = n / 2 ^ (k + 16 * t) % 2 ^ s) := hy
              clear hy
              by_cases s1 : s < 16
              · have hb := fun w h => bit_any (.slice (some ⟨g, 0, none⟩) l cap) n l (k + 16 * t + s : Nat) w h (by omega) (by omega)
                rw [Int.toNat_natCast] at hb
                obtain ⟨b, hbb⟩ : ∃ b, b = n / 2 ^ (k + 16 * t + s) % 2 := ⟨_, rfl⟩
                rw [← hbb] at hb
                have e1 := bits_join HY.out hbb s1
                obtain ⟨z, hz⟩ : ∃ z, z = n / 2 ^ (k + 16 * t) % 2 ^ (s + 1) := ⟨_, rfl⟩
                rw [← hz] at e1
                have HB : Hid (∀ w, D w (.slice (some ⟨g, 0, none⟩) l cap) n l → Calls Tryz.prog 90 #[.slice (some ⟨g, 0, none⟩) l cap, .int .i64 ((k : Int) + 16 * (t : Int) + (s : Int))] w fun e w' => e = .returned (.int .u64 b) ∧ w' = w) := by
                  show ∀ w, _
                  simpa using hb
                have HZ : Hid (z = n / 2 ^ (k + 16 * t) % 2 ^ (s + 1)) := hz
                clear hb hbb hz
                go_wp2_with (go_at_call 90; refine (HB.out _ hDr).mono ?_; rintro e w' ⟨rfl, rfl⟩)
                go_round
                case rel => exact ⟨s + 1, z, by omega, by go_num, rfl, HZ.out⟩
                case measure => simp [intOf]; omega
              · have HS : Hid (y = dig (n / 2 ^ k) t) := by
                  show y = _
                  have : s = 16 := by omega
                  rw [HY.out, this, down_digit]
                have hy2 : y < 65536 := by rw [HS.out]; exact dig_lt _ _
                have hs2 := small_snoc hsm hy2
                have HV2 : Hid (val (os ++ [y]) = n / 2 ^ k % 65536 ^ (t + 1)) := by
                  show val _ = _
                  rw [HS.out]; exact down_val hlen HV.out
                clear HY
                go_wp2_with (at_builtin; refine wpList_append_own _ rfl _ _ 63 rfl w.heap.size 34 i0 (.int .u64 0) 1 8 Tryz.underlying63 hi hz0 hz1 hz2 rfl (by decide) _ t (cells os) rfl (hown.alloc _) ⟨wr.heap.size, 0, none⟩ 1 1 [.int .u64 (y : Int)] rfl rfl (one_new _ _ _) (by intro x hx; simp at hx; subst hx; rfl) (by unfold maxLen; omega) (by omega) (by simp; omega) ?_)
                intro v' w1 hown' hgrow hn'
                have R := sum_step hown hbel hsz hown' hgrow
                have hD1 := hD0.below R.2.1
                have hnil' : v' ≠ .slice none 0 0 := own_pos R.1
                clear hown' hgrow hown hbel hsz hn'
                go_wp2
                go_roundw
                case rel => exact ⟨t + 1, os ++ [y], by go_num, by omega, by simp [hlen], hs2, HV2.out, hnil', R.1, R.2.1, R.2.2, hD1⟩
                case measure => simp [intOf]; omega
          · have hd := down_end (ownsRow_base hown) hnil hsm HV.out hlt (by omega)
            go_wp2_with (go_at_call 91; refine (trim_any _ (n / 2 ^ k) t _ hd (by omega)).mono ?_; rintro e w2 ⟨v2, rfl, hd2, hb2⟩)
            go_ret2
            exact ⟨_, by rw [← HE.out]; rfl, hd2, hbel.trans (hb2.mono hbel.size)⟩

end Go.Proofs.YthmocdabakkfhaaGreatDoor

/-
  The walk of the reference's Product.
-/
namespace Go.Proofs.YthmocdabakkfhaaGreatDoor
set_option maxRecDepth 100000
open Go.RowKit Dg

theorem val_set : ∀ (os : List Nat) (j d : Nat), j < os.length → val (os.set j d) + os.getD j 0 * 65536 ^ j = val os + d * 65536 ^ j := by
  intro os
  induction os with
  | nil => intro j d h; simp at h
  | cons a r ih =>
    intro j d h
    cases j with
    | zero => simp only [List.set_cons_zero, val, List.getD_cons_zero, Nat.pow_zero]; omega
    | succ j =>
      have := ih j d (by simpa using h)
      simp only [List.set_cons_succ, val, List.getD_cons_succ, Nat.pow_succ']
      grind
theorem small_set {os : List Nat} {j d : Nat} (hs : Small16 os) (hd : d < 65536) : Small16 (os.set j d) := by
  intro x hx
  rcases List.mem_or_eq_of_mem_set hx with h | h
  · exact hs x h
  · omega
theorem cells_set (os : List Nat) (j d : Nat) : (cells os).set j (.int .u64 (d : Int)) = cells (os.set j d) := by unfold cells; rw [List.map_set]

theorem prod_step {n m i k c p q o d f : Nat} {os : List Nat} (_hp : p = dig n i) (hq : q = dig m k) (hj : i + k < os.length) (ho : o = os.getD (i + k) 0) (hd : d = (o + p * q + c) % 65536) (hf : f = (o + p * q + c) / 65536)
    (h : val os + c * 65536 ^ (i + k) = (n % 65536 ^ i) * m + p * (m % 65536 ^ k) * 65536 ^ i) :
    val (os.set (i + k) d) + f * 65536 ^ (i + (k + 1)) = (n % 65536 ^ i) * m + p * (m % 65536 ^ (k + 1)) * 65536 ^ i := by
  have hs := val_set os (i + k) d hj
  rw [← ho] at hs
  have hx : d + f * 65536 = o + p * q + c := by omega
  rw [dig_step m k, ← hq]
  rw [show i + (k + 1) = i + k + 1 by omega, Nat.pow_succ]
  have e1 : p * (m % 65536 ^ k + 65536 ^ k * q) * 65536 ^ i = p * (m % 65536 ^ k) * 65536 ^ i + p * q * 65536 ^ (i + k) := by
    rw [Nat.pow_add]; grind
  have e2 : d * 65536 ^ (i + k) + f * (65536 ^ (i + k) * 65536) = o * 65536 ^ (i + k) + p * q * 65536 ^ (i + k) + c * 65536 ^ (i + k) := by
    have := congrArg (· * 65536 ^ (i + k)) hx
    grind
  omega
theorem prod_carry {n m i c p lb : Nat} {os : List Nat} (hp : p = dig n i) (hm : m < 65536 ^ lb) (hj : i + lb < os.length) (ho : os.getD (i + lb) 0 = 0)
    (h : val os + c * 65536 ^ (i + lb) = (n % 65536 ^ i) * m + p * (m % 65536 ^ lb) * 65536 ^ i) : val (os.set (i + lb) c) = (n % 65536 ^ (i + 1)) * m := by
  have hs := val_set os (i + lb) c hj
  rw [ho, Nat.zero_mul, Nat.add_zero] at hs
  rw [hs, h, Nat.mod_eq_of_lt hm, dig_step, ← hp]
  grind
theorem prod_zero {n m i lb : Nat} {os : List Nat} (hs : Small16 os) (hm : m < 65536 ^ lb) (hv : val os = (n % 65536 ^ i) * m) : ∀ t, i + lb ≤ t → os.getD t 0 = 0 := by
  intro t ht
  rw [val_dig os t hs]
  refine dig_ge (Nat.lt_of_lt_of_le ?_ (Nat.pow_le_pow_right (by decide) ht))
  rw [hv, Nat.pow_add]
  have h1 : n % 65536 ^ i < 65536 ^ i := Nat.mod_lt _ (Nat.pow_pos (by decide))
  have h2 : 0 < 65536 ^ i := Nat.pow_pos (by decide)
  exact Nat.lt_of_le_of_lt (Nat.mul_le_mul_right _ (Nat.le_of_lt h1)) (Nat.mul_lt_mul_of_pos_left hm h2)
theorem mul_bound {p q : Nat} (hp : p < 65536) (hq : q < 65536) : p * q ≤ 4294836225 :=
  Nat.mul_le_mul (show p ≤ 65535 by omega) (show q ≤ 65535 by omega)

theorem D.shape_cell {w : World} {v : Value} {n l g cap i : Nat} (h : D w v n l) (hv : v = .slice (some ⟨g, 0, none⟩) l cap) (hi : i < l) : w.cell? ⟨g, i, none⟩ = some (.int .u64 (dig n i : Nat)) := by
  obtain ⟨g', cap', e, _, _, _, hc⟩ := h.shape
  rw [hv] at e
  simp at e
  rw [e.1]
  exact hc i hi

theorem set_zero {rs : List Nat} {j d b : Nat} (hj : j < b) (h : ∀ t, b ≤ t → rs.getD t 0 = 0) : ∀ t, b ≤ t → (rs.set j d).getD t 0 = 0 := by
  intro t ht
  have := h t ht
  rw [List.getD_eq_getElem?_getD] at this ⊢
  rw [List.getElem?_set_ne (by omega)]
  exact this

/-- The row that Product makes. -/
def Row (w : World) (B N : Nat) (os : List Nat) : Prop := os.length = N ∧ Small16 os ∧ w.ownsRow B 34 1 (.slice (some ⟨B, 0, none⟩) N N) N (cells os)
theorem Row.cell {w : World} {B N : Nat} {os : List Nat} (h : Row w B N os) {j : Nat} (hj : j < N) : w.cell? ⟨B, j, none⟩ = some (.int .u64 (os.getD j 0 : Nat)) := by
  obtain ⟨h1, h2, h3⟩ := h
  have hj2 : j < os.length := by omega
  rw [h3.cellAt j (by omega), cells, List.getElem?_map, List.getElem?_eq_getElem hj2, List.getD_eq_getElem?_getD, List.getElem?_eq_getElem hj2]
  rfl

theorem Row.made {w w1 : World} {N : Nat} (h : w1.ownsRow w.heap.size 34 1 (.slice (some ⟨w.heap.size, 0, none⟩) N N) N (madeCells #[.int .u64 0] N).toList) : Row w1 w.heap.size N (List.replicate N 0) := by
  refine ⟨List.length_replicate, small_replicate N, ?_⟩
  rw [toList_madeCells_one] at h
  have e : cells (List.replicate N 0) = List.replicate N (.int .u64 0) := by unfold cells; rw [List.map_replicate]; rfl
  rw [e]
  exact h
theorem Row.stored {w : World} {B N : Nat} {os : List Nat} (h : Row w B N os) {j d : Nat} (hd : d < 65536) : Row (w.setCell ⟨B, j, none⟩ (.int .u64 (d : Int))) B N (os.set j d) := by
  obtain ⟨h1, h2, h3⟩ := h
  refine ⟨by rw [List.length_set]; exact h1, small_set h2 hd, ?_⟩
  have := (h3.stored j (.int .u64 (d : Int))).1
  rw [cells_set] at this
  exact this
theorem Row.drewN {w : World} {B N : Nat} {os : List Nat} (h : Row w B N os) (q : Nat) : Row (w.drewN q) B N os := h
theorem Row.frozen {w : World} {B N : Nat} {os : List Nat} (h : Row w B N os) (j : Nat) : w.frozen? ⟨B, j, none⟩ = false := h.2.2.frozenAt j

set_option maxHeartbeats 2000000 in
theorem prod_any (v u : Value) (n la m lb : Nat) (w : World) (hD : D w v n la) (hE : D w u m lb) (hl : la ≤ 268435456) (hk : lb ≤ 268435456) :
    Calls Tryz.prog 92 #[v, u] w fun e w' => ∃ v', e = .returned v' ∧ D w' v' (n * m) (dlen (n * m)) ∧ Below w.heap.size w w' := by
  obtain ⟨i0, hi, hz0, hz1, hz2⟩ := info_parts infoU
  have hn := hD.lt
  have hm := hE.lt
  obtain ⟨g, cap, rfl, hg, hlc, hcm, -⟩ := hD.shape
  obtain ⟨g', cap', rfl, hg', hlc', hcm', -⟩ := hE.shape
  unfold maxLen at hcm hcm'
  go_enter Tryz.func92, Tryz.ntmps92
  go_wp2_with (at_make; refine wpList_make_full _ rfl _ _ 63 rfl w.heap.size 34 i0 (.int .u64 0) 1 Tryz.underlying63 hi hz0 hz1 _ _ _ _ (la + lb) rfl rfl (by omega) (by omega) (by rw [hz2]; omega) (by unfold maxLen; omega) (Nat.le_refl _) ?_)
  intro w1 hown1 hgrow1
  have hR := Row.made hown1
  have hb1 : Below w.heap.size w w1 := (Below.refl _ _).grown hgrow1 (Nat.le_refl _) (by simp)
  clear hown1 hgrow1
  go_wp2_with fail
  go_loopw [6] (fun t wr => ∃ (i : Nat) (os : List Nat), i ≤ la ∧ t = .int .i64 i ∧ Row wr w.heap.size (la + lb) os ∧ val os = (n % 65536 ^ i) * m ∧ Below w.heap.size w wr) (fun t _ => la - (intOf t).toNat)
  case atStart => exact ⟨0, _, Nat.zero_le _, rfl, hR, by rw [val_replicate]; simp [Nat.mod_one], hb1⟩
  case round =>
    obtain ⟨i, os, hi', rfl, hRr, hv, hbel⟩ := hrel
    by_cases c : i < la
    · have HZ : Hid (∀ t, i + lb ≤ t → os.getD t 0 = 0) := prod_zero hRr.2.1 hm hv
      have HV : Hid (val os + 0 * 65536 ^ (i + 0) = (n % 65536 ^ i) * m + dig n i * (m % 65536 ^ 0) * 65536 ^ i) := by
        show val os + _ = _
        rw [hv]; simp [Nat.mod_one]
      clear hv
      have hct : decide ((i : Int) < (la : Int)) = true := by simp; omega
      go_wp2_with fail
      go_loopw [7, 8] (fun cr t wq => ∃ (k cc : Nat) (rs : List Nat), k ≤ lb ∧ t = .int .i64 k ∧ cr = .int .u64 cc ∧ cc < 65536 ∧ Row wq w.heap.size (la + lb) rs ∧ (∀ t, i + lb ≤ t → rs.getD t 0 = 0) ∧
        val rs + cc * 65536 ^ (i + k) = (n % 65536 ^ i) * m + dig n i * (m % 65536 ^ k) * 65536 ^ i ∧ Below w.heap.size w wq) (fun _ t _ => lb - (intOf t).toNat)
      case atStart => exact ⟨0, 0, os, Nat.zero_le _, rfl, rfl, by omega, hRr, HZ.out, HV.out, hbel⟩
      case round =>
        obtain ⟨k, cc, rs, hk', rfl, rfl, hcc, hRq, hz, hv, hbq⟩ := hrel
        have HZ2 : Hid (∀ t, i + lb ≤ t → rs.getD t 0 = 0) := hz
        have HV2 : Hid (val rs + cc * 65536 ^ (i + k) = (n % 65536 ^ i) * m + dig n i * (m % 65536 ^ k) * 65536 ^ i) := hv
        clear hz hv
        by_cases d : k < lb
        · obtain ⟨p, hp⟩ : ∃ p, p = dig n i := ⟨_, rfl⟩
          obtain ⟨q, hq⟩ : ∃ q, q = dig m k := ⟨_, rfl⟩
          obtain ⟨o, ho⟩ : ∃ o, o = rs.getD (i + k) 0 := ⟨_, rfl⟩
          have c1 := hRq.cell (show i + k < la + lb by omega)
          have c2 : wr.cell? ⟨g, i, none⟩ = some (.int .u64 (p : Int)) := by rw [hp]; exact (hD.below hbq).shape_cell rfl c
          have c3 : wr.cell? ⟨g', k, none⟩ = some (.int .u64 (q : Int)) := by rw [hq]; exact (hE.below hbq).shape_cell rfl d
          rw [← ho] at c1
          have p1 : p < 65536 := by rw [hp]; exact dig_lt _ _
          have q1 : q < 65536 := by rw [hq]; exact dig_lt _ _
          have o1 : o < 65536 := by rw [ho, val_dig rs _ hRq.2.1]; exact dig_lt _ _
          have pq := mul_bound p1 q1
          have pq2 : (p : Int) * (q : Int) ≤ 4294836225 := by rw [← Int.natCast_mul]; omega
          have pq3 : 0 ≤ (p : Int) * (q : Int) := by rw [← Int.natCast_mul]; omega
          obtain ⟨dd, hdd⟩ : ∃ d, d = (o + p * q + cc) % 65536 := ⟨_, rfl⟩
          obtain ⟨f, hf⟩ : ∃ f, f = (o + p * q + cc) / 65536 := ⟨_, rfl⟩
          have t1 : bits .and .u64 ((o : Int) + (p : Int) * (q : Int) + (cc : Int)) 65535 = (dd : Int) := by
            have := and16 (o + p * q + cc) (by omega)
            rw [hdd, ← this]; simp
          have t2 : ((o : Int) + (p : Int) * (q : Int) + (cc : Int)) / 65536 = (f : Int) := by rw [hf]; simp
          have HM : Hid (val (rs.set (i + k) dd) + f * 65536 ^ (i + (k + 1)) = (n % 65536 ^ i) * m + dig n i * (m % 65536 ^ (k + 1)) * 65536 ^ i) := by
            show val _ + _ = _
            rw [← hp]
            exact prod_step hp hq (by rw [hRq.1]; omega) ho hdd hf (by rw [hp]; exact HV2.out)
          have d1 : dd < 65536 := by omega
          have f1 : f < 65536 := by omega
          have hz3 := hRq.frozen (i + k)
          clear hp hq ho hdd hf
          go_wp2_with fail
          go_quiet (fail)
          go_wp2
          go_roundw
          case rel => exact ⟨k + 1, f, rs.set (i + k) dd, by omega, by go_num, rfl, f1, hRq.stored d1, set_zero (by omega) HZ2.out, HM.out, (below_drewN hbq nq).setCell (p := ⟨w.heap.size, i + k, none⟩) (Nat.le_refl _) _⟩
          case measure => simp [intOf]; omega
        · have HK : Hid (k = lb) := by show k = lb; omega
          have hz3 := hRq.frozen (i + lb)
          have c1 := hRq.cell (show i + lb < la + lb by omega)
          have hd2 : decide ((k : Int) < (lb : Int)) = false := by simp; omega
          have HC : Hid (val (rs.set (i + lb) cc) = (n % 65536 ^ (i + 1)) * m) := by
            have hv2 := HV2.out
            rw [HK.out] at hv2
            exact prod_carry rfl hm (by rw [hRq.1]; omega) (HZ2.out _ (Nat.le_refl _)) hv2
          go_wp2
          go_roundw
          case rel => exact ⟨i + 1, rs.set (i + lb) cc, by omega, by go_num, hRq.stored hcc, HC.out, hbq.setCell (p := ⟨w.heap.size, i + lb, none⟩) (Nat.le_refl _) _⟩
          case measure => simp [intOf]; omega
    · have HI : Hid (i = la) := by show i = la; omega
      have hd : D wr (.slice (some ⟨w.heap.size, 0, none⟩) (la + lb) (la + lb)) (n * m) (la + lb) := by
        refine ⟨os, w.heap.size, la + lb, rfl, hRr.1, hRr.2.1, ?_, ownsRow_base hRr.2.2⟩
        rw [hv, HI.out, Nat.mod_eq_of_lt hn]
      clear hv
      go_wp2_with (go_at_call 91; refine (trim_any _ (n * m) (la + lb) _ hd (by omega)).mono ?_; rintro e w2 ⟨v2, rfl, hd2, hb2⟩)
      go_ret
      exact ⟨_, rfl, hd2, hbel.trans (hb2.mono hbel.size)⟩

end Go.Proofs.YthmocdabakkfhaaGreatDoor

/-
  The walk of the reference's Up.
-/
namespace Go.Proofs.YthmocdabakkfhaaGreatDoor
set_option maxRecDepth 100000
open Go.RowKit Dg

theorem D.news {w : World} {n l g cap : Nat} (h : D w (.slice (some ⟨g, 0, none⟩) l cap) n l) :
    ∃ ds : List Nat, ds.length = l ∧ Small16 ds ∧ val ds = n ∧ (cells ds).length = l * 1 ∧ (∀ w', Below w.heap.size w w' → ∀ j u, (cells ds)[j]? = some u → w'.cell? ((⟨g, 0, none⟩ : Addr).add j) = some u) := by
  obtain ⟨ds, g', cap', e, h2, h3, h4, h5⟩ := h
  refine ⟨ds, h2, h3, h4, by rw [cells_length]; omega, ?_⟩
  intro w' hb
  exact (ownsRow_below h5 hb (Nat.le_refl _)).cells (g := g) rfl

theorem up_val (q : Nat) (ds : List Nat) : val (List.replicate q 0 ++ ds) = 65536 ^ q * val ds := by
  rw [val_append, val_replicate, List.length_replicate]; omega
theorem up_small {q : Nat} {ds : List Nat} (h : Small16 ds) : Small16 (List.replicate q 0 ++ ds) := by
  intro x hx
  rcases List.mem_append.1 hx with k | k
  · exact small_replicate q x k
  · exact h x k
theorem up_eq (n q r : Nat) : 65536 ^ q * n * 2 ^ r = n * 2 ^ (16 * q + r) := by
  rw [pow16, Nat.pow_add]; grind
theorem cells_app (xs ys : List Nat) : cells xs ++ cells ys = cells (xs ++ ys) := by unfold cells; rw [List.map_append]

theorem D_one (w : World) (x : Nat) (hx : x < 65536) : D (w.alloc (.cells #[.int .u64 (x : Int)] 34)) (.slice (some ⟨w.heap.size, 0, none⟩) 1 1) x 1 :=
  ⟨[x], w.heap.size, 1, rfl, rfl, by intro y hy; simp at hy; omega, by simp [val], World.ownsRow_lit w #[.int .u64 (x : Int)] 1 (Nat.zero_le _) (by decide) rfl⟩

set_option maxHeartbeats 1000000 in
theorem up_walk (v : Value) (n l k q r x : Nat) (w : World) (hD : D w v n l) (hl : l ≤ 134217728) (hk : k ≤ 1073741824) (hq : (k : Int) / 16 = (q : Int)) (hr : (k : Int) % 16 = (r : Int)) (hqr : k = 16 * q + r)
    (_hr2 : r < 16) (hx : IntKind.u64.wrap (2 ^ r) = (x : Int)) (hx2 : x = 2 ^ r) (hx3 : x < 65536) :
    Calls Tryz.prog 85 #[v, .int .i64 k] w fun e w' => ∃ v', e = .returned v' ∧ D w' v' (n * 2 ^ k) (dlen (n * 2 ^ k)) ∧ Below w.heap.size w w' := by
  obtain ⟨i0, hi, hz0, hz1, hz2⟩ := info_parts infoU
  obtain ⟨g, cap, rfl, hg, hlc, hcm, -⟩ := hD.shape
  unfold maxLen at hcm
  obtain ⟨ds, hlen, hsm, hval, hcl, hnews⟩ := hD.news
  have HE : Hid (65536 ^ q * n * x = n * 2 ^ k) := by
    show _ = n * 2 ^ k
    rw [hx2, hqr, up_eq]
  have HQ : Hid (k = 16 * q + r) := hqr
  have hq2 : q ≤ 67108864 := by omega
  clear hqr hx2
  have HN : Hid (∀ w', Below w.heap.size w w' → ∀ j u, (cells ds)[j]? = some u → w'.cell? ((⟨g, 0, none⟩ : Addr).add j) = some u) := hnews
  clear hnews
  go_enter Tryz.func85, Tryz.ntmps85
  go_wp2_with (at_make; refine wpList_make_full _ rfl _ _ 63 rfl w.heap.size 34 i0 (.int .u64 0) 1 Tryz.underlying63 hi hz0 hz1 _ _ _ _ q rfl rfl (by omega) (by omega) (by rw [hz2]; omega) (by unfold maxLen; omega) (Nat.le_refl _) ?_)
  intro w1 hown1 hgrow1
  have hR := Row.made hown1
  have hb1 : Below w.heap.size w w1 := (Below.refl _ _).grown hgrow1 (Nat.le_refl _) (by simp)
  clear hown1 hgrow1
  go_wp2_with (at_builtin; refine wpList_append_own _ rfl _ _ 63 rfl w.heap.size 34 i0 (.int .u64 0) 1 8 Tryz.underlying63 hi hz0 hz1 hz2 rfl (by decide) _ q (cells (List.replicate q 0)) rfl hR.2.2 ⟨g, 0, none⟩ l cap (cells ds) rfl hcl (HN.out _ hb1) (cells_one _) (by unfold maxLen; omega) (by omega) hb1.size ?_)
  intro v2 w2 hown2 hgrow2 hnil2
  have hb2 : Below w.heap.size w w2 := hb1.grown hgrow2 hb1.size (by intro k hk; simp [Value.ownBlock] at hk; omega)
  have hd2 : D w2 v2 (65536 ^ q * n) (q + l) := by
    rw [cells_app] at hown2
    have := D.of_own (ownsRow_base hown2) hnil2 (up_small hsm)
    rw [up_val, hval] at this
    exact this
  clear hown2 hgrow2 hnil2
  have hd3 := hd2.below ((Below.refl w2.heap.size w2).alloc (Nat.le_refl _) (.cells #[.int .u64 (x : Int)] 34))
  have hd4 := D_one w2 x hx3
  have hb4 : Below w.heap.size w (w2.alloc (.cells #[.int .u64 (x : Int)] 34)) := hb2.alloc hb2.size _
  go_wp2_with fail
  refine (prod_any _ _ (65536 ^ q * n) (q + l) x 1 _ hd3 hd4 (by omega) (by omega)).mono ?_
  rintro e w5 ⟨v5, rfl, hd5, hb5⟩
  have hb6 : Below w.heap.size w w5 := hb4.trans (hb5.mono hb4.size)
  rw [HE.out] at hd5
  have hlen5 : dlen (n * 2 ^ k) ≤ 1073741824 := by
    have h1 := hD.lt
    have : n * 2 ^ k < 65536 ^ (l + q + 1) := by
      rw [pow16] at h1 ⊢
      have hp : 0 < 2 ^ k := Nat.two_pow_pos k
      have h2 : n * 2 ^ k < 2 ^ (16 * l) * 2 ^ k := Nat.mul_lt_mul_of_pos_right h1 hp
      rw [← Nat.pow_add] at h2
      refine Nat.lt_of_lt_of_le h2 (Nat.pow_le_pow_right (by decide) ?_)
      have := HQ.out
      omega
    have := dlen_le this
    omega
  clear hd2 hd3 hd4 hb2 hb4 hb5 hb1
  go_wp2_with fail
  refine (trim_any _ (n * 2 ^ k) _ _ hd5 hlen5).mono ?_
  rintro e w7 ⟨v7, rfl, hd7, hb7⟩
  go_wp2
  go_ret
  exact ⟨_, rfl, hd7, hb6.trans (hb7.mono hb6.size)⟩

theorem up_any (v : Value) (n l k : Nat) (w : World) (hD : D w v n l) (hl : l ≤ 134217728) (hk : k ≤ 1073741824) :
    Calls Tryz.prog 85 #[v, .int .i64 k] w fun e w' => ∃ v', e = .returned v' ∧ D w' v' (n * 2 ^ k) (dlen (n * 2 ^ k)) ∧ Below w.heap.size w w' := by
  have hp : 2 ^ (k % 16) ≤ 32768 := Nat.pow_le_pow_right (n := 2) (by decide) (show k % 16 ≤ 15 by omega)
  refine up_walk v n l k (k / 16) (k % 16) (2 ^ (k % 16)) w hD hl hk (by omega) (by omega) (by omega) (by omega) ?_ rfl (by omega)
  rw [IntKind.wrap_u64, show (2 : Int) ^ (k % 16) = ((2 ^ (k % 16) : Nat) : Int) by rw [Int.natCast_pow]; rfl]
  generalize 2 ^ (k % 16) = z at *
  omega

end Go.Proofs.YthmocdabakkfhaaGreatDoor

/-
  Plain mathematics: what the reference's Round reckons is the nearest rung.
-/
namespace Go.Proofs.YthmocdabakkfhaaGreatDoor
set_option maxRecDepth 100000
open Go.RowKit Dg Flo

/-- Two bits below the last one that counts, and whether anything is below these. -/
def rX (N : Nat) (drop : Int) : Nat := if 2 ≤ drop then N / 2 ^ (drop - 2).toNat else N * 2 ^ (2 - drop).toNat
def rLost (N : Nat) (drop : Int) (more : Bool) : Bool := if 2 ≤ drop then more || decide (N % 2 ^ (drop - 2).toNat ≠ 0) else more
def rUp (X : Nat) (lost : Bool) : Bool := decide (2 < X % 4 ∨ (X % 4 = 2 ∧ (lost = true ∨ X / 4 % 2 = 1)))
def rQ (X : Nat) (lost : Bool) : Nat := X / 4 + (rUp X lost).toNat

theorem ite_iff {A B : Prop} [Decidable A] [Decidable B] (h : A ↔ B) : (decide A).toNat = if B then 1 else 0 := by
  by_cases c : A
  · rw [decide_eq_true c, if_pos (h.1 c)]; rfl
  · rw [decide_eq_false c, if_neg (fun k => c (h.2 k))]; rfl

theorem rQ_down {N k : Nat} {more : Bool} : rQ (N / 2 ^ k) (more || decide (N % 2 ^ k ≠ 0)) = rne (2 * N + more.toNat) (k + 3) := by
  have hp : 0 < 2 ^ k := Nat.two_pow_pos k
  have hdm := Nat.div_add_mod N (2 ^ k)
  have hlt : N % 2 ^ k < 2 ^ k := Nat.mod_lt _ hp
  have e8 : 2 ^ (k + 3) = 8 * 2 ^ k := by rw [Nat.pow_add]; omega
  have hm : more.toNat ≤ 1 := by cases more <;> simp
  have hm1 : more.toNat = 0 ↔ more = false := by cases more <;> simp
  unfold rQ rUp rne
  rw [e8]
  generalize N / 2 ^ k = X at *
  generalize N % 2 ^ k = R at *
  generalize 2 ^ k = P at *
  have hM : 2 * N + more.toNat = 8 * P * (X / 4) + (2 * P * (X % 4) + (2 * R + more.toNat)) := by
    have hx := Nat.div_add_mod X 4
    have : P * X = 4 * P * (X / 4) + P * (X % 4) := by
      calc P * X = P * (4 * (X / 4) + X % 4) := by rw [hx]
        _ = _ := by rw [Nat.mul_add]; grind
    grind
  have hs : 2 * P * (X % 4) + (2 * R + more.toNat) < 8 * P := by
    have h3 : X % 4 ≤ 3 := by omega
    have : 2 * P * (X % 4) ≤ 2 * P * 3 := Nat.mul_le_mul_left _ h3
    omega
  have q1 : (2 * N + more.toNat) / (8 * P) = X / 4 := by
    rw [hM, Nat.mul_add_div (by omega), Nat.div_eq_of_lt hs, Nat.add_zero]
  have q2 : (2 * N + more.toNat) % (8 * P) = 2 * P * (X % 4) + (2 * R + more.toNat) := by
    rw [hM, Nat.mul_add_mod, Nat.mod_eq_of_lt hs]
  rw [q1, q2]
  congr 1
  have hlost : (more || decide (R ≠ 0)) = true ↔ 0 < 2 * R + more.toNat := by
    cases more <;> simp <;> omega
  refine ite_iff ?_
  rw [hlost]
  have h4 : X % 4 = 0 ∨ X % 4 = 1 ∨ X % 4 = 2 ∨ X % 4 = 3 := by omega
  have hs2 : 2 * R + more.toNat < 2 * P := by omega
  generalize X / 4 % 2 = odd
  generalize 2 * R + more.toNat = s at *
  clear hM q1 q2 hdm e8
  rcases h4 with h | h | h | h <;> rw [h] <;> omega

theorem rQ_one {N : Nat} {more : Bool} : rQ (N * 2) more = rne (2 * N + more.toNat) 2 := by
  unfold rQ rUp rne
  have hm : more.toNat ≤ 1 := by cases more <;> simp
  have hm1 : more = true ↔ more.toNat = 1 := by cases more <;> simp
  have q1 : (2 * N + more.toNat) / 2 ^ 2 = N * 2 / 4 := by omega
  have q2 : (2 * N + more.toNat) % 2 ^ 2 = N * 2 % 4 + more.toNat := by omega
  rw [q1, q2]
  congr 1
  refine ite_iff ?_
  rw [hm1]
  have : N * 2 % 4 = 0 ∨ N * 2 % 4 = 2 := by omega
  rcases this with h | h <;> rw [h] <;> omega
theorem rQ_up {N k : Nat} : rQ (N * 2 ^ (k + 2)) false = N * 2 ^ k := by
  have e : N * 2 ^ (k + 2) = 4 * (N * 2 ^ k) := by rw [Nat.pow_add]; grind
  unfold rQ rUp
  rw [e]
  have h1 : 4 * (N * 2 ^ k) % 4 = 0 := by omega
  have h2 : 4 * (N * 2 ^ k) / 4 = N * 2 ^ k := by omega
  rw [h1, h2]
  simp

/-- What the reference's Round comes to: the rung of the number, or a little more. -/
theorem round_rung (N n g : Nat) (exp drop : Int) (more : Bool) (h1 : 2 ^ n ≤ 2 * N) (h2 : 2 * N < 2 ^ (n + 1)) (hd : drop = max ((n : Int) - 53) (-1074 - exp)) (hg : 0 ≤ exp + 1073 + g) (hmore : more = true → 54 ≤ n) :
    rung g ((2 * N + more.toNat) * 2 ^ (exp + 1073 + g).toNat) = min ((exp + drop + 1074).toNat * 4503599627370496 + rQ (rX N drop) (rLost N drop more)) 9218868437227405312 ∧
      rQ (rX N drop) (rLost N drop more) ≤ 9007199254740992 ∧ (-1074 < exp + drop → 4503599627370496 ≤ rQ (rX N drop) (rLost N drop more)) ∧ rX N drop < 36028797018963968 := by
  have hm : more.toNat ≤ 1 := by cases more <;> simp
  have b1 : 2 ^ n ≤ 2 * N + more.toNat := by omega
  have b2 : 2 * N + more.toNat < 2 ^ (n + 1) := by
    have : 2 ^ (n + 1) = 2 * 2 ^ n := Nat.pow_succ'
    omega
  obtain ⟨E, hE⟩ := Int.eq_ofNat_of_zero_le hg
  rw [hE, Int.toNat_natCast]
  have hlow : lowest g ((2 * N + more.toNat) * 2 ^ E) = (exp + drop + 1074 + g).toNat := by
    by_cases c : -1074 - exp ≤ (n : Int) - 53
    · rw [low_b b1 b2 (by omega)]; omega
    · rw [low_a b2 (by omega)]; omega
  have hq : rQ (rX N drop) (rLost N drop more) = rne ((2 * N + more.toNat) * 2 ^ E) (exp + drop + 1074 + g).toNat := by
    unfold rX rLost
    by_cases c : 2 ≤ drop
    · rw [if_pos c, if_pos c, rne_down (by omega), show (exp + drop + 1074 + (g : Int)).toNat - E = (drop - 2).toNat + 3 by omega, rQ_down]
    · rw [if_neg c, if_neg c]
      by_cases c1 : drop = 1
      · rw [show (2 - drop).toNat = 1 by omega, Nat.pow_one, rQ_one, rne_down (by omega), show (exp + drop + 1074 + (g : Int)).toNat - E = 2 by omega]
      · have hf : more = false := by
          cases more
          · rfl
          · have := hmore rfl; omega
        rw [hf]
        rw [show (2 - drop).toNat = (-drop).toNat + 2 by omega, rQ_up, Bool.toNat_false, Nat.add_zero]
        by_cases c2 : drop = 0
        · rw [rne_down (by omega), show (exp + drop + 1074 + (g : Int)).toNat - E = 1 by omega, c2]
          have := rne_exact N 1
          rw [Nat.mul_comm] at this
          simp only [Nat.pow_one] at this
          rw [this]; simp
        · obtain ⟨j, hj⟩ : ∃ j, (-drop).toNat = j + 1 := ⟨(-drop).toNat - 1, by omega⟩
          rw [rne_up (by omega), show E - (exp + drop + 1074 + (g : Int)).toNat = j by omega, hj, Nat.pow_succ']
          grind
  refine ⟨?_, ?_, ?_, ?_⟩
  · unfold rung
    rw [hlow, hq, show (exp + drop + 1074 + (g : Int)).toNat - g = (exp + drop + 1074).toNat by omega]
  · rw [hq]
    have hs := (lowest_spec g ((2 * N + more.toNat) * 2 ^ E)).2.1
    rw [hlow] at hs
    exact rne_le hs
  · intro hc
    rw [hq]
    have hs := (lowest_spec g ((2 * N + more.toNat) * 2 ^ E)).2.2
    rw [hlow] at hs
    exact rne_ge (hs (by omega))
  · unfold rX
    have hN : N < 2 ^ n := by have : 2 ^ (n + 1) = 2 * 2 ^ n := Nat.pow_succ'; omega
    by_cases c : 2 ≤ drop
    · rw [if_pos c]
      refine (Nat.div_lt_iff_lt_mul (Nat.two_pow_pos _)).2 ?_
      rw [show (36028797018963968 : Nat) = 2 ^ 55 from by decide, ← Nat.pow_add]
      exact Nat.lt_of_lt_of_le hN (Nat.pow_le_pow_right (by decide) (by omega))
    · rw [if_neg c, show (36028797018963968 : Nat) = 2 ^ 55 from by decide]
      refine Nat.lt_of_lt_of_le (scaled_lt hN) (Nat.pow_le_pow_right (by decide) (by omega))

end Go.Proofs.YthmocdabakkfhaaGreatDoor
