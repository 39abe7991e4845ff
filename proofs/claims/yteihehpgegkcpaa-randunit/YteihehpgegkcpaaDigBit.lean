/-
  The walks of the reference's Bit, Len, Small, Sign and Infinite.
-/
import Derived.Test.YteihehpgegkcpaaDigSum
namespace Go.Proofs.Yteihehpgegkcpaa
open Go.RowKit Dg

/-- How many bits a number has. -/
def blen (n : Nat) : Nat := if n = 0 then 0 else n.log2 + 1

theorem bit_dig (n q r : Nat) (hr : r < 16) : dig n q / 2 ^ r % 2 = n / 2 ^ (16 * q + r) % 2 := by
  unfold dig
  rw [pow16, Nat.pow_add, ← Nat.div_div_eq_div_mul]
  generalize n / 2 ^ (16 * q) = x
  have e : 65536 = 2 ^ r * 2 ^ (16 - r) := by rw [← Nat.pow_add, show r + (16 - r) = 16 by omega]
  rw [e, Nat.mod_mul_right_div_self]
  have d : 2 ∣ 2 ^ (16 - r) := by
    rw [show 16 - r = (15 - r) + 1 by omega, Nat.pow_succ]; exact Nat.dvd_mul_left _ _
  exact Nat.mod_mod_of_dvd _ d

theorem and1 (x : Nat) (h : x < 18446744073709551616) : bits .and .u64 (x : Int) 1 = ((x % 2 : Nat) : Int) := by
  rw [u64_and _ _ (Int.natCast_nonneg _) (by omega) (by decide) (by decide), Int.toNat_natCast, show (1 : Int).toNat = 1 from rfl, nat_mask1]

set_option maxHeartbeats 400000 in
theorem bit_walk (v : Value) (n l i : Nat) (w : World) (hD : D w v n l) (h : i ≤ 1099511627776) (q r x d : Nat) (hq : (i : Int) / 16 = (q : Int)) (hr : (i : Int) % 16 = (r : Int)) (_hr2 : r < 16)
    (ha : ∀ w, D w v n l → Calls Try.prog 35 #[v, .int .i64 q] w fun e w' => e = .returned (.int .u64 d) ∧ w' = w)
    (_hd : d < 65536) (hx : bits .and .u64 ((d : Int) / 2 ^ r) 1 = (x : Int)) :
    Calls Try.prog 32 #[v, .int .i64 i] w fun e w' => e = .returned (.int .u64 x) ∧ w' = w := by
  have HA : Hid (∀ w, D w v n l → Calls Try.prog 35 #[v, .int .i64 q] w fun e w' => e = .returned (.int .u64 d) ∧ w' = w) := ha
  clear ha
  go_enter Try.func32, Try.ntmps32
  go_wp2_with (go_at_call 35; refine (HA.out _ hD).mono ?_; rintro e w' ⟨rfl, rfl⟩)
  go_ret
  exact ⟨rfl, rfl⟩

theorem bit_any (v : Value) (n l : Nat) (i : Int) (w : World) (hD : D w v n l) (h0 : 0 ≤ i) (h : i ≤ 1099511627776) :
    Calls Try.prog 32 #[v, .int .i64 i] w fun e w' => e = .returned (.int .u64 (n / 2 ^ i.toNat % 2 : Nat)) ∧ w' = w := by
  obtain ⟨k, rfl⟩ := Int.eq_ofNat_of_zero_le h0
  rw [Int.toNat_natCast]
  have hd := dig_lt n (k / 16)
  refine bit_walk v n l k w hD (by omega) (k / 16) (k % 16) _ (dig n (k / 16)) (by omega) (by omega) (by omega) ?_ hd ?_
  · intro w h
    have := at_any v n l ((k / 16 : Nat) : Int) w h (by omega)
    rw [Int.toNat_natCast] at this
    exact this
  · have hle : dig n (k / 16) / 2 ^ (k % 16) ≤ dig n (k / 16) := Nat.div_le_self _ _
    have := and1 (dig n (k / 16) / 2 ^ (k % 16)) (by omega)
    rw [bit_dig n (k / 16) (k % 16) (by omega), Nat.div_add_mod] at this
    rw [← this, Int.natCast_ediv, Int.natCast_pow]
    rfl

theorem blen_lt (n : Nat) : n < 2 ^ blen n := by
  unfold blen; split
  · rename_i h; subst h; simp
  · exact Nat.lt_log2_self
theorem blen_eq {n k : Nat} (h : n < 2 ^ k) (h2 : k = 0 ∨ n / 2 ^ (k - 1) % 2 = 1) : k = blen n := by
  unfold blen
  rcases Nat.eq_zero_or_pos k with k0 | k0
  · subst k0
    have : n = 0 := by simpa using h
    rw [if_pos this]
  · rcases h2 with h2 | h2
    · omega
    · have hge : 2 ^ (k - 1) ≤ n := by
        rcases Nat.lt_or_ge n (2 ^ (k - 1)) with hh | hh
        · rw [Nat.div_eq_of_lt hh] at h2; omega
        · exact hh
      have hn : n ≠ 0 := by have := Nat.two_pow_pos (k - 1); omega
      rw [if_neg hn]
      have := (Nat.log2_eq_iff hn).2 ⟨hge, by rw [show k - 1 + 1 = k by omega]; exact h⟩
      omega
theorem lt_of_bit {n k : Nat} (h : n < 2 ^ (k + 1)) (h2 : n / 2 ^ k % 2 = 0) : n < 2 ^ k := by
  have hq : n / 2 ^ k < 2 := (Nat.div_lt_iff_lt_mul (Nat.two_pow_pos k)).2 (by rw [← Nat.pow_succ']; exact h)
  rcases Nat.lt_or_ge n (2 ^ k) with hh | hh
  · exact hh
  · have := (Nat.le_div_iff_mul_le (Nat.two_pow_pos k)).2 (show 1 * 2 ^ k ≤ n by omega)
    generalize n / 2 ^ k = z at *
    omega

set_option maxHeartbeats 400000 in
theorem len_any (v : Value) (n l : Nat) (w : World) (hD : D w v n l) (hl : l ≤ 1073741824) :
    Calls Try.prog 26 #[v] w fun e w' => e = .returned (.int .i64 (blen n : Nat)) ∧ w' = w := by
  have hlt := hD.lt
  rw [pow16] at hlt
  have hD0 := hD
  obtain ⟨g, cap, rfl, -, -, -, -⟩ := hD.shape
  go_enter Try.func26, Try.ntmps26
  go_wp2
  go_loop [3] (fun t => ∃ k : Nat, k ≤ 16 * l ∧ t = .int .i64 k ∧ n < 2 ^ k) (fun t => (intOf t).toNat)
  case atStart => exact ⟨16 * l, Nat.le_refl _, by simp, hlt⟩
  case round =>
    obtain ⟨k, hk, rfl, hn⟩ := hrel
    cases k with
    | zero =>
      have H : Hid (0 = blen n) := blen_eq hn (Or.inl rfl)
      go_wp2
      go_ret
      exact ⟨by rw [← H.out]; rfl, rfl⟩
    | succ k =>
      have hb := fun w h => bit_any (.slice (some ⟨g, 0, none⟩) l cap) n l k w h (by omega) (by omega)
      rw [Int.toNat_natCast] at hb
      obtain ⟨b, hbb⟩ : ∃ b, b = n / 2 ^ k % 2 := ⟨_, rfl⟩
      rw [← hbb] at hb
      have HB : Hid (∀ w, D w (.slice (some ⟨g, 0, none⟩) l cap) n l → Calls Try.prog 32 #[.slice (some ⟨g, 0, none⟩) l cap, .int .i64 k] w fun e w' => e = .returned (.int .u64 b) ∧ w' = w) := hb
      clear hb
      by_cases c : b = 0
      · have H : Hid (n < 2 ^ k) := lt_of_bit hn (by omega)
        clear hbb
        subst c
        go_wp2_with (go_at_call 32; refine (HB.out _ hD0).mono ?_; rintro e w' ⟨rfl, rfl⟩)
        go_round
        case rel => exact ⟨k, by omega, by go_num, H.out⟩
        case measure => simp [intOf]
      · have H : Hid (k + 1 = blen n) := blen_eq hn (Or.inr (by rw [Nat.add_sub_cancel]; omega))
        have cz : ((b : Int) == 0) = false := by rw [beq_eq_false_iff_ne]; omega
        clear hbb
        go_wp2_with (go_at_call 32; refine (HB.out _ hD0).mono ?_; rintro e w' ⟨rfl, rfl⟩)
        go_ret
        exact ⟨by rw [← H.out]; rfl, rfl⟩

theorem join4 (n : Nat) (h : n < 18446744073709551616) : ((dig n 0 ||| dig n 1 * 65536) ||| dig n 2 * 4294967296) ||| dig n 3 * 281474976710656 = n := by
  have d0 := dig_lt n 0
  have d1 := dig_lt n 1
  have d2 := dig_lt n 2
  have d3 := dig_lt n 3
  rw [Nat.or_comm (dig n 0), nat_join 16 (dig n 1 * 65536) (dig n 0) (by omega) (by omega)]
  rw [Nat.or_comm _ (dig n 2 * 4294967296), nat_join 32 (dig n 2 * 4294967296) _ (by omega) (by omega)]
  rw [Nat.or_comm _ (dig n 3 * 281474976710656), nat_join 48 (dig n 3 * 281474976710656) _ (by omega) (by omega)]
  unfold dig
  simp only [Nat.pow_zero, Nat.div_one, Nat.pow_one]
  omega

set_option maxHeartbeats 400000 in
theorem small_walk (v : Value) (n l a b c d r1 r2 r3 : Nat) (w : World) (hD : D w v n l) (_ha : a < 65536) (hb : b < 65536) (hc : c < 65536) (hd : d < 65536)
    (h0 : ∀ (i : Int) (x : Nat) w, (i = 0 ∧ x = a) ∨ (i = 1 ∧ x = b) ∨ (i = 2 ∧ x = c) ∨ (i = 3 ∧ x = d) → D w v n l → Calls Try.prog 35 #[v, .int .i64 i] w fun e w' => e = .returned (.int .u64 x) ∧ w' = w)
    (e1 : bits .or .u64 (a : Int) ((b : Int) * 65536) = (r1 : Int)) (e2 : bits .or .u64 (r1 : Int) ((c : Int) * 4294967296) = (r2 : Int)) (e3 : bits .or .u64 (r2 : Int) ((d : Int) * 281474976710656) = (r3 : Int)) :
    Calls Try.prog 31 #[v] w fun e w' => e = .returned (.int .u64 r3) ∧ w' = w := by
  have H0 : Hid (∀ (i : Int) (x : Nat) w, (i = 0 ∧ x = a) ∨ (i = 1 ∧ x = b) ∨ (i = 2 ∧ x = c) ∨ (i = 3 ∧ x = d) → D w v n l → Calls Try.prog 35 #[v, .int .i64 i] w fun e w' => e = .returned (.int .u64 x) ∧ w' = w) := h0
  clear h0
  go_enter Try.func31, Try.ntmps31
  go_wp2_with fail
  refine (H0.out 0 a _ (by simp) hD).mono ?_
  rintro e w' ⟨rfl, rfl⟩
  go_wp2_with fail
  refine (H0.out 1 b _ (by simp) hD).mono ?_
  rintro e w' ⟨rfl, rfl⟩
  go_wp2_with fail
  refine (H0.out 2 c _ (by simp) hD).mono ?_
  rintro e w' ⟨rfl, rfl⟩
  go_wp2_with fail
  refine (H0.out 3 d _ (by simp) hD).mono ?_
  rintro e w' ⟨rfl, rfl⟩
  go_wp2_with fail
  go_ret
  exact ⟨rfl, rfl⟩

theorem or_nat (a b : Nat) (ha : a < 18446744073709551616) (hb : b < 18446744073709551616) (B : Int) (e : B = (b : Int)) : bits .or .u64 (a : Int) B = ((a ||| b : Nat) : Int) := by
  subst e
  exact u64_or_nat a b ha hb

theorem small_any (v : Value) (n l : Nat) (w : World) (hD : D w v n l) (h : n < 18446744073709551616) :
    Calls Try.prog 31 #[v] w fun e w' => e = .returned (.int .u64 n) ∧ w' = w := by
  have d0 := dig_lt n 0
  have d1 := dig_lt n 1
  have d2 := dig_lt n 2
  have d3 := dig_lt n 3
  have l1 : dig n 0 ||| dig n 1 * 65536 < 18446744073709551616 := Nat.or_lt_two_pow (n := 64) (by omega) (by omega)
  have l2 : dig n 0 ||| dig n 1 * 65536 ||| dig n 2 * 4294967296 < 18446744073709551616 := Nat.or_lt_two_pow (n := 64) l1 (by omega)
  have e := small_walk v n l (dig n 0) (dig n 1) (dig n 2) (dig n 3) _ _ _ w hD d0 d1 d2 d3 ?_ (or_nat _ _ (by omega) (by omega) _ (by omega)) (or_nat _ _ l1 (show dig n 2 * 4294967296 < 18446744073709551616 by omega) _ (by omega)) (or_nat _ _ l2 (show dig n 3 * 281474976710656 < 18446744073709551616 by omega) _ (by omega))
  · rw [join4 n h] at e
    exact e
  · intro i x w hi hd
    have := at_any v n l i w hd (by omega)
    rcases hi with ⟨rfl, rfl⟩ | ⟨rfl, rfl⟩ | ⟨rfl, rfl⟩ | ⟨rfl, rfl⟩ <;> exact this

theorem refSign_any (neg : Bool) (w : World) : Calls Try.prog 27 #[.bool neg] w fun e w' => e = .returned (.int .u64 (if neg then 9223372036854775808 else 0)) ∧ w' = w := by
  cases neg
  all_goals
    go_enter Try.func27, Try.ntmps27
    go_wp2
    go_ret
    exact ⟨rfl, rfl⟩
theorem refInf_any (neg : Bool) (w : World) : Calls Try.prog 28 #[.bool neg] w fun e w' => e = .returned (.int .u64 (if neg then 18442240474082181120 else 9218868437227405312)) ∧ w' = w := by
  have e1 : bits .or .u64 9223372036854775808 9218868437227405312 = 18442240474082181120 := by decide +kernel
  have e2 : bits .or .u64 0 9218868437227405312 = 9218868437227405312 := by decide +kernel
  cases neg
  · go_enter Try.func28, Try.ntmps28
    go_wp2_with (go_at_call 27; refine (refSign_any false _).mono ?_; rintro e w' ⟨rfl, rfl⟩)
    go_ret
    exact ⟨rfl, rfl⟩
  · go_enter Try.func28, Try.ntmps28
    go_wp2_with (go_at_call 27; refine (refSign_any true _).mono ?_; rintro e w' ⟨rfl, rfl⟩)
    go_ret
    exact ⟨rfl, rfl⟩

end Go.Proofs.Yteihehpgegkcpaa
