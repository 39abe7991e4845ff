/-
  The reference's Cmp and Minus.
-/
import Derived.Test.YtpjgmlhchaojaaaDigUp
namespace Go.Proofs.Ytpjgmlhchaojaaa
open Go.RowKit Dg

def cmpZ (n m : Nat) : Int := if n < m then -1 else if n = m then 0 else 1

theorem high_step (n j : Nat) : n / 65536 ^ j = n / 65536 ^ (j + 1) * 65536 + dig n j := by
  unfold dig
  rw [Nat.pow_succ, ← Nat.div_div_eq_div_mul]
  omega
theorem high_lt {n m j : Nat} (h : n / 65536 ^ (j + 1) = m / 65536 ^ (j + 1)) (hd : dig n j < dig m j) : n < m := by
  have h1 := high_step n j
  have h2 := high_step m j
  rcases Nat.lt_or_ge n m with k | k
  · exact k
  · have := Nat.div_le_div_right (c := 65536 ^ j) k
    omega

set_option maxHeartbeats 1000000 in
theorem cmp_any (v u : Value) (n l m k : Nat) (w : World) (hD : D w v n l) (hE : D w u m k) (hl : l ≤ 536870912) (hk : k ≤ 536870912) :
    Calls Try.prog 56 #[v, u] w fun e w' => e = .returned (.int .i64 (cmpZ n m)) ∧ w' = w := by
  obtain ⟨L, hL⟩ : ∃ L, L = max l k := ⟨_, rfl⟩
  have hL1 : L ≤ 536870912 := by omega
  have hn : n < 65536 ^ L := Nat.lt_of_lt_of_le hD.lt (Nat.pow_le_pow_right (by decide) (by omega))
  have hm : m < 65536 ^ L := Nat.lt_of_lt_of_le hE.lt (Nat.pow_le_pow_right (by decide) (by omega))
  have H0 : n / 65536 ^ L = m / 65536 ^ L := by rw [Nat.div_eq_of_lt hn, Nat.div_eq_of_lt hm]
  have HL : Hid (max l k = L) := hL.symm
  clear hL
  go_enter Try.func56, Try.ntmps56
  go_wp2_with fail
  refine (most_any _ _ n l m k _ hD hE).mono ?_
  rintro e w' ⟨rfl, rfl⟩
  rw [HL.out]
  go_wp2
  go_loop [5] (fun t => ∃ (j : Nat) (i : Int), i = (j : Int) - 1 ∧ j ≤ L ∧ t = .int .i64 i ∧ n / 65536 ^ j = m / 65536 ^ j) (fun t => (intOf t + 1).toNat)
  case atStart => exact ⟨L, _, rfl, Nat.le_refl _, by go_num, H0⟩
  case round =>
    obtain ⟨j, i, hi, hj, rfl, hh⟩ := hrel
    cases j with
    | zero =>
      obtain rfl : i = -1 := by omega
      have hz : n = m := by simpa using hh
      have he : Hid (cmpZ n m = 0) := by show cmpZ n m = 0; unfold cmpZ; rw [if_neg (by omega), if_pos hz]
      clear hh hz H0 hi
      go_wp2
      go_ret
      exact ⟨by rw [he.out]; rfl, rfl⟩
    | succ j =>
      obtain rfl : i = (j : Int) := by omega
      clear hi
      obtain ⟨p, hp⟩ : ∃ p, p = dig n j := ⟨_, rfl⟩
      obtain ⟨q, hq⟩ : ∃ q, q = dig m j := ⟨_, rfl⟩
      have p1 : p < 65536 := by rw [hp]; exact dig_lt _ _
      have q1 : q < 65536 := by rw [hq]; exact dig_lt _ _
      have H1 : Hid (∀ w (J : Int), J = (j : Int) → D w v n l → Calls Try.prog 58 #[v, .int .i64 J] w fun e w' => e = .returned (.int .u64 p) ∧ w' = w) := by
        intro w J hJ h
        have := at_any v n l j w h (by omega)
        rw [Int.toNat_natCast, ← hp] at this
        rw [hJ]
        exact this
      have H2 : Hid (∀ w (J : Int), J = (j : Int) → D w u m k → Calls Try.prog 58 #[u, .int .i64 J] w fun e w' => e = .returned (.int .u64 q) ∧ w' = w) := by
        intro w J hJ h
        have := at_any u m k j w h (by omega)
        rw [Int.toNat_natCast, ← hq] at this
        rw [hJ]
        exact this
      rcases Nat.lt_trichotomy p q with c | c | c
      · have hlt : n < m := high_lt hh (by omega)
        have he : Hid (cmpZ n m = -1) := by show cmpZ n m = -1; unfold cmpZ; rw [if_pos hlt]
        clear hh hp hq H0 hlt
        go_wp2_with fail
        refine (H1.out _ _ (by omega) hD).mono ?_
        rintro e w' ⟨rfl, rfl⟩
        go_wp2_with fail
        refine (H2.out _ _ (by omega) hE).mono ?_
        rintro e w' ⟨rfl, rfl⟩
        go_wp2
        go_ret
        exact ⟨by rw [he.out]; rfl, rfl⟩
      · have hd : n / 65536 ^ j = m / 65536 ^ j := by rw [high_step n j, high_step m j, hh, ← hp, ← hq, c]
        have HH : Hid (n / 65536 ^ j = m / 65536 ^ j) := hd
        clear hh hp hq hd H0
        subst c
        go_wp2_with fail
        refine (H1.out _ _ (by omega) hD).mono ?_
        rintro e w' ⟨rfl, rfl⟩
        go_wp2_with fail
        refine (H2.out _ _ (by omega) hE).mono ?_
        rintro e w' ⟨rfl, rfl⟩
        go_wp2_with fail
        refine (H1.out _ _ (by omega) hD).mono ?_
        rintro e w' ⟨rfl, rfl⟩
        go_wp2_with fail
        refine (H2.out _ _ (by omega) hE).mono ?_
        rintro e w' ⟨rfl, rfl⟩
        go_wp2
        go_round
        case rel => exact ⟨j, _, rfl, by omega, by go_num, HH.out⟩
        case measure => simp [intOf]
      · have hlt : m < n := high_lt hh.symm (by omega)
        have he : Hid (cmpZ n m = 1) := by show cmpZ n m = 1; unfold cmpZ; rw [if_neg (by omega), if_neg (by omega)]
        clear hh hp hq H0 hlt
        go_wp2_with fail
        refine (H1.out _ _ (by omega) hD).mono ?_
        rintro e w' ⟨rfl, rfl⟩
        go_wp2_with fail
        refine (H2.out _ _ (by omega) hE).mono ?_
        rintro e w' ⟨rfl, rfl⟩
        go_wp2_with fail
        refine (H1.out _ _ (by omega) hD).mono ?_
        rintro e w' ⟨rfl, rfl⟩
        go_wp2_with fail
        refine (H2.out _ _ (by omega) hE).mono ?_
        rintro e w' ⟨rfl, rfl⟩
        go_wp2
        go_ret
        exact ⟨by rw [he.out]; rfl, rfl⟩

end Go.Proofs.Ytpjgmlhchaojaaa
