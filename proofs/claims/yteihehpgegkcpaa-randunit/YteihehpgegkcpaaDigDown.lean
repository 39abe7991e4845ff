/-
  The walk of the reference's Down.
-/
import Derived.Test.YteihehpgegkcpaaDigBit
namespace Go.Proofs.Yteihehpgegkcpaa
open Go.RowKit Dg

theorem low_step (n j : Nat) : n % 2 ^ (j + 1) = n % 2 ^ j + 2 ^ j * (n / 2 ^ j % 2) := by rw [Nat.pow_succ, Nat.mod_mul]

theorem lost_step {n j : Nat} {lo : Bool} {b : Nat} (hl : lo = decide (n % 2 ^ j ≠ 0)) (hb : b = n / 2 ^ j % 2) : (lo || (b == 1)) = decide (n % 2 ^ (j + 1) ≠ 0) := by
  have hp := Nat.two_pow_pos j
  rw [low_step, ← hb, hl, Bool.eq_iff_iff]
  simp only [ne_eq, Bool.or_eq_true, decide_eq_true_eq, beq_iff_eq]
  have hb2 : b = 0 ∨ b = 1 := by rw [hb]; omega
  rcases hb2 with h | h
  · subst h; simp
  · subst h; simp
theorem lost_end {n l k j : Nat} (hn : n < 2 ^ (16 * l)) (hj : j ≤ k) (h : ¬ (j < k ∧ j < 16 * l)) : decide (n % 2 ^ j ≠ 0) = decide (n % 2 ^ k ≠ 0) := by
  by_cases c : j = k
  · rw [c]
  · have h1 : 2 ^ (16 * l) ≤ 2 ^ j := Nat.pow_le_pow_right (by decide) (by omega)
    have h2 : 2 ^ (16 * l) ≤ 2 ^ k := Nat.pow_le_pow_right (by decide) (by omega)
    rw [Nat.mod_eq_of_lt (by omega), Nat.mod_eq_of_lt (by omega)]

theorem bits_join {n s t x b : Nat} (hx : x = n / 2 ^ s % 2 ^ t) (hb : b = n / 2 ^ (s + t) % 2) (ht : t < 16) :
    bits .or .u64 (x : Int) (IntKind.u64.wrap ((b : Int) * 2 ^ t)) = ((n / 2 ^ s % 2 ^ (t + 1) : Nat) : Int) := by
  have hp : 2 ^ t ≤ 32768 := by
    have := Nat.pow_le_pow_right (n := 2) (by decide) (show t ≤ 15 by omega)
    omega
  have hx2 : x < 2 ^ t := by rw [hx]; exact Nat.mod_lt _ (Nat.two_pow_pos t)
  have hb2 : b ≤ 1 := by rw [hb]; omega
  have hbp : b * 2 ^ t ≤ 32768 := Nat.le_trans (Nat.mul_le_mul_right _ hb2) (by omega)
  have e : IntKind.u64.wrap ((b : Int) * 2 ^ t) = ((b * 2 ^ t : Nat) : Int) := by
    rw [IntKind.wrap_u64, show (b : Int) * 2 ^ t = ((b * 2 ^ t : Nat) : Int) by rw [Int.natCast_mul, Int.natCast_pow]; rfl]
    omega
  rw [e, u64_or_nat x _ (by omega) (by omega), Nat.or_comm, nat_join t _ _ (Nat.mul_mod_left _ _) hx2, low_step, ← hx]
  congr 1
  rw [Nat.add_comm, Nat.mul_comm b, hb, Nat.div_div_eq_div_mul, ← Nat.pow_add]

theorem down_digit {n k j : Nat} : n / 2 ^ (k + 16 * j) % 2 ^ 16 = dig (n / 2 ^ k) j := by
  unfold dig
  rw [pow16, Nat.div_div_eq_div_mul, ← Nat.pow_add]
theorem down_val {m j : Nat} {os : List Nat} (hl : os.length = j) (hv : val os = m % 65536 ^ j) : val (os ++ [dig m j]) = m % 65536 ^ (j + 1) := by
  rw [val_snoc, hl, hv, dig_step]

theorem down_end {w : World} {v : Value} {os : List Nat} {n l k j : Nat} (h : w.ownsRow 0 22 1 v j (cells os)) (hnil : v ≠ .slice none 0 0) (hs : Small16 os) (hv : val os = n / 2 ^ k % 65536 ^ j) (hn : n < 2 ^ (16 * l)) (hj : 16 * l ≤ k + 16 * j) : D w v (n / 2 ^ k) j := by
  have hd := D.of_own h hnil hs
  have : n / 2 ^ k < 65536 ^ j := by
    rw [pow16]
    refine (Nat.div_lt_iff_lt_mul (Nat.two_pow_pos k)).2 ?_
    rw [← Nat.pow_add]
    exact Nat.lt_of_lt_of_le hn (Nat.pow_le_pow_right (by decide) (by omega))
  rw [hv, Nat.mod_eq_of_lt this] at hd
  exact hd

theorem own_pos {w : World} {B e n : Nat} {v : Value} {xs : List Value} (h : w.ownsRow B e 1 v (n + 1) xs) : v ≠ .slice none 0 0 := by
  intro k
  rcases h.2 with ⟨_, k2⟩ | ⟨g, cap, cur, e', _⟩
  · omega
  · rw [k] at e'; cases e'

set_option maxHeartbeats 2000000 in
theorem down_any (v : Value) (n l k : Nat) (w : World) (hD : D w v n l) (hl : l ≤ 268435456) (hk : k ≤ 1073741824) :
    Calls Try.prog 29 #[v, .int .i64 k] w fun e w' => ∃ v', e = .returned (.tuple #[v', .bool (decide (n % 2 ^ k ≠ 0))]) ∧ D w' v' (n / 2 ^ k) (dlen (n / 2 ^ k)) ∧ Below w.heap.size w w' := by
  obtain ⟨i0, hi, hz0, hz1, hz2⟩ := info_parts infoU
  have hlt := hD.lt
  rw [pow16] at hlt
  have hD0 := hD
  obtain ⟨g, cap, rfl, -, -, -, -⟩ := hD.shape
  clear hD
  go_enter Try.func29, Try.ntmps29
  go_wp2
  go_loop [6, 7] (fun lo i => ∃ (j : Nat) (b : Bool), j ≤ k ∧ i = .int .i64 j ∧ lo = .bool b ∧ b = decide (n % 2 ^ j ≠ 0)) (fun _ i => k - (intOf i).toNat)
  case atStart => exact ⟨0, false, Nat.zero_le _, rfl, rfl, by simp [Nat.mod_one]⟩
  case round =>
    obtain ⟨j, lo, hj, rfl, rfl, hlo⟩ := hrel
    have HLO : Hid (lo = decide (n % 2 ^ j ≠ 0)) := hlo
    clear hlo
    by_cases c : j < k ∧ j < 16 * l
    · obtain ⟨c1, c2⟩ := c
      have hb := fun w h => bit_any (.slice (some ⟨g, 0, none⟩) l cap) n l j w h (by omega) (by omega)
      rw [Int.toNat_natCast] at hb
      obtain ⟨b, hbb⟩ : ∃ b, b = n / 2 ^ j % 2 := ⟨_, rfl⟩
      rw [← hbb] at hb
      have HB : Hid (∀ w, D w (.slice (some ⟨g, 0, none⟩) l cap) n l → Calls Try.prog 32 #[.slice (some ⟨g, 0, none⟩) l cap, .int .i64 j] w fun e w' => e = .returned (.int .u64 b) ∧ w' = w) := hb
      have HS : Hid ((lo || (b == 1)) = decide (n % 2 ^ (j + 1) ≠ 0)) := lost_step HLO.out hbb
      clear hb
      cases lo
      · by_cases b1 : b = 1
        · subst b1
          clear hbb
          go_wp2_with (go_at_call 32; refine (HB.out _ hD0).mono ?_; rintro e w' ⟨rfl, rfl⟩)
          go_round
          case rel => exact ⟨j + 1, true, by omega, by go_num, rfl, HS.out⟩
          case measure => simp [intOf]; omega
        · have bz : ((b : Int) == 1) = false := by rw [beq_eq_false_iff_ne]; omega
          have HF : Hid (false = decide (n % 2 ^ (j + 1) ≠ 0)) := by
            show false = _
            rw [← HS.out, show (b == 1) = false from by rw [beq_eq_false_iff_ne]; exact b1]; rfl
          clear hbb
          go_wp2_with (go_at_call 32; refine (HB.out _ hD0).mono ?_; rintro e w' ⟨rfl, rfl⟩)
          go_round
          case rel => exact ⟨j + 1, false, by omega, by go_num, rfl, HF.out⟩
          case measure => simp [intOf]; omega
      · clear hbb
        go_wp2_with (go_at_call 32; refine (HB.out _ hD0).mono ?_; rintro e w' ⟨rfl, rfl⟩)
        go_round
        case rel => exact ⟨j + 1, true, by omega, by go_num, rfl, by have := HS.out; simpa using this⟩
        case measure => simp [intOf]; omega
    · have HE : Hid (lo = decide (n % 2 ^ k ≠ 0)) := HLO.out.trans (lost_end hlt hj c)
      rcases (show (j < k ∧ 16 * l ≤ j) ∨ k ≤ j from by omega) with ⟨c1, c2⟩ | c1
      all_goals
        clear c
        have hdj : 16 * l ≤ j → decide ((j : Int) < 16 * (l : Int)) = false := fun h => by simp; omega
        try have hdj2 := hdj c2
        clear hdj
        go_wp2_with fail
        try clear c1
        try clear c2
        clear hj
        go_loopw [8, 9] (fun o i wr => ∃ (t : Nat) (os : List Nat), i = .int .i64 ((k : Int) + 16 * (t : Int)) ∧ k + 16 * t < k + 16 * l + 16 ∧ os.length = t ∧ Small16 os ∧ val os = n / 2 ^ k % 65536 ^ t ∧ o ≠ .slice none 0 0 ∧
          wr.ownsRow w.heap.size 22 1 o t (cells os) ∧ Below w.heap.size w wr ∧ w.heap.size ≤ wr.heap.size ∧ D wr (.slice (some ⟨g, 0, none⟩) l cap) n l) (fun _ i _ => 16 * l - (intOf i).toNat)
        case atStart =>
          exact ⟨0, [], by simp, by omega, rfl, by intro x hx; simp at hx, by simp [val, Nat.mod_one], by simp, World.ownsRow_made w #[] 0 (Nat.le_refl _) (by decide) rfl, (Below.refl _ _).alloc (Nat.le_refl _) _, by simp, hD0.below ((Below.refl _ _).alloc (Nat.le_refl _) _)⟩
        case round =>
          obtain ⟨t, os, rfl, ht, hlen, hsm, hval, hnil, hown, hbel, hsz, hDr⟩ := hrel
          have HV : Hid (val os = n / 2 ^ k % 65536 ^ t) := hval
          clear hval
          by_cases d1 : k + 16 * t < 16 * l
          · have hdt : decide ((k : Int) + 16 * (t : Int) < 16 * (l : Int)) = true := by simp; omega
            go_wp2_with fail
            go_loop [10, 11] (fun x i => ∃ (s y : Nat), s ≤ 16 ∧ i = .int .i64 s ∧ x = .int .u64 y ∧ y = n / 2 ^ (k + 16 * t) % 2 ^ s) (fun _ i => 16 - (intOf i).toNat)
            case atStart => exact ⟨0, 0, by omega, rfl, rfl, by simp [Nat.mod_one]⟩
            case round =>
              obtain ⟨s, y, hs, rfl, rfl, hy⟩ := hrel
              have HY : Hid (y = n / 2 ^ (k + 16 * t) % 2 ^ s) := hy
              clear hy
              by_cases s1 : s < 16
              · have hb := fun w h => bit_any (.slice (some ⟨g, 0, none⟩) l cap) n l (k + 16 * t + s : Nat) w h (by omega) (by omega)
                rw [Int.toNat_natCast] at hb
                obtain ⟨b, hbb⟩ : ∃ b, b = n / 2 ^ (k + 16 * t + s) % 2 := ⟨_, rfl⟩
                rw [← hbb] at hb
                have e1 := bits_join HY.out hbb s1
                obtain ⟨z, hz⟩ : ∃ z, z = n / 2 ^ (k + 16 * t) % 2 ^ (s + 1) := ⟨_, rfl⟩
                rw [← hz] at e1
                have HB : Hid (∀ w, D w (.slice (some ⟨g, 0, none⟩) l cap) n l → Calls Try.prog 32 #[.slice (some ⟨g, 0, none⟩) l cap, .int .i64 ((k : Int) + 16 * (t : Int) + (s : Int))] w fun e w' => e = .returned (.int .u64 b) ∧ w' = w) := by
                  show ∀ w, _
                  simpa using hb
                have HZ : Hid (z = n / 2 ^ (k + 16 * t) % 2 ^ (s + 1)) := hz
                clear hb hbb hz
                go_wp2_with (go_at_call 32; refine (HB.out _ hDr).mono ?_; rintro e w' ⟨rfl, rfl⟩)
                go_round
                case rel => exact ⟨s + 1, z, by omega, by go_num, rfl, HZ.out⟩
                case measure => simp [intOf]; omega
              · have HS : Hid (y = dig (n / 2 ^ k) t) := by
                  show y = _
                  have : s = 16 := by omega
                  rw [HY.out, this, down_digit]
                have hy2 : y < 65536 := by rw [HS.out]; exact dig_lt _ _
                have hs2 := small_snoc hsm hy2
                have HV2 : Hid (val (os ++ [y]) = n / 2 ^ k % 65536 ^ (t + 1)) := by
                  show val _ = _
                  rw [HS.out]; exact down_val hlen HV.out
                clear HY
                go_wp2_with (at_builtin; refine wpList_append_own _ rfl _ _ 42 rfl w.heap.size 22 i0 (.int .u64 0) 1 8 Try.underlying42 hi hz0 hz1 hz2 rfl (by decide) _ t (cells os) rfl (hown.alloc _) ⟨wr.heap.size, 0, none⟩ 1 1 [.int .u64 (y : Int)] rfl rfl (one_new _ _ _) (by intro x hx; simp at hx; subst hx; rfl) (by unfold maxLen; omega) (by omega) (by simp; omega) ?_)
                intro v' w1 hown' hgrow hn'
                have R := sum_step hown hbel hsz hown' hgrow
                have hD1 := hD0.below R.2.1
                have hnil' : v' ≠ .slice none 0 0 := own_pos R.1
                clear hown' hgrow hown hbel hsz hn'
                go_wp2
                go_roundw
                case rel => exact ⟨t + 1, os ++ [y], by go_num, by omega, by simp [hlen], hs2, HV2.out, hnil', R.1, R.2.1, R.2.2, hD1⟩
                case measure => simp [intOf]; omega
          · have hd := down_end (ownsRow_base hown) hnil hsm HV.out hlt (by omega)
            go_wp2_with (go_at_call 33; refine (trim_any _ (n / 2 ^ k) t _ hd (by omega)).mono ?_; rintro e w2 ⟨v2, rfl, hd2, hb2⟩)
            go_ret2
            exact ⟨_, by rw [← HE.out]; rfl, hd2, hbel.trans (hb2.mono hbel.size)⟩

end Go.Proofs.Yteihehpgegkcpaa
