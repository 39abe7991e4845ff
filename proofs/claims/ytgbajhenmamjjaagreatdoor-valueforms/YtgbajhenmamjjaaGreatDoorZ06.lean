/-
  DigDown, DigProd, DigUp, DigCmp, DigMinus, Pt
-/
import Derived.Deep.QuietTactic
import Derived.BigQuiet
import Derived.WalkSmall
import Derived.Test.YtgbajhenmamjjaaGreatDoorZ05

/-
  The walk of the reference's Down.
-/
namespace Go.Proofs.YtgbajhenmamjjaaGreatDoor
set_option maxRecDepth 100000
open Go.RowKit Dg

theorem low_step (n j : Nat) : n % 2 ^ (j + 1) = n % 2 ^ j + 2 ^ j * (n / 2 ^ j % 2) := by rw [Nat.pow_succ, Nat.mod_mul]

theorem lost_step {n j : Nat} {lo : Bool} {b : Nat} (hl : lo = decide (n % 2 ^ j ≠ 0)) (hb : b = n / 2 ^ j % 2) : (lo || (b == 1)) = decide (n % 2 ^ (j + 1) ≠ 0) := by
  have hp := Nat.two_pow_pos j
  rw [low_step, ← hb, hl, Bool.eq_iff_iff]
  simp only [ne_eq, Bool.or_eq_true, decide_eq_true_eq, beq_iff_eq]
  have hb2 : b = 0 ∨ b = 1 := by rw [hb]; omega
  rcases hb2 with h | h
  · subst h; simp
  · subst h; simp
theorem lost_end {n l k j : Nat} (hn : n < 2 ^ (16 * l)) (hj : j ≤ k) (h : ¬ (j < k ∧ j < 16 * l)) : decide (n % 2 ^ j ≠ 0) = decide (n % 2 ^ k ≠ 0) := by
  by_cases c : j = k
  · rw [c]
  · have h1 : 2 ^ (16 * l) ≤ 2 ^ j := Nat.pow_le_pow_right (by decide) (by omega)
    have h2 : 2 ^ (16 * l) ≤ 2 ^ k := Nat.pow_le_pow_right (by decide) (by omega)
    rw [Nat.mod_eq_of_lt (by omega), Nat.mod_eq_of_lt (by omega)]

theorem bits_join {n s t x b : Nat} (hx : x = n / 2 ^ s % 2 ^ t) (hb : b = n / 2 ^ (s + t) % 2) (ht : t < 16) :
    bits .or .u64 (x : Int) (IntKind.u64.wrap ((b : Int) * 2 ^ t)) = ((n / 2 ^ s % 2 ^ (t + 1) : Nat) : Int) := by
  have hp : 2 ^ t ≤ 32768 := by
    have := Nat.pow_le_pow_right (n := 2) (by decide) (show t ≤ 15 by omega)
    omega
  have hx2 : x < 2 ^ t := by rw [hx]; exact Nat.mod_lt _ (Nat.two_pow_pos t)
  have hb2 : b ≤ 1 := by rw [hb]; omega
  have hbp : b * 2 ^ t ≤ 32768 := Nat.le_trans (Nat.mul_le_mul_right _ hb2) (by omega)
  have e : IntKind.u64.wrap ((b : Int) * 2 ^ t) = ((b * 2 ^ t : Nat) : Int) := by
    rw [IntKind.wrap_u64, show (b : Int) * 2 ^ t = ((b * 2 ^ t : Nat) : Int) by rw [Int.natCast_mul, Int.natCast_pow]; rfl]
    omega
  rw [e, u64_or_nat x _ (by omega) (by omega), Nat.or_comm, nat_join t _ _ (Nat.mul_mod_left _ _) hx2, low_step, ← hx]
  congr 1
  rw [Nat.add_comm, Nat.mul_comm b, hb, Nat.div_div_eq_div_mul, ← Nat.pow_add]

theorem down_digit {n k j : Nat} : n / 2 ^ (k + 16 * j) % 2 ^ 16 = dig (n / 2 ^ k) j := by
  unfold dig
  rw [pow16, Nat.div_div_eq_div_mul, ← Nat.pow_add]
theorem down_val {m j : Nat} {os : List Nat} (hl : os.length = j) (hv : val os = m % 65536 ^ j) : val (os ++ [dig m j]) = m % 65536 ^ (j + 1) := by
  rw [val_snoc, hl, hv, dig_step]

theorem down_end {w : World} {v : Value} {os : List Nat} {n l k j : Nat} (h : w.ownsRow 0 22 1 v j (cells os)) (hnil : v ≠ .slice none 0 0) (hs : Small16 os) (hv : val os = n / 2 ^ k % 65536 ^ j) (hn : n < 2 ^ (16 * l)) (hj : 16 * l ≤ k + 16 * j) : D w v (n / 2 ^ k) j := by
  have hd := D.of_own h hnil hs
  have : n / 2 ^ k < 65536 ^ j := by
    rw [pow16]
    refine (Nat.div_lt_iff_lt_mul (Nat.two_pow_pos k)).2 ?_
    rw [← Nat.pow_add]
    exact Nat.lt_of_lt_of_le hn (Nat.pow_le_pow_right (by decide) (by omega))
  rw [hv, Nat.mod_eq_of_lt this] at hd
  exact hd

theorem own_pos {w : World} {B e n : Nat} {v : Value} {xs : List Value} (h : w.ownsRow B e 1 v (n + 1) xs) : v ≠ .slice none 0 0 := by
  intro k
  rcases h.2 with ⟨_, k2⟩ | ⟨g, cap, cur, e', _⟩
  · omega
  · rw [k] at e'; cases e'

set_option maxHeartbeats 2000000 in
theorem down_any (v : Value) (n l k : Nat) (w : World) (hD : D w v n l) (hl : l ≤ 268435456) (hk : k ≤ 1073741824) :
    Calls Tryz.prog 107 #[v, .int .i64 k] w fun e w' => ∃ v', e = .returned (.tuple #[v', .bool (decide (n % 2 ^ k ≠ 0))]) ∧ D w' v' (n / 2 ^ k) (dlen (n / 2 ^ k)) ∧ Below w.heap.size w w' := by
  obtain ⟨i0, hi, hz0, hz1, hz2⟩ := info_parts infoU
  have hlt := hD.lt
  rw [pow16] at hlt
  have hD0 := hD
  obtain ⟨g, cap, rfl, -, -, -, -⟩ := hD.shape
  clear hD
  go_enter Tryz.func107, Tryz.ntmps107
  go_wp2
  go_loop [6, 7] (fun lo i => ∃ (j : Nat) (b : Bool), j ≤ k ∧ i = .int .i64 j ∧ lo = .bool b ∧ b = decide (n % 2 ^ j ≠ 0)) (fun _ i => k - (intOf i).toNat)
  case atStart => exact ⟨0, false, Nat.zero_le _, rfl, rfl, by simp [Nat.mod_one]⟩
  case round =>
    obtain ⟨j, lo, hj, rfl, rfl, hlo⟩ := hrel
    have HLO : Hid (lo = decide (n % 2 ^ j ≠ 0)) := hlo
    clear hlo
    by_cases c : j < k ∧ j < 16 * l
    · obtain ⟨c1, c2⟩ := c
      have hb := fun w h => bit_any (.slice (some ⟨g, 0, none⟩) l cap) n l j w h (by omega) (by omega)
      rw [Int.toNat_natCast] at hb
      obtain ⟨b, hbb⟩ : ∃ b, b = n / 2 ^ j % 2 := ⟨_, rfl⟩
      rw [← hbb] at hb
      have HB : Hid (∀ w, D w (.slice (some ⟨g, 0, none⟩) l cap) n l → Calls Tryz.prog 56 #[.slice (some ⟨g, 0, none⟩) l cap, .int .i64 j] w fun e w' => e = .returned (.int .u64 b) ∧ w' = w) := hb
      have HS : Hid ((lo || (b == 1)) = decide (n % 2 ^ (j + 1) ≠ 0)) := lost_step HLO.out hbb
      clear hb
      cases lo
      · by_cases b1 : b = 1
        · subst b1
          clear hbb
          go_wp2_with (go_at_call 56; refine (HB.out _ hD0).mono ?_; rintro e w' ⟨rfl, rfl⟩)
          go_round
          case rel => exact ⟨j + 1, true, by omega, by go_num, rfl, HS.out⟩
          case measure => simp [intOf]; omega
        · have bz : ((b : Int) == 1) = false := by rw [beq_eq_false_iff_ne]; omega
          have HF : Hid (false = decide (n % 2 ^ (j + 1) ≠ 0)) := by
            show false = _
            rw [← HS.out, show (b == 1) = false from by rw [beq_eq_false_iff_ne]; exact b1]; rfl
          clear hbb
          go_wp2_with (go_at_call 56; refine (HB.out _ hD0).mono ?_; rintro e w' ⟨rfl, rfl⟩)
          go_round
          case rel => exact ⟨j + 1, false, by omega, by go_num, rfl, HF.out⟩
          case measure => simp [intOf]; omega
      · clear hbb
        go_wp2_with (go_at_call 56; refine (HB.out _ hD0).mono ?_; rintro e w' ⟨rfl, rfl⟩)
        go_round
        case rel => exact ⟨j + 1, true, by omega, by go_num, rfl, by have := HS.out; simpa using this⟩
        case measure => simp [intOf]; omega
    · have HE : Hid (lo = decide (n % 2 ^ k ≠ 0)) := HLO.out.trans (lost_end hlt hj c)
      rcases (show (j < k ∧ 16 * l ≤ j) ∨ k ≤ j from by omega) with ⟨c1, c2⟩ | c1
      all_goals
        clear c
        have hdj : 16 * l ≤ j → decide ((j : Int) < 16 * (l : Int)) = false := fun h => by simp; omega
        try have hdj2 := hdj c2
        clear hdj
        go_wp2_with fail
        try clear c1
        try clear c2
        clear hj
        go_loopw [8, 9] (fun o i wr => ∃ (t : Nat) (os : List Nat), i = .int .i64 ((k : Int) + 16 * (t : Int)) ∧ k + 16 * t < k + 16 * l + 16 ∧ os.length = t ∧ Small16 os ∧ val os = n / 2 ^ k % 65536 ^ t ∧ o ≠ .slice none 0 0 ∧
          wr.ownsRow w.heap.size 22 1 o t (cells os) ∧ Below w.heap.size w wr ∧ w.heap.size ≤ wr.heap.size ∧ D wr (.slice (some ⟨g, 0, none⟩) l cap) n l) (fun _ i _ => 16 * l - (intOf i).toNat)
        case atStart =>
          exact ⟨0, [], by simp, by omega, rfl, by intro x hx; simp at hx, by simp [val, Nat.mod_one], by simp, World.ownsRow_made w #[] 0 (Nat.le_refl _) (by decide) rfl, (Below.refl _ _).alloc (Nat.le_refl _) _, by simp, hD0.below ((Below.refl _ _).alloc (Nat.le_refl _) _)⟩
        case round =>
          obtain ⟨t, os, rfl, ht, hlen, hsm, hval, hnil, hown, hbel, hsz, hDr⟩ := hrel
          have HV : Hid (val os = n / 2 ^ k % 65536 ^ t) := hval
          clear hval
          by_cases d1 : k + 16 * t < 16 * l
          · have hdt : decide ((k : Int) + 16 * (t : Int) < 16 * (l : Int)) = true := by simp; omega
            go_wp2_with fail
            go_loop [10, 11] (fun x i => ∃ (s y : Nat), s ≤ 16 ∧ i = .int .i64 s ∧ x = .int .u64 y ∧ y = n / 2 ^ (k + 16 * t) % 2 ^ s) (fun _ i => 16 - (intOf i).toNat)
            case atStart => exact ⟨0, 0, by omega, rfl, rfl, by simp [Nat.mod_one]⟩
            case round =>
              obtain ⟨s, y, hs, rfl, rfl, hy⟩ := hrel
              have HY : Hid (y = n / 2 ^ (k + 16 * t) % 2 ^ s) := hy
              clear hy
              by_cases s1 : s < 16
              · have hb := fun w h => bit_any (.slice (some ⟨g, 0, none⟩) l cap) n l (k + 16 * t + s : Nat) w h (by omega) (by omega)
                rw [Int.toNat_natCast] at hb
                obtain ⟨b, hbb⟩ : ∃ b, b = n / 2 ^ (k + 16 * t + s) % 2 := ⟨_, rfl⟩
                rw [← hbb] at hb
                have e1 := bits_join HY.out hbb s1
                obtain ⟨z, hz⟩ : ∃ z, z = n / 2 ^ (k + 16 * t) % 2 ^ (s + 1) := ⟨_, rfl⟩
                rw [← hz] at e1
                have HB : Hid (∀ w, D w (.slice (some ⟨g, 0, none⟩) l cap) n l → Calls Tryz.prog 56 #[.slice (some ⟨g, 0, none⟩) l cap, .int .i64 ((k : Int) + 16 * (t : Int) + (s : Int))] w fun e w' => e = .returned (.int .u64 b) ∧ w' = w) := by
                  show ∀ w, _
                  simpa using hb
                have HZ : Hid (z = n / 2 ^ (k + 16 * t) % 2 ^ (s + 1)) := hz
                clear hb hbb hz
                go_wp2_with (go_at_call 56; refine (HB.out _ hDr).mono ?_; rintro e w' ⟨rfl, rfl⟩)
                go_round
                case rel => exact ⟨s + 1, z, by omega, by go_num, rfl, HZ.out⟩
                case measure => simp [intOf]; omega
              · have HS : Hid (y = dig (n / 2 ^ k) t) := by
                  show y = _
                  have : s = 16 := by omega
                  rw [HY.out, this, down_digit]
                have hy2 : y < 65536 := by rw [HS.out]; exact dig_lt _ _
                have hs2 := small_snoc hsm hy2
                have HV2 : Hid (val (os ++ [y]) = n / 2 ^ k % 65536 ^ (t + 1)) := by
                  show val _ = _
                  rw [HS.out]; exact down_val hlen HV.out
                clear HY
                go_wp2_with (at_builtin; refine wpList_append_own _ rfl _ _ 67 rfl w.heap.size 22 i0 (.int .u64 0) 1 8 Tryz.underlying67 hi hz0 hz1 hz2 rfl (by decide) _ t (cells os) rfl (hown.alloc _) ⟨wr.heap.size, 0, none⟩ 1 1 [.int .u64 (y : Int)] rfl rfl (one_new _ _ _) (by intro x hx; simp at hx; subst hx; rfl) (by unfold maxLen; omega) (by omega) (by simp; omega) ?_)
                intro v' w1 hown' hgrow hn'
                have R := sum_step hown hbel hsz hown' hgrow
                have hD1 := hD0.below R.2.1
                have hnil' : v' ≠ .slice none 0 0 := own_pos R.1
                clear hown' hgrow hown hbel hsz hn'
                go_wp2
                go_roundw
                case rel => exact ⟨t + 1, os ++ [y], by go_num, by omega, by simp [hlen], hs2, HV2.out, hnil', R.1, R.2.1, R.2.2, hD1⟩
                case measure => simp [intOf]; omega
          · have hd := down_end (ownsRow_base hown) hnil hsm HV.out hlt (by omega)
            go_wp2_with (go_at_call 87; refine (trim_any _ (n / 2 ^ k) t _ hd (by omega)).mono ?_; rintro e w2 ⟨v2, rfl, hd2, hb2⟩)
            go_ret2
            exact ⟨_, by rw [← HE.out]; rfl, hd2, hbel.trans (hb2.mono hbel.size)⟩

end Go.Proofs.YtgbajhenmamjjaaGreatDoor

/-
  The walk of the reference's Product.
-/
namespace Go.Proofs.YtgbajhenmamjjaaGreatDoor
set_option maxRecDepth 100000
open Go.RowKit Dg

theorem val_set : ∀ (os : List Nat) (j d : Nat), j < os.length → val (os.set j d) + os.getD j 0 * 65536 ^ j = val os + d * 65536 ^ j := by
  intro os
  induction os with
  | nil => intro j d h; simp at h
  | cons a r ih =>
    intro j d h
    cases j with
    | zero => simp only [List.set_cons_zero, val, List.getD_cons_zero, Nat.pow_zero]; omega
    | succ j =>
      have := ih j d (by simpa using h)
      simp only [List.set_cons_succ, val, List.getD_cons_succ, Nat.pow_succ']
      grind
theorem small_set {os : List Nat} {j d : Nat} (hs : Small16 os) (hd : d < 65536) : Small16 (os.set j d) := by
  intro x hx
  rcases List.mem_or_eq_of_mem_set hx with h | h
  · exact hs x h
  · omega
theorem cells_set (os : List Nat) (j d : Nat) : (cells os).set j (.int .u64 (d : Int)) = cells (os.set j d) := by unfold cells; rw [List.map_set]

theorem prod_step {n m i k c p q o d f : Nat} {os : List Nat} (_hp : p = dig n i) (hq : q = dig m k) (hj : i + k < os.length) (ho : o = os.getD (i + k) 0) (hd : d = (o + p * q + c) % 65536) (hf : f = (o + p * q + c) / 65536)
    (h : val os + c * 65536 ^ (i + k) = (n % 65536 ^ i) * m + p * (m % 65536 ^ k) * 65536 ^ i) :
    val (os.set (i + k) d) + f * 65536 ^ (i + (k + 1)) = (n % 65536 ^ i) * m + p * (m % 65536 ^ (k + 1)) * 65536 ^ i := by
  have hs := val_set os (i + k) d hj
  rw [← ho] at hs
  have hx : d + f * 65536 = o + p * q + c := by omega
  rw [dig_step m k, ← hq]
  rw [show i + (k + 1) = i + k + 1 by omega, Nat.pow_succ]
  have e1 : p * (m % 65536 ^ k + 65536 ^ k * q) * 65536 ^ i = p * (m % 65536 ^ k) * 65536 ^ i + p * q * 65536 ^ (i + k) := by
    rw [Nat.pow_add]; grind
  have e2 : d * 65536 ^ (i + k) + f * (65536 ^ (i + k) * 65536) = o * 65536 ^ (i + k) + p * q * 65536 ^ (i + k) + c * 65536 ^ (i + k) := by
    have := congrArg (· * 65536 ^ (i + k)) hx
    grind
  omega
theorem prod_carry {n m i c p lb : Nat} {os : List Nat} (hp : p = dig n i) (hm : m < 65536 ^ lb) (hj : i + lb < os.length) (ho : os.getD (i + lb) 0 = 0)
    (h : val os + c * 65536 ^ (i + lb) = (n % 65536 ^ i) * m + p * (m % 65536 ^ lb) * 65536 ^ i) : val (os.set (i + lb) c) = (n % 65536 ^ (i + 1)) * m := by
  have hs := val_set os (i + lb) c hj
  rw [ho, Nat.zero_mul, Nat.add_zero] at hs
  rw [hs, h, Nat.mod_eq_of_lt hm, dig_step, ← hp]
  grind
theorem prod_zero {n m i lb : Nat} {os : List Nat} (hs : Small16 os) (hm : m < 65536 ^ lb) (hv : val os = (n % 65536 ^ i) * m) : ∀ t, i + lb ≤ t → os.getD t 0 = 0 := by
  intro t ht
  rw [val_dig os t hs]
  refine dig_ge (Nat.lt_of_lt_of_le ?_ (Nat.pow_le_pow_right (by decide) ht))
  rw [hv, Nat.pow_add]
  have h1 : n % 65536 ^ i < 65536 ^ i := Nat.mod_lt _ (Nat.pow_pos (by decide))
  have h2 : 0 < 65536 ^ i := Nat.pow_pos (by decide)
  exact Nat.lt_of_le_of_lt (Nat.mul_le_mul_right _ (Nat.le_of_lt h1)) (Nat.mul_lt_mul_of_pos_left hm h2)
theorem mul_bound {p q : Nat} (hp : p < 65536) (hq : q < 65536) : p * q ≤ 4294836225 :=
  Nat.mul_le_mul (show p ≤ 65535 by omega) (show q ≤ 65535 by omega)

theorem D.shape_cell {w : World} {v : Value} {n l g cap i : Nat} (h : D w v n l) (hv : v = .slice (some ⟨g, 0, none⟩) l cap) (hi : i < l) : w.cell? ⟨g, i, none⟩ = some (.int .u64 (dig n i : Nat)) := by
  obtain ⟨g', cap', e, _, _, _, hc⟩ := h.shape
  rw [hv] at e
  simp at e
  rw [e.1]
  exact hc i hi

theorem set_zero {rs : List Nat} {j d b : Nat} (hj : j < b) (h : ∀ t, b ≤ t → rs.getD t 0 = 0) : ∀ t, b ≤ t → (rs.set j d).getD t 0 = 0 := by
  intro t ht
  have := h t ht
  rw [List.getD_eq_getElem?_getD] at this ⊢
  rw [List.getElem?_set_ne (by omega)]
  exact this

/-- The row that Product makes. -/
def Row (w : World) (B N : Nat) (os : List Nat) : Prop := os.length = N ∧ Small16 os ∧ w.ownsRow B 22 1 (.slice (some ⟨B, 0, none⟩) N N) N (cells os)
theorem Row.cell {w : World} {B N : Nat} {os : List Nat} (h : Row w B N os) {j : Nat} (hj : j < N) : w.cell? ⟨B, j, none⟩ = some (.int .u64 (os.getD j 0 : Nat)) := by
  obtain ⟨h1, h2, h3⟩ := h
  have hj2 : j < os.length := by omega
  rw [h3.cellAt j (by omega), cells, List.getElem?_map, List.getElem?_eq_getElem hj2, List.getD_eq_getElem?_getD, List.getElem?_eq_getElem hj2]
  rfl

theorem Row.made {w w1 : World} {N : Nat} (h : w1.ownsRow w.heap.size 22 1 (.slice (some ⟨w.heap.size, 0, none⟩) N N) N (madeCells #[.int .u64 0] N).toList) : Row w1 w.heap.size N (List.replicate N 0) := by
  refine ⟨List.length_replicate, small_replicate N, ?_⟩
  rw [toList_madeCells_one] at h
  have e : cells (List.replicate N 0) = List.replicate N (.int .u64 0) := by unfold cells; rw [List.map_replicate]; rfl
  rw [e]
  exact h
theorem Row.stored {w : World} {B N : Nat} {os : List Nat} (h : Row w B N os) {j d : Nat} (hd : d < 65536) : Row (w.setCell ⟨B, j, none⟩ (.int .u64 (d : Int))) B N (os.set j d) := by
  obtain ⟨h1, h2, h3⟩ := h
  refine ⟨by rw [List.length_set]; exact h1, small_set h2 hd, ?_⟩
  have := (h3.stored j (.int .u64 (d : Int))).1
  rw [cells_set] at this
  exact this
theorem Row.drewN {w : World} {B N : Nat} {os : List Nat} (h : Row w B N os) (q : Nat) : Row (w.drewN q) B N os := h
theorem Row.frozen {w : World} {B N : Nat} {os : List Nat} (h : Row w B N os) (j : Nat) : w.frozen? ⟨B, j, none⟩ = false := h.2.2.frozenAt j

set_option maxHeartbeats 2000000 in
theorem prod_any (v u : Value) (n la m lb : Nat) (w : World) (hD : D w v n la) (hE : D w u m lb) (hl : la ≤ 268435456) (hk : lb ≤ 268435456) :
    Calls Tryz.prog 82 #[v, u] w fun e w' => ∃ v', e = .returned v' ∧ D w' v' (n * m) (dlen (n * m)) ∧ Below w.heap.size w w' := by
  obtain ⟨i0, hi, hz0, hz1, hz2⟩ := info_parts infoU
  have hn := hD.lt
  have hm := hE.lt
  obtain ⟨g, cap, rfl, hg, hlc, hcm, -⟩ := hD.shape
  obtain ⟨g', cap', rfl, hg', hlc', hcm', -⟩ := hE.shape
  unfold maxLen at hcm hcm'
  go_enter Tryz.func82, Tryz.ntmps82
  go_wp2_with (at_make; refine wpList_make_full _ rfl _ _ 67 rfl w.heap.size 22 i0 (.int .u64 0) 1 Tryz.underlying67 hi hz0 hz1 _ _ _ _ (la + lb) rfl rfl (by omega) (by omega) (by rw [hz2]; omega) (by unfold maxLen; omega) (Nat.le_refl _) ?_)
  intro w1 hown1 hgrow1
  have hR := Row.made hown1
  have hb1 : Below w.heap.size w w1 := (Below.refl _ _).grown hgrow1 (Nat.le_refl _) (by simp)
  clear hown1 hgrow1
  go_wp2_with fail
  go_loopw [6] (fun t wr => ∃ (i : Nat) (os : List Nat), i ≤ la ∧ t = .int .i64 i ∧ Row wr w.heap.size (la + lb) os ∧ val os = (n % 65536 ^ i) * m ∧ Below w.heap.size w wr) (fun t _ => la - (intOf t).toNat)
  case atStart => exact ⟨0, _, Nat.zero_le _, rfl, hR, by rw [val_replicate]; simp [Nat.mod_one], hb1⟩
  case round =>
    obtain ⟨i, os, hi', rfl, hRr, hv, hbel⟩ := hrel
    by_cases c : i < la
    · have HZ : Hid (∀ t, i + lb ≤ t → os.getD t 0 = 0) := prod_zero hRr.2.1 hm hv
      have HV : Hid (val os + 0 * 65536 ^ (i + 0) = (n % 65536 ^ i) * m + dig n i * (m % 65536 ^ 0) * 65536 ^ i) := by
        show val os + _ = _
        rw [hv]; simp [Nat.mod_one]
      clear hv
      have hct : decide ((i : Int) < (la : Int)) = true := by simp; omega
      go_wp2_with fail
      go_loopw [7, 8] (fun cr t wq => ∃ (k cc : Nat) (rs : List Nat), k ≤ lb ∧ t = .int .i64 k ∧ cr = .int .u64 cc ∧ cc < 65536 ∧ Row wq w.heap.size (la + lb) rs ∧ (∀ t, i + lb ≤ t → rs.getD t 0 = 0) ∧
        val rs + cc * 65536 ^ (i + k) = (n % 65536 ^ i) * m + dig n i * (m % 65536 ^ k) * 65536 ^ i ∧ Below w.heap.size w wq) (fun _ t _ => lb - (intOf t).toNat)
      case atStart => exact ⟨0, 0, os, Nat.zero_le _, rfl, rfl, by omega, hRr, HZ.out, HV.out, hbel⟩
      case round =>
        obtain ⟨k, cc, rs, hk', rfl, rfl, hcc, hRq, hz, hv, hbq⟩ := hrel
        have HZ2 : Hid (∀ t, i + lb ≤ t → rs.getD t 0 = 0) := hz
        have HV2 : Hid (val rs + cc * 65536 ^ (i + k) = (n % 65536 ^ i) * m + dig n i * (m % 65536 ^ k) * 65536 ^ i) := hv
        clear hz hv
        by_cases d : k < lb
        · obtain ⟨p, hp⟩ : ∃ p, p = dig n i := ⟨_, rfl⟩
          obtain ⟨q, hq⟩ : ∃ q, q = dig m k := ⟨_, rfl⟩
          obtain ⟨o, ho⟩ : ∃ o, o = rs.getD (i + k) 0 := ⟨_, rfl⟩
          have c1 := hRq.cell (show i + k < la + lb by omega)
          have c2 : wr.cell? ⟨g, i, none⟩ = some (.int .u64 (p : Int)) := by rw [hp]; exact (hD.below hbq).shape_cell rfl c
          have c3 : wr.cell? ⟨g', k, none⟩ = some (.int .u64 (q : Int)) := by rw [hq]; exact (hE.below hbq).shape_cell rfl d
          rw [← ho] at c1
          have p1 : p < 65536 := by rw [hp]; exact dig_lt _ _
          have q1 : q < 65536 := by rw [hq]; exact dig_lt _ _
          have o1 : o < 65536 := by rw [ho, val_dig rs _ hRq.2.1]; exact dig_lt _ _
          have pq := mul_bound p1 q1
          have pq2 : (p : Int) * (q : Int) ≤ 4294836225 := by rw [← Int.natCast_mul]; omega
          have pq3 : 0 ≤ (p : Int) * (q : Int) := by rw [← Int.natCast_mul]; omega
          obtain ⟨dd, hdd⟩ : ∃ d, d = (o + p * q + cc) % 65536 := ⟨_, rfl⟩
          obtain ⟨f, hf⟩ : ∃ f, f = (o + p * q + cc) / 65536 := ⟨_, rfl⟩
          have t1 : bits .and .u64 ((o : Int) + (p : Int) * (q : Int) + (cc : Int)) 65535 = (dd : Int) := by
            have := and16 (o + p * q + cc) (by omega)
            rw [hdd, ← this]; simp
          have t2 : ((o : Int) + (p : Int) * (q : Int) + (cc : Int)) / 65536 = (f : Int) := by rw [hf]; simp
          have HM : Hid (val (rs.set (i + k) dd) + f * 65536 ^ (i + (k + 1)) = (n % 65536 ^ i) * m + dig n i * (m % 65536 ^ (k + 1)) * 65536 ^ i) := by
            show val _ + _ = _
            rw [← hp]
            exact prod_step hp hq (by rw [hRq.1]; omega) ho hdd hf (by rw [hp]; exact HV2.out)
          have d1 : dd < 65536 := by omega
          have f1 : f < 65536 := by omega
          have hz3 := hRq.frozen (i + k)
          clear hp hq ho hdd hf
          go_wp2_with fail
          go_quiet (fail)
          go_wp2
          go_roundw
          case rel => exact ⟨k + 1, f, rs.set (i + k) dd, by omega, by go_num, rfl, f1, hRq.stored d1, set_zero (by omega) HZ2.out, HM.out, (below_drewN hbq nq).setCell (p := ⟨w.heap.size, i + k, none⟩) (Nat.le_refl _) _⟩
          case measure => simp [intOf]; omega
        · have HK : Hid (k = lb) := by show k = lb; omega
          have hz3 := hRq.frozen (i + lb)
          have c1 := hRq.cell (show i + lb < la + lb by omega)
          have hd2 : decide ((k : Int) < (lb : Int)) = false := by simp; omega
          have HC : Hid (val (rs.set (i + lb) cc) = (n % 65536 ^ (i + 1)) * m) := by
            have hv2 := HV2.out
            rw [HK.out] at hv2
            exact prod_carry rfl hm (by rw [hRq.1]; omega) (HZ2.out _ (Nat.le_refl _)) hv2
          go_wp2
          go_roundw
          case rel => exact ⟨i + 1, rs.set (i + lb) cc, by omega, by go_num, hRq.stored hcc, HC.out, hbq.setCell (p := ⟨w.heap.size, i + lb, none⟩) (Nat.le_refl _) _⟩
          case measure => simp [intOf]; omega
    · have HI : Hid (i = la) := by show i = la; omega
      have hd : D wr (.slice (some ⟨w.heap.size, 0, none⟩) (la + lb) (la + lb)) (n * m) (la + lb) := by
        refine ⟨os, w.heap.size, la + lb, rfl, hRr.1, hRr.2.1, ?_, ownsRow_base hRr.2.2⟩
        rw [hv, HI.out, Nat.mod_eq_of_lt hn]
      clear hv
      go_wp2_with (go_at_call 87; refine (trim_any _ (n * m) (la + lb) _ hd (by omega)).mono ?_; rintro e w2 ⟨v2, rfl, hd2, hb2⟩)
      go_ret
      exact ⟨_, rfl, hd2, hbel.trans (hb2.mono hbel.size)⟩

end Go.Proofs.YtgbajhenmamjjaaGreatDoor

/-
  The walk of the reference's Up.
-/
namespace Go.Proofs.YtgbajhenmamjjaaGreatDoor
set_option maxRecDepth 100000
open Go.RowKit Dg

theorem D.news {w : World} {n l g cap : Nat} (h : D w (.slice (some ⟨g, 0, none⟩) l cap) n l) :
    ∃ ds : List Nat, ds.length = l ∧ Small16 ds ∧ val ds = n ∧ (cells ds).length = l * 1 ∧ (∀ w', Below w.heap.size w w' → ∀ j u, (cells ds)[j]? = some u → w'.cell? ((⟨g, 0, none⟩ : Addr).add j) = some u) := by
  obtain ⟨ds, g', cap', e, h2, h3, h4, h5⟩ := h
  refine ⟨ds, h2, h3, h4, by rw [cells_length]; omega, ?_⟩
  intro w' hb
  exact (ownsRow_below h5 hb (Nat.le_refl _)).cells (g := g) rfl

theorem up_val (q : Nat) (ds : List Nat) : val (List.replicate q 0 ++ ds) = 65536 ^ q * val ds := by
  rw [val_append, val_replicate, List.length_replicate]; omega
theorem up_small {q : Nat} {ds : List Nat} (h : Small16 ds) : Small16 (List.replicate q 0 ++ ds) := by
  intro x hx
  rcases List.mem_append.1 hx with k | k
  · exact small_replicate q x k
  · exact h x k
theorem up_eq (n q r : Nat) : 65536 ^ q * n * 2 ^ r = n * 2 ^ (16 * q + r) := by
  rw [pow16, Nat.pow_add]; grind
theorem cells_app (xs ys : List Nat) : cells xs ++ cells ys = cells (xs ++ ys) := by unfold cells; rw [List.map_append]

theorem D_one (w : World) (x : Nat) (hx : x < 65536) : D (w.alloc (.cells #[.int .u64 (x : Int)] 22)) (.slice (some ⟨w.heap.size, 0, none⟩) 1 1) x 1 :=
  ⟨[x], w.heap.size, 1, rfl, rfl, by intro y hy; simp at hy; omega, by simp [val], World.ownsRow_lit w #[.int .u64 (x : Int)] 1 (Nat.zero_le _) (by decide) rfl⟩

set_option maxHeartbeats 1000000 in
theorem up_walk (v : Value) (n l k q r x : Nat) (w : World) (hD : D w v n l) (hl : l ≤ 134217728) (hk : k ≤ 1073741824) (hq : (k : Int) / 16 = (q : Int)) (hr : (k : Int) % 16 = (r : Int)) (hqr : k = 16 * q + r)
    (_hr2 : r < 16) (hx : IntKind.u64.wrap (2 ^ r) = (x : Int)) (hx2 : x = 2 ^ r) (hx3 : x < 65536) :
    Calls Tryz.prog 55 #[v, .int .i64 k] w fun e w' => ∃ v', e = .returned v' ∧ D w' v' (n * 2 ^ k) (dlen (n * 2 ^ k)) ∧ Below w.heap.size w w' := by
  obtain ⟨i0, hi, hz0, hz1, hz2⟩ := info_parts infoU
  obtain ⟨g, cap, rfl, hg, hlc, hcm, -⟩ := hD.shape
  unfold maxLen at hcm
  obtain ⟨ds, hlen, hsm, hval, hcl, hnews⟩ := hD.news
  have HE : Hid (65536 ^ q * n * x = n * 2 ^ k) := by
    show _ = n * 2 ^ k
    rw [hx2, hqr, up_eq]
  have HQ : Hid (k = 16 * q + r) := hqr
  have hq2 : q ≤ 67108864 := by omega
  clear hqr hx2
  have HN : Hid (∀ w', Below w.heap.size w w' → ∀ j u, (cells ds)[j]? = some u → w'.cell? ((⟨g, 0, none⟩ : Addr).add j) = some u) := hnews
  clear hnews
  go_enter Tryz.func55, Tryz.ntmps55
  go_wp2_with (at_make; refine wpList_make_full _ rfl _ _ 67 rfl w.heap.size 22 i0 (.int .u64 0) 1 Tryz.underlying67 hi hz0 hz1 _ _ _ _ q rfl rfl (by omega) (by omega) (by rw [hz2]; omega) (by unfold maxLen; omega) (Nat.le_refl _) ?_)
  intro w1 hown1 hgrow1
  have hR := Row.made hown1
  have hb1 : Below w.heap.size w w1 := (Below.refl _ _).grown hgrow1 (Nat.le_refl _) (by simp)
  clear hown1 hgrow1
  go_wp2_with (at_builtin; refine wpList_append_own _ rfl _ _ 67 rfl w.heap.size 22 i0 (.int .u64 0) 1 8 Tryz.underlying67 hi hz0 hz1 hz2 rfl (by decide) _ q (cells (List.replicate q 0)) rfl hR.2.2 ⟨g, 0, none⟩ l cap (cells ds) rfl hcl (HN.out _ hb1) (cells_one _) (by unfold maxLen; omega) (by omega) hb1.size ?_)
  intro v2 w2 hown2 hgrow2 hnil2
  have hb2 : Below w.heap.size w w2 := hb1.grown hgrow2 hb1.size (by intro k hk; simp [Value.ownBlock] at hk; omega)
  have hd2 : D w2 v2 (65536 ^ q * n) (q + l) := by
    rw [cells_app] at hown2
    have := D.of_own (ownsRow_base hown2) hnil2 (up_small hsm)
    rw [up_val, hval] at this
    exact this
  clear hown2 hgrow2 hnil2
  have hd3 := hd2.below ((Below.refl w2.heap.size w2).alloc (Nat.le_refl _) (.cells #[.int .u64 (x : Int)] 22))
  have hd4 := D_one w2 x hx3
  have hb4 : Below w.heap.size w (w2.alloc (.cells #[.int .u64 (x : Int)] 22)) := hb2.alloc hb2.size _
  go_wp2_with fail
  refine (prod_any _ _ (65536 ^ q * n) (q + l) x 1 _ hd3 hd4 (by omega) (by omega)).mono ?_
  rintro e w5 ⟨v5, rfl, hd5, hb5⟩
  have hb6 : Below w.heap.size w w5 := hb4.trans (hb5.mono hb4.size)
  rw [HE.out] at hd5
  have hlen5 : dlen (n * 2 ^ k) ≤ 1073741824 := by
    have h1 := hD.lt
    have : n * 2 ^ k < 65536 ^ (l + q + 1) := by
      rw [pow16] at h1 ⊢
      have hp : 0 < 2 ^ k := Nat.two_pow_pos k
      have h2 : n * 2 ^ k < 2 ^ (16 * l) * 2 ^ k := Nat.mul_lt_mul_of_pos_right h1 hp
      rw [← Nat.pow_add] at h2
      refine Nat.lt_of_lt_of_le h2 (Nat.pow_le_pow_right (by decide) ?_)
      have := HQ.out
      omega
    have := dlen_le this
    omega
  clear hd2 hd3 hd4 hb2 hb4 hb5 hb1
  go_wp2_with fail
  refine (trim_any _ (n * 2 ^ k) _ _ hd5 hlen5).mono ?_
  rintro e w7 ⟨v7, rfl, hd7, hb7⟩
  go_wp2
  go_ret
  exact ⟨_, rfl, hd7, hb6.trans (hb7.mono hb6.size)⟩

theorem up_any (v : Value) (n l k : Nat) (w : World) (hD : D w v n l) (hl : l ≤ 134217728) (hk : k ≤ 1073741824) :
    Calls Tryz.prog 55 #[v, .int .i64 k] w fun e w' => ∃ v', e = .returned v' ∧ D w' v' (n * 2 ^ k) (dlen (n * 2 ^ k)) ∧ Below w.heap.size w w' := by
  have hp : 2 ^ (k % 16) ≤ 32768 := Nat.pow_le_pow_right (n := 2) (by decide) (show k % 16 ≤ 15 by omega)
  refine up_walk v n l k (k / 16) (k % 16) (2 ^ (k % 16)) w hD hl hk (by omega) (by omega) (by omega) (by omega) ?_ rfl (by omega)
  rw [IntKind.wrap_u64, show (2 : Int) ^ (k % 16) = ((2 ^ (k % 16) : Nat) : Int) by rw [Int.natCast_pow]; rfl]
  generalize 2 ^ (k % 16) = z at *
  omega

end Go.Proofs.YtgbajhenmamjjaaGreatDoor

/-
  The reference's Cmp and Minus.
-/
namespace Go.Proofs.YtgbajhenmamjjaaGreatDoor
set_option maxRecDepth 100000
open Go.RowKit Dg

def cmpZ (n m : Nat) : Int := if n < m then -1 else if n = m then 0 else 1

theorem high_step (n j : Nat) : n / 65536 ^ j = n / 65536 ^ (j + 1) * 65536 + dig n j := by
  unfold dig
  rw [Nat.pow_succ, ← Nat.div_div_eq_div_mul]
  omega
theorem high_lt {n m j : Nat} (h : n / 65536 ^ (j + 1) = m / 65536 ^ (j + 1)) (hd : dig n j < dig m j) : n < m := by
  have h1 := high_step n j
  have h2 := high_step m j
  rcases Nat.lt_or_ge n m with k | k
  · exact k
  · have := Nat.div_le_div_right (c := 65536 ^ j) k
    omega

set_option maxHeartbeats 1000000 in
theorem cmp_any (v u : Value) (n l m k : Nat) (w : World) (hD : D w v n l) (hE : D w u m k) (hl : l ≤ 536870912) (hk : k ≤ 536870912) :
    Calls Tryz.prog 54 #[v, u] w fun e w' => e = .returned (.int .i64 (cmpZ n m)) ∧ w' = w := by
  obtain ⟨L, hL⟩ : ∃ L, L = max l k := ⟨_, rfl⟩
  have hL1 : L ≤ 536870912 := by omega
  have hn : n < 65536 ^ L := Nat.lt_of_lt_of_le hD.lt (Nat.pow_le_pow_right (by decide) (by omega))
  have hm : m < 65536 ^ L := Nat.lt_of_lt_of_le hE.lt (Nat.pow_le_pow_right (by decide) (by omega))
  have H0 : n / 65536 ^ L = m / 65536 ^ L := by rw [Nat.div_eq_of_lt hn, Nat.div_eq_of_lt hm]
  have HL : Hid (max l k = L) := hL.symm
  clear hL
  go_enter Tryz.func54, Tryz.ntmps54
  go_wp2_with fail
  refine (most_any _ _ n l m k _ hD hE).mono ?_
  rintro e w' ⟨rfl, rfl⟩
  rw [HL.out]
  go_wp2
  go_loop [5] (fun t => ∃ (j : Nat) (i : Int), i = (j : Int) - 1 ∧ j ≤ L ∧ t = .int .i64 i ∧ n / 65536 ^ j = m / 65536 ^ j) (fun t => (intOf t + 1).toNat)
  case atStart => exact ⟨L, _, rfl, Nat.le_refl _, by go_num, H0⟩
  case round =>
    obtain ⟨j, i, hi, hj, rfl, hh⟩ := hrel
    cases j with
    | zero =>
      obtain rfl : i = -1 := by omega
      have hz : n = m := by simpa using hh
      have he : Hid (cmpZ n m = 0) := by show cmpZ n m = 0; unfold cmpZ; rw [if_neg (by omega), if_pos hz]
      clear hh hz H0 hi
      go_wp2
      go_ret
      exact ⟨by rw [he.out]; rfl, rfl⟩
    | succ j =>
      obtain rfl : i = (j : Int) := by omega
      clear hi
      obtain ⟨p, hp⟩ : ∃ p, p = dig n j := ⟨_, rfl⟩
      obtain ⟨q, hq⟩ : ∃ q, q = dig m j := ⟨_, rfl⟩
      have p1 : p < 65536 := by rw [hp]; exact dig_lt _ _
      have q1 : q < 65536 := by rw [hq]; exact dig_lt _ _
      have H1 : Hid (∀ w (J : Int), J = (j : Int) → D w v n l → Calls Tryz.prog 86 #[v, .int .i64 J] w fun e w' => e = .returned (.int .u64 p) ∧ w' = w) := by
        intro w J hJ h
        have := at_any v n l j w h (by omega)
        rw [Int.toNat_natCast, ← hp] at this
        rw [hJ]
        exact this
      have H2 : Hid (∀ w (J : Int), J = (j : Int) → D w u m k → Calls Tryz.prog 86 #[u, .int .i64 J] w fun e w' => e = .returned (.int .u64 q) ∧ w' = w) := by
        intro w J hJ h
        have := at_any u m k j w h (by omega)
        rw [Int.toNat_natCast, ← hq] at this
        rw [hJ]
        exact this
      rcases Nat.lt_trichotomy p q with c | c | c
      · have hlt : n < m := high_lt hh (by omega)
        have he : Hid (cmpZ n m = -1) := by show cmpZ n m = -1; unfold cmpZ; rw [if_pos hlt]
        clear hh hp hq H0 hlt
        go_wp2_with fail
        refine (H1.out _ _ (by omega) hD).mono ?_
        rintro e w' ⟨rfl, rfl⟩
        go_wp2_with fail
        refine (H2.out _ _ (by omega) hE).mono ?_
        rintro e w' ⟨rfl, rfl⟩
        go_wp2
        go_ret
        exact ⟨by rw [he.out]; rfl, rfl⟩
      · have hd : n / 65536 ^ j = m / 65536 ^ j := by rw [high_step n j, high_step m j, hh, ← hp, ← hq, c]
        have HH : Hid (n / 65536 ^ j = m / 65536 ^ j) := hd
        clear hh hp hq hd H0
        subst c
        go_wp2_with fail
        refine (H1.out _ _ (by omega) hD).mono ?_
        rintro e w' ⟨rfl, rfl⟩
        go_wp2_with fail
        refine (H2.out _ _ (by omega) hE).mono ?_
        rintro e w' ⟨rfl, rfl⟩
        go_wp2_with fail
        refine (H1.out _ _ (by omega) hD).mono ?_
        rintro e w' ⟨rfl, rfl⟩
        go_wp2_with fail
        refine (H2.out _ _ (by omega) hE).mono ?_
        rintro e w' ⟨rfl, rfl⟩
        go_wp2
        go_round
        case rel => exact ⟨j, _, rfl, by omega, by go_num, HH.out⟩
        case measure => simp [intOf]
      · have hlt : m < n := high_lt hh.symm (by omega)
        have he : Hid (cmpZ n m = 1) := by show cmpZ n m = 1; unfold cmpZ; rw [if_neg (by omega), if_neg (by omega)]
        clear hh hp hq H0 hlt
        go_wp2_with fail
        refine (H1.out _ _ (by omega) hD).mono ?_
        rintro e w' ⟨rfl, rfl⟩
        go_wp2_with fail
        refine (H2.out _ _ (by omega) hE).mono ?_
        rintro e w' ⟨rfl, rfl⟩
        go_wp2_with fail
        refine (H1.out _ _ (by omega) hD).mono ?_
        rintro e w' ⟨rfl, rfl⟩
        go_wp2_with fail
        refine (H2.out _ _ (by omega) hE).mono ?_
        rintro e w' ⟨rfl, rfl⟩
        go_wp2
        go_ret
        exact ⟨by rw [he.out]; rfl, rfl⟩

end Go.Proofs.YtgbajhenmamjjaaGreatDoor

/-
  The reference's Minus.
-/
namespace Go.Proofs.YtgbajhenmamjjaaGreatDoor
set_option maxRecDepth 100000
open Go.RowKit Dg

theorem minus_math {n m j c p q d f : Nat} {os : List Nat} (hp : p = dig n j) (hq : q = dig m j) (hl : os.length = j) (h : n % 65536 ^ j + 65536 ^ j * c = val os + m % 65536 ^ j) (hd : p + 65536 * f = d + (q + c)) :
    n % 65536 ^ (j + 1) + 65536 ^ (j + 1) * f = val (os ++ [d]) + m % 65536 ^ (j + 1) := by
  rw [val_snoc, hl, dig_step n j, dig_step m j, ← hp, ← hq, Nat.pow_succ]
  have e : 65536 ^ j * p + 65536 ^ j * 65536 * f = 65536 ^ j * d + 65536 ^ j * q + 65536 ^ j * c := by
    rw [Nat.mul_assoc, ← Nat.mul_add, hd]
    grind
  omega

theorem minus_end {w : World} {v : Value} {os : List Nat} {n m j c L : Nat} (h : w.ownsRow 0 22 1 v j (cells os)) (hnil : v ≠ .slice none 0 0) (hs : Small16 os) (hl : os.length = j) (hj : j = L)
    (hn : n < 65536 ^ L) (hm : m ≤ n) (hv : n % 65536 ^ j + 65536 ^ j * c = val os + m % 65536 ^ j) : D w v (n - m) j := by
  have hd := D.of_own h hnil hs
  have h2 := val_lt os hs
  rw [hl] at h2
  rw [hj, Nat.mod_eq_of_lt hn, Nat.mod_eq_of_lt (by omega)] at hv
  have hc : c = 0 := by
    rcases Nat.eq_zero_or_pos c with k | k
    · exact k
    · have := Nat.le_mul_of_pos_right (65536 ^ L) k
      rw [hj] at h2
      omega
  rw [hc] at hv
  have : val os = n - m := by omega
  rw [this] at hd
  exact hd

theorem nil_ne {w : World} {B e n : Nat} {v : Value} {xs : List Value} (h : w.ownsRow B e 1 v (n + 1) xs) : v ≠ .slice none 0 0 := by
  intro k
  subst k
  rcases h.2 with ⟨_, k⟩ | ⟨g, cap, cur, k, _⟩
  · simp at k
  · simp at k

set_option maxHeartbeats 1000000 in
theorem minus_any (v u : Value) (n l m k : Nat) (w : World) (hD : D w v n l) (hE : D w u m k) (hl : l ≤ 536870912) (hm : m ≤ n) :
    Calls Tryz.prog 105 #[v, u] w fun e w' => ∃ v', e = .returned v' ∧ D w' v' (n - m) (dlen (n - m)) ∧ Below w.heap.size w w' := by
  obtain ⟨i0, hi, hz0, hz1, hz2⟩ := info_parts infoU
  have hn := hD.lt
  have hsh := hD.shape
  obtain ⟨g, cap, rfl, hg, hlc, hcm, -⟩ := hsh
  unfold maxLen at hcm
  go_enter Tryz.func105, Tryz.ntmps105
  go_wp2
  go_loopw [5, 6, 7] (fun o c i wr => ∃ (j cc : Nat) (os : List Nat), j ≤ l ∧ i = .int .i64 j ∧ c = .int .u64 cc ∧ cc ≤ 1 ∧ os.length = j ∧ Small16 os ∧ n % 65536 ^ j + 65536 ^ j * cc = val os + m % 65536 ^ j ∧
      wr.ownsRow w.heap.size 22 1 o j (cells os) ∧ o ≠ .slice none 0 0 ∧ Below w.heap.size w wr ∧ w.heap.size ≤ wr.heap.size ∧ D wr (.slice (some ⟨g, 0, none⟩) l cap) n l ∧ D wr u m k) (fun _ _ i _ => l - (intOf i).toNat)
  case atStart =>
    exact ⟨0, 0, [], Nat.zero_le _, rfl, rfl, by omega, rfl, by intro x hx; simp at hx, by simp [val, Nat.mod_one], World.ownsRow_made w #[] 0 (Nat.le_refl _) (by decide) rfl, by simp, (Below.refl _ _).alloc (Nat.le_refl _) _, by simp, hD.below ((Below.refl _ _).alloc (Nat.le_refl _) _), hE.below ((Below.refl _ _).alloc (Nat.le_refl _) _)⟩
  case round =>
    obtain ⟨j, cc, os, hj, rfl, rfl, hc1, hlen, hsm, hval, hown, hnil, hbel, hsz, hDr, hEr⟩ := hrel
    have HV : Hid (n % 65536 ^ j + 65536 ^ j * cc = val os + m % 65536 ^ j) := hval
    clear hval
    by_cases hlt : j < l
    · obtain ⟨p, hp⟩ : ∃ p, p = dig n j := ⟨_, rfl⟩
      obtain ⟨q, hq⟩ : ∃ q, q = dig m j := ⟨_, rfl⟩
      have p1 : p < 65536 := by rw [hp]; exact dig_lt _ _
      have q1 : q < 65536 := by rw [hq]; exact dig_lt _ _
      obtain ⟨f, hf⟩ : ∃ f, f = if p < q + cc then 1 else 0 := ⟨_, rfl⟩
      obtain ⟨d, hd⟩ : ∃ d, d = p + 65536 * f - (q + cc) := ⟨_, rfl⟩
      have hpd : p + 65536 * f = d + (q + cc) := by rw [hd, hf]; split <;> omega
      have hM := minus_math hp hq hlen HV.out hpd
      have HM : Hid (n % 65536 ^ (j + 1) + 65536 ^ (j + 1) * f = val (os ++ [d]) + m % 65536 ^ (j + 1)) := hM
      have d1 : d < 65536 := by rw [hd, hf]; split <;> omega
      have f1 : f ≤ 1 := by rw [hf]; split <;> omega
      have hcell : wr.cell? ⟨g, j, none⟩ = some (.int .u64 (p : Int)) := by rw [hp]; exact hDr.shape_cell rfl hlt
      have H2 : Hid (∀ w, D w u m k → Calls Tryz.prog 86 #[u, .int .i64 j] w fun e w' => e = .returned (.int .u64 q) ∧ w' = w) := by
        intro w h
        have := at_any u m k j w h (by omega)
        rw [Int.toNat_natCast, ← hq] at this
        exact this
      have hs2 := small_snoc hsm d1
      clear hp hq hM hd
      by_cases hlow : p < q + cc
      · rw [if_pos hlow] at hf
        subst hf
        have hd2 : (p : Int) + 65536 - ((q : Int) + (cc : Int)) = (d : Int) := by omega
        have HD2 : Hid ((p : Int) + 65536 - ((q : Int) + (cc : Int)) = (d : Int)) := hd2
        clear hpd hd2
        go_wp2_with fail
        go_quiet ((go_at_call 86; refine Calls.quiet_of_same (H2.out _ ?_); exact hEr))
        have hownq : (wr.drewN nq).ownsRow w.heap.size 22 1 u5 j (cells os) := hown
        have hbq : Below w.heap.size w (wr.drewN nq) := below_drewN hbel nq
        have hszq : w.heap.size ≤ (wr.drewN nq).heap.size := hsz
        clear hcell hEr hDr hown hbel hsz
        generalize wr.drewN nq = wq at *
        have hd2 := HD2.out
        go_wp2_with (at_builtin; refine wpList_append_own _ rfl _ _ 67 rfl w.heap.size 22 i0 (.int .u64 0) 1 8 Tryz.underlying67 hi hz0 hz1 hz2 rfl (by decide) _ j (cells os) rfl (hownq.alloc _) ⟨wq.heap.size, 0, none⟩ 1 1 [.int .u64 (d : Int)] rfl rfl (one_new _ _ _) (by intro x hx; simp at hx; subst hx; rfl) (by unfold maxLen; omega) (by omega) (by simp; omega) ?_)
        intro v' w1 hown' hgrow _
        have R := sum_step hownq hbq hszq hown' hgrow
        have hD1 := hD.below R.2.1
        have hE1 := hE.below R.2.1
        clear hown' hgrow hownq hbq hszq
        go_wp2
        go_roundw
        case rel => exact ⟨j + 1, 1, os ++ [d], by omega, by go_num, rfl, f1, by simp [hlen], hs2, HM.out, R.1, nil_ne R.1, R.2.1, R.2.2, hD1, hE1⟩
        case measure => simp [intOf]; omega
      · rw [if_neg hlow] at hf
        subst hf
        have hd2 : (p : Int) - ((q : Int) + (cc : Int)) = (d : Int) := by omega
        have HD2 : Hid ((p : Int) - ((q : Int) + (cc : Int)) = (d : Int)) := hd2
        clear hpd hd2
        go_wp2_with fail
        go_quiet ((go_at_call 86; refine Calls.quiet_of_same (H2.out _ ?_); exact hEr))
        have hownq : (wr.drewN nq).ownsRow w.heap.size 22 1 u5 j (cells os) := hown
        have hbq : Below w.heap.size w (wr.drewN nq) := below_drewN hbel nq
        have hszq : w.heap.size ≤ (wr.drewN nq).heap.size := hsz
        clear hcell hEr hDr hown hbel hsz
        generalize wr.drewN nq = wq at *
        have hd2 := HD2.out
        go_wp2_with (at_builtin; refine wpList_append_own _ rfl _ _ 67 rfl w.heap.size 22 i0 (.int .u64 0) 1 8 Tryz.underlying67 hi hz0 hz1 hz2 rfl (by decide) _ j (cells os) rfl (hownq.alloc _) ⟨wq.heap.size, 0, none⟩ 1 1 [.int .u64 (d : Int)] rfl rfl (one_new _ _ _) (by intro x hx; simp at hx; subst hx; rfl) (by unfold maxLen; omega) (by omega) (by simp; omega) ?_)
        intro v' w1 hown' hgrow _
        have R := sum_step hownq hbq hszq hown' hgrow
        have hD1 := hD.below R.2.1
        have hE1 := hE.below R.2.1
        clear hown' hgrow hownq hbq hszq
        go_wp2
        go_roundw
        case rel => exact ⟨j + 1, 0, os ++ [d], by omega, by go_num, rfl, f1, by simp [hlen], hs2, HM.out, R.1, nil_ne R.1, R.2.1, R.2.2, hD1, hE1⟩
        case measure => simp [intOf]; omega
    · have HJ : j = l := by omega
      have hd : D wr u5 (n - m) j := minus_end (ownsRow_base hown) hnil hsm hlen HJ hn hm HV.out
      have hb := hbel
      clear hown hbel hsz HJ
      go_wp2_with fail
      refine (trim_any _ (n - m) j _ hd (by omega)).mono ?_
      rintro e w2 ⟨v2, rfl, hd2, hb2⟩
      go_wp2
      go_ret
      exact ⟨_, rfl, hd2, hb.trans (hb2.mono hb.size)⟩

end Go.Proofs.YtgbajhenmamjjaaGreatDoor

/-
  Parts of 32 bits in memory, and the walks of the landed functions over them: trimmed, partsOf, timesAnd, bitLen, compare, minus.
-/
namespace Go.Proofs.YtgbajhenmamjjaaGreatDoor
set_option maxRecDepth 100000
open Go.RowKit Pt

theorem info32 : (Tryz.prog.info? 90).map (fun i => (i.zero, i.size, i.bytes)) = some (some (.int .u32 0), 1, 4) := by kernel_rfl

def c32 (ds : List Nat) : List Value := ds.map fun (d : Nat) => Value.int .u32 (d : Int)
/-- The slice v, all of block g's beginning, holds the parts ds. -/
def PU (w : World) (g : Nat) (v : Value) (ds : List Nat) : Prop :=
  ∃ cap, v = .slice (some ⟨g, 0, none⟩) ds.length cap ∧ Sm ds ∧ w.ownsRow 0 90 1 v ds.length (c32 ds)
/-- The slice v holds the number n, without noughts at the top. -/
def PR (w : World) (g : Nat) (v : Value) (n : Nat) : Prop := ∃ ds, PU w g v ds ∧ pv ds = n ∧ Tr ds

theorem c32_length (ds : List Nat) : (c32 ds).length = ds.length := by unfold c32; simp
theorem c32_set (ds : List Nat) (j d : Nat) : (c32 ds).set j (.int .u32 (d : Int)) = c32 (ds.set j d) := by unfold c32; rw [List.map_set]
theorem c32_one (ds : List Nat) : ∀ u ∈ c32 ds, u.oneCell' = true := by
  intro u hu
  unfold c32 at hu
  obtain ⟨d, _, rfl⟩ := List.mem_map.1 hu
  rfl
theorem PU.lt {w : World} {g : Nat} {v : Value} {ds : List Nat} (h : PU w g v ds) : g < w.heap.size := by
  obtain ⟨cap, rfl, _, h3⟩ := h
  exact (h3.lt g rfl).2
theorem PR.lt {w : World} {g : Nat} {v : Value} {n : Nat} (h : PR w g v n) : g < w.heap.size := by
  obtain ⟨ds, h1, _⟩ := h; exact h1.lt
theorem PU.cap {w : World} {g cap k : Nat} {ds : List Nat} (h : PU w g (.slice (some ⟨g, 0, none⟩) k cap) ds) : k = ds.length ∧ k ≤ cap ∧ cap ≤ maxLen := by
  obtain ⟨cap', e, _, h3⟩ := h
  simp at e
  rcases h3.2 with ⟨k, _⟩ | ⟨g', cap', cur, e2, _, _, r1, r2, _⟩
  · simp at k
  · simp at e2
    obtain ⟨rfl, rfl⟩ := e
    exact ⟨rfl, by omega, by omega⟩
theorem PU.cell {w : World} {g : Nat} {v : Value} {ds : List Nat} (h : PU w g v ds) {j : Nat} (hj : j < ds.length) : w.cell? ⟨g, j, none⟩ = some (.int .u32 (ds.getD j 0 : Nat)) := by
  obtain ⟨cap, rfl, _, h3⟩ := h
  rw [h3.cellAt j (by omega), c32, List.getElem?_map, List.getElem?_eq_getElem hj, List.getD_eq_getElem?_getD, List.getElem?_eq_getElem hj]
  rfl
theorem PU.frozen {w : World} {g : Nat} {v : Value} {ds : List Nat} (h : PU w g v ds) (j : Nat) : w.frozen? ⟨g, j, none⟩ = false := by
  obtain ⟨cap, rfl, _, h3⟩ := h
  exact h3.frozenAt j
theorem PU.stored {w : World} {g : Nat} {v : Value} {ds : List Nat} (h : PU w g v ds) {j d : Nat} (hd : d < 4294967296) : PU (w.setCell ⟨g, j, none⟩ (.int .u32 (d : Int))) g v (ds.set j d) := by
  obtain ⟨cap, rfl, h2, h3⟩ := h
  refine ⟨cap, by rw [List.length_set], sm_set h2 hd, ?_⟩
  have := (h3.stored j (.int .u32 (d : Int))).1
  rw [c32_set] at this
  rw [List.length_set]
  exact this
theorem ownsRow_far {w w' : World} {e s n g : Nat} {v : Value} {xs : List Value} (h : w.ownsRow 0 e s v n xs) (hg : w'.heap[g]? = w.heap[g]?) (hv : v.ownBlock = some g) : w'.ownsRow 0 e s v n xs := by
  refine ⟨h.1, ?_⟩
  rcases h.2 with hn | ⟨g', cap, cur, rfl, h0, hg', rest⟩
  · exact .inl hn
  · refine .inr ⟨g', cap, cur, rfl, h0, ?_, rest⟩
    have e : g' = g := by simpa [Value.ownBlock] using hv
    rw [e, hg, ← e]
    exact hg'
theorem PU.other {w w' : World} {g b : Nat} {v : Value} {ds : List Nat} (h : PU w g v ds) (hg : w.grownBy w' (some b)) (hb : g ≠ b) : PU w' g v ds := by
  have hl := h.lt
  obtain ⟨cap, rfl, h2, h3⟩ := h
  exact ⟨cap, rfl, h2, ownsRow_far h3 (hg.block g hl (by simpa using hb)) rfl⟩
theorem PR.other {w w' : World} {g b : Nat} {v : Value} {n : Nat} (h : PR w g v n) (hg : w.grownBy w' (some b)) (hb : g ≠ b) : PR w' g v n := by
  obtain ⟨ds, h1, h2⟩ := h
  exact ⟨ds, h1.other hg hb, h2⟩
theorem PU.below {w w' : World} {B g : Nat} {v : Value} {ds : List Nat} (h : PU w g v ds) (hg : Below B w w') (hb : g < B) : PU w' g v ds := by
  obtain ⟨cap, rfl, h2, h3⟩ := h
  exact ⟨cap, rfl, h2, ownsRow_far h3 (hg.block g hb) rfl⟩
theorem PR.below {w w' : World} {B g : Nat} {v : Value} {n : Nat} (h : PR w g v n) (hg : Below B w w') (hb : g < B) : PR w' g v n := by
  obtain ⟨ds, h1, h2⟩ := h
  exact ⟨ds, h1.below hg hb, h2⟩
theorem PU.take {w : World} {g k cap : Nat} {ds : List Nat} (h : PU w g (.slice (some ⟨g, 0, none⟩) ds.length cap) ds) (hk : k ≤ ds.length) : PU w g (.slice (some ⟨g, 0, none⟩) k cap) (ds.take k) := by
  obtain ⟨cap', e, h2, h3⟩ := h
  have hl : (ds.take k).length = k := by rw [List.length_take]; omega
  refine ⟨cap, by rw [hl], sm_take k h2, ?_⟩
  rw [hl]
  refine ⟨by rw [c32_length, hl]; omega, ?_⟩
  rcases h3.2 with ⟨c, _⟩ | ⟨g', cap2, cur, e2, h0, hg, r1, r2, r3, r4⟩
  · simp at c
  · simp at e2
    obtain ⟨rfl, rfl⟩ := e2
    refine .inr ⟨g, cap, cur, rfl, h0, hg, by omega, r2, r3, ?_⟩
    have : List.take (k * 1) cur.toList = List.take (k * 1) (List.take (ds.length * 1) cur.toList) := by rw [List.take_take, Nat.min_eq_left (by omega)]
    rw [this, r4, Nat.mul_one]
    unfold c32
    rw [List.map_take]
theorem gb_refl (w : World) (r : Option Nat) : w.grownBy w r := ⟨rfl, rfl, rfl, Nat.le_refl _, fun _ _ _ => rfl⟩
theorem gb_trans {a b c : World} {r : Option Nat} (h : a.grownBy b r) (k : b.grownBy c r) : a.grownBy c r :=
  ⟨k.os.trans h.os, k.tape.trans h.tape, k.output.trans h.output, Nat.le_trans h.size k.size, fun i hi hn => (k.block i (Nat.lt_of_lt_of_le hi h.size) hn).trans (h.block i hi hn)⟩
theorem gb_new {a b c : World} {g g' : Nat} (h : a.grownBy b (some g)) (k : b.grownBy c (some g')) (hg : g' = g ∨ a.heap.size ≤ g') : a.grownBy c (some g) :=
  ⟨k.os.trans h.os, k.tape.trans h.tape, k.output.trans h.output, Nat.le_trans h.size k.size, fun i hi hn =>
    (k.block i (Nat.lt_of_lt_of_le hi h.size) (by
      rcases hg with e | e
      · rw [e]; exact hn
      · intro c; simp at c; omega)).trans (h.block i hi hn)⟩
theorem gb_set (w : World) (g j : Nat) (u : Value) : w.grownBy (w.setCell ⟨g, j, none⟩ u) (some g) :=
  ⟨rfl, rfl, rfl, by simp, fun k _ hk => Below.heap_setCell w ⟨g, j, none⟩ u k (fun e => hk (by rw [e]))⟩
theorem gb_drew {a b : World} {r : Option Nat} (h : a.grownBy b r) (n : Nat) : a.grownBy (b.drewN n) r := ⟨h.os, h.tape, h.output, h.size, h.block⟩

theorem borrow_bits {x y d b b2 : Nat} (hx : x < 4294967296) (hy : y < 4294967296) (hd : d < 4294967296) (hb : b ≤ 1) (hb2 : b2 ≤ 1) (h : d + y + b = x + 4294967296 * b2) :
    (((4294967295 ^^^ x) &&& y) ||| ((4294967295 ^^^ (x ^^^ y)) &&& d)) / 2147483648 = b2 := by
  rw [show (2147483648 : Nat) = 2 ^ 31 from rfl, ← Nat.shiftRight_eq_div_pow, Nat.shiftRight_or_distrib, Nat.shiftRight_and_distrib, Nat.shiftRight_and_distrib, Nat.shiftRight_xor_distrib, Nat.shiftRight_xor_distrib, Nat.shiftRight_xor_distrib]
  simp only [Nat.shiftRight_eq_div_pow]
  have e1 : x / 2 ^ 31 = 0 ∨ x / 2 ^ 31 = 1 := by omega
  have e2 : y / 2 ^ 31 = 0 ∨ y / 2 ^ 31 = 1 := by omega
  have e3 : d / 2 ^ 31 = 0 ∨ d / 2 ^ 31 = 1 := by omega
  have e4 : b2 = 0 ∨ b2 = 1 := by omega
  rcases e1 with e1 | e1 <;> rcases e2 with e2 | e2 <;> rcases e3 with e3 | e3 <;> rcases e4 with e4 | e4 <;> rw [e1, e2, e3, e4] <;> first | decide | (exfalso; omega)
theorem borrow_int {x y d b b2 : Nat} (hx : x < 4294967296) (hy : y < 4294967296) (hd : d < 4294967296) (hb : b ≤ 1) (hb2 : b2 ≤ 1) (h : d + y + b = x + 4294967296 * b2) :
    bits .or .u32 (bits .and .u32 (bits .xor .u32 IntKind.u32.max (x : Int)) (y : Int)) (bits .and .u32 (bits .xor .u32 IntKind.u32.max (bits .xor .u32 (x : Int) (y : Int))) (d : Int)) / 2147483648 = (b2 : Int) := by
  have x1 : 4294967295 ^^^ x < 2 ^ 32 := Nat.xor_lt_two_pow (by decide) hx
  have x2 : x ^^^ y < 2 ^ 32 := Nat.xor_lt_two_pow hx hy
  have x3 : 4294967295 ^^^ (x ^^^ y) < 2 ^ 32 := Nat.xor_lt_two_pow (by decide) x2
  have x4 : (4294967295 ^^^ x) &&& y < 2 ^ 32 := Nat.and_lt_two_pow _ hy
  have x5 : (4294967295 ^^^ (x ^^^ y)) &&& d < 2 ^ 32 := Nat.and_lt_two_pow _ hd
  rw [show IntKind.u32.max = ((4294967295 : Nat) : Int) from rfl, u32_xor_nat x y hx hy, u32_xor_nat _ _ (by decide) hx, u32_xor_nat _ _ (by decide) x2, u32_and_nat _ _ x1 hy, u32_and_nat _ _ x3 hd, u32_or_nat _ _ x4 x5]
  rw [show (2147483648 : Int) = ((2147483648 : Nat) : Int) from rfl, ← Int.natCast_ediv, borrow_bits hx hy hd hb hb2 h]
set_option maxHeartbeats 400000 in
theorem sub32_any (x y b d b2 : Nat) (w : World) (hx : x < 4294967296) (hy : y < 4294967296) (hb : b ≤ 1) (hd : d < 4294967296) (hb2 : b2 ≤ 1) (h : d + y + b = x + 4294967296 * b2) :
    Calls Tryz.prog 98 #[.int .u32 x, .int .u32 y, .int .u32 b] w fun e w' => e = .returned (.tuple #[.int .u32 (d : Int), .int .u32 (b2 : Int)]) ∧ w' = w := by
  have t1 : ((x : Int) - (y : Int) - (b : Int)) % 4294967296 = (d : Int) := by omega
  have t2 := borrow_int hx hy hd hb hb2 h
  clear h
  go_enter Tryz.func98, Tryz.ntmps98
  go_wp2
  go_ret2
  exact ⟨rfl, rfl⟩

set_option maxHeartbeats 400000 in
theorem trimmed_any (g cap : Nat) (ds : List Nat) (w : World) (hP : PU w g (.slice (some ⟨g, 0, none⟩) ds.length cap) ds) :
    Calls Tryz.prog 95 #[.slice (some ⟨g, 0, none⟩) ds.length cap] w fun e w' => ∃ v', e = .returned v' ∧ PR w g v' (pv ds) ∧ w' = w := by
  obtain ⟨l, hl⟩ : ∃ l, l = ds.length := ⟨_, rfl⟩
  have hc := hP.cap.2
  have hcm := hc.2
  unfold maxLen at hcm
  have HC : Hid (∀ j, j < ds.length → w.cell? ⟨g, j, none⟩ = some (.int .u32 (ds.getD j 0 : Nat))) := fun j hj => hP.cell hj
  have hlc := hc.1
  rw [← hl] at HC hlc ⊢
  have HP : Hid (∀ k, k ≤ l → PU w g (.slice (some ⟨g, 0, none⟩) k cap) (ds.take k)) := fun k hk => hP.take (by omega)
  clear hP hc
  go_enter Tryz.func95, Tryz.ntmps95
  go_wp2_with fail
  go_loop [0] (fun t => ∃ k : Nat, k ≤ l ∧ t = .slice (some ⟨g, 0, none⟩) k cap ∧ pv (ds.take k) = pv ds) (fun t => match t with | .slice _ k _ => k | _ => 0)
  case atStart => exact ⟨l, Nat.le_refl _, rfl, by rw [take_all hl]⟩
  case round =>
    obtain ⟨k, hk, rfl, hn⟩ := hrel
    cases k with
    | zero =>
      go_wp2
      go_ret
      exact ⟨_, rfl, ⟨_, HP.out 0 (Nat.zero_le _), hn, Or.inl (by simp)⟩, rfl⟩
    | succ k =>
      have hcl := HC.out k (by omega)
      have HN : Hid (pv (ds.take (k + 1)) = pv ds) := hn
      clear hn
      by_cases c : ds.getD k 0 = 0
      · rw [c] at hcl
        go_wp2
        go_round
        case rel => exact ⟨k, by omega, rfl, trim_step HN.out c⟩
        case measure => simp
      · obtain ⟨d, hd⟩ : ∃ d, d = ds.getD k 0 := ⟨_, rfl⟩
        rw [← hd] at hcl
        have hcz : ((d : Int) == 0) = false := by rw [beq_eq_false_iff_ne]; omega
        have HR : Hid (PR w g (.slice (some ⟨g, 0, none⟩) (k + 1) cap) (pv ds)) := ⟨_, HP.out (k + 1) hk, HN.out, trim_end (by omega) c⟩
        clear hd c
        go_wp2
        go_ret
        exact ⟨_, rfl, HR.out, rfl⟩

end Go.Proofs.YtgbajhenmamjjaaGreatDoor
