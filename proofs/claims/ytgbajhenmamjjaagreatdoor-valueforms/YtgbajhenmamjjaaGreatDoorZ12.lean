/-
  DecTen, DecNear
-/
import Derived.Test.YtgbajhenmamjjaaGreatDoorZ11

/-
  Powers of ten: what the reference's Ten will need.
-/
namespace Go.Proofs.YtgbajhenmamjjaaGreatDoor
set_option maxRecDepth 100000
open Go.RowKit Dg Flo

theorem pow_ten_lt (n : Nat) : 10 ^ n ≤ 2 ^ (4 * n) := by
  rw [Nat.pow_mul]; exact Nat.pow_le_pow_left (by decide) n
theorem dlen_ten {N n L : Nat} (h : N ≤ 10 ^ n) (hL : 4 * n + 1 ≤ 16 * L) : dlen N ≤ L := by
  refine dlen_pow (K := 4 * n + 1) ?_ hL
  have := pow_ten_lt n
  rw [Nat.pow_succ]
  have := Nat.two_pow_pos (4 * n)
  omega
theorem ten_step_odd {N P k T : Nat} (h : N * P ^ k = T) (hk : k % 2 = 1) : N * P * (P * P) ^ (k / 2) = T := by
  rw [← h]
  have e : k = 1 + 2 * (k / 2) := by omega
  conv => rhs; rw [e, Nat.pow_add, Nat.pow_mul, Nat.pow_one, Nat.pow_two]
  rw [Nat.mul_assoc]
theorem ten_step_even {N P k T : Nat} (h : N * P ^ k = T) (hk : k % 2 = 0) : N * (P * P) ^ (k / 2) = T := by
  rw [← h]
  have e : k = 2 * (k / 2) := by omega
  conv => rhs; rw [e, Nat.pow_mul, Nat.pow_two]
theorem ten_parts {N P k T : Nat} (h : N * P ^ k = T) (hT : 0 < T) : 0 < N ∧ N ≤ T ∧ (0 < k → P ≤ T) := by
  have hN : 0 < N := by
    rcases Nat.eq_zero_or_pos N with c | c
    · rw [c, Nat.zero_mul] at h; omega
    · exact c
  have hP : 0 < P ^ k := by
    rcases Nat.eq_zero_or_pos (P ^ k) with c | c
    · rw [c, Nat.mul_zero] at h; omega
    · exact c
  refine ⟨hN, ?_, ?_⟩
  · rw [← h]; exact Nat.le_mul_of_pos_right _ hP
  · intro hk
    have h1 : P ≤ P ^ k := by
      rcases Nat.eq_zero_or_pos P with c | c
      · omega
      · exact Nat.le_pow hk
    exact Nat.le_trans h1 (by rw [← h]; exact Nat.le_mul_of_pos_left _ hN)

set_option maxHeartbeats 1000000 in
theorem ten_any (n : Nat) (w : World) (hn : n ≤ 2000) : Calls Tryz.prog 83 #[.int .i64 (n : Int)] w fun e w' => ∃ v l, e = .returned v ∧ D w' v (10 ^ n) l ∧ l ≤ 1001 ∧ Below w.heap.size w w' := by
  have hT : 0 < 10 ^ n := Nat.pow_pos (by decide)
  have HL : Hid (∀ N, N ≤ 10 ^ n → dlen N ≤ 1000) := fun N h => dlen_ten h (by omega)
  have HP : Hid (∀ P, P ≤ 10 ^ n → dlen (P * P) ≤ 1001) := by
    intro P h
    have : P * P ≤ 10 ^ (n + n) := by rw [Nat.pow_add]; exact Nat.mul_le_mul h h
    exact dlen_ten this (by omega)
  obtain ⟨T, hTe⟩ : ∃ T, 10 ^ n = T := ⟨_, rfl⟩
  have H0 : Hid (1 * 10 ^ n = T) := by show 1 * 10 ^ n = T; rw [Nat.one_mul, hTe]
  rw [hTe] at hT HL HP ⊢
  clear hTe
  have hd1 := D_one w 1 (by decide)
  have hd2 := D_one (w.alloc (.cells #[.int .u64 ((1 : Nat) : Int)] 22)) 10 (by decide)
  have hs : (w.alloc (.cells #[.int .u64 ((1 : Nat) : Int)] 22)).heap.size = w.heap.size + 1 := by simp
  have hd3 := hd1.below ((Below.refl (w.alloc (.cells #[.int .u64 ((1 : Nat) : Int)] 22)).heap.size (w.alloc (.cells #[.int .u64 ((1 : Nat) : Int)] 22))).alloc (Nat.le_refl _) (.cells #[.int .u64 ((10 : Nat) : Int)] 22))
  have hb1 : Below w.heap.size w (w.alloc (.cells #[.int .u64 ((1 : Nat) : Int)] 22)) := (Below.refl _ _).alloc (Nat.le_refl _) _
  have hb2 : Below w.heap.size w ((w.alloc (.cells #[.int .u64 ((1 : Nat) : Int)] 22)).alloc (.cells #[.int .u64 ((10 : Nat) : Int)] 22)) := hb1.alloc hb1.size _
  rw [hs] at hd2
  clear hd1 hb1 hs
  go_enter Tryz.func83, Tryz.ntmps83
  go_wp2_with fail
  go_loopw [0, 3, 4] (fun t o p wr => ∃ (k N P lo lp : Nat), k ≤ 2000 ∧ t = .int .i64 k ∧ D wr o N lo ∧ D wr p P lp ∧ lo ≤ 1001 ∧ lp ≤ 1001 ∧ Hid (N * P ^ k = T) ∧ Below w.heap.size w wr) (fun t _ _ _ => (intOf t).toNat)
  case atStart => exact ⟨n, 1, 10, 1, 1, hn, rfl, hd3, hd2, by decide, by decide, H0, hb2⟩
  case round =>
    obtain ⟨k, N, P, lo, lp, hk, rfl, hdo, hdp, hlo, hlp, HI, hbr⟩ := hrel
    obtain ⟨n1, n2, n3⟩ := ten_parts HI.out hT
    by_cases c : k = 0
    · subst c
      have e : N = T := by have := HI.out; rw [Nat.pow_zero, Nat.mul_one] at this; exact this
      subst e
      clear HI n1 n2 n3
      go_wp2
      go_ret
      exact ⟨_, lo, rfl, hdo, hlo, hbr⟩
    · have hP := HP.out P (n3 (by omega))
      have hk2 : 0 < k := by omega
      by_cases d : k % 2 = 1
      · have d1 : (k : Int) % 2 = 1 := by omega
        have HN : Hid (N * P * (P * P) ^ (k / 2) = T) := ten_step_odd HI.out d
        have hlN : dlen (N * P) ≤ 1001 := Nat.le_trans (HL.out _ (ten_parts HN.out hT).2.1) (by decide)
        clear HI n1 n2 n3
        go_wp2_with fail
        refine (prod_any _ _ N lo P lp _ hdo hdp (by omega) (by omega)).mono ?_
        rintro e w1 ⟨v1, rfl, hd1, hb1⟩
        have hdp1 := hdp.below hb1
        replace hb1 := hbr.trans (hb1.mono hbr.size)
        go_wp2_with fail
        refine (prod_any _ _ P lp P lp _ hdp1 hdp1 (by omega) (by omega)).mono ?_
        rintro e w2 ⟨v2, rfl, hd4, hb4⟩
        have hd5 := hd1.below hb4
        replace hb4 := hb1.trans (hb4.mono hb1.size)
        go_wp2
        go_roundw
        case rel => exact ⟨k / 2, N * P, P * P, _, _, by omega, by go_num, hd5, hd4, hlN, hP, HN, hb4⟩
        case measure => simp [intOf]; omega
      · have d1 : (k : Int) % 2 = 0 := by omega
        have HN : Hid (N * (P * P) ^ (k / 2) = T) := ten_step_even HI.out (by omega)
        clear HI n1 n2 n3
        go_wp2_with fail
        refine (prod_any _ _ P lp P lp _ hdp hdp (by omega) (by omega)).mono ?_
        rintro e w2 ⟨v2, rfl, hd4, hb4⟩
        have hd5 := hdo.below hb4
        replace hb4 := hbr.trans (hb4.mono hbr.size)
        go_wp2
        go_roundw
        case rel => exact ⟨k / 2, N, P * P, _, _, by omega, by go_num, hd5, hd4, hlo, hP, HN, hb4⟩
        case measure => simp [intOf]; omega

end Go.Proofs.YtgbajhenmamjjaaGreatDoor

/-
  The landed nearest, walked; read of any text.
-/
namespace Go.Proofs.YtgbajhenmamjjaaGreatDoor
set_option maxRecDepth 100000
open Go.RowKit Pt Flo Txt

/-- Read of any text. -/
theorem read_none (l : List UInt8) (w : World) (hl : l.length ≤ 400) (h : numL l = none) :
    Calls Tryz.prog 93 #[.string (bs l)] w fun e w' => e = .returned (.tuple #[.agg #[.string ⟨#[]⟩, .int .i64 0], .bool false]) ∧ Below w.heap.size w w' := by
  have HC : ∀ w, Calls Tryz.prog 108 #[.string (bs l)] w fun e w' => e = .returned (.tuple #[.string (bs (Txt.dig l)), .string (bs (rst l))]) ∧ ∃ q, w' = w.drewN q := fun w => cut_any l w (by omega)
  have hlen := congrArg List.length (dig_rst l)
  rw [List.length_append] at hlen
  unfold numL at h
  by_cases e1 : Txt.dig l = []
  · exact read_A _ _ _ w HC (by rw [emp_bs, e1]; rfl)
  · have he : (bs (Txt.dig l)).toList.isEmpty = false := by rw [emp_bs]; simpa using e1
    rw [if_neg e1] at h
    generalize hr : rst l = R at *
    cases R with
    | nil => simp at h
    | cons c r =>
      simp only [List.length_cons] at hlen
      have hsz : (bs (c :: r)).size = r.length + 1 := bs_size _
      have HPr : ∀ w, Calls Tryz.prog 73 #[.string (bs (c :: r)), .string ⟨#[46]⟩] w fun e w' => e = .returned (.bool (hp 46 (c :: r))) ∧ w' = w := fun w => pref_any (c :: r) 46 w (by simp; omega)
      by_cases c46 : c.toNat = 46
      · have e2 : hp 46 (c :: r) = true := byte_eq c46
        rw [e2] at HPr
        simp only [c46, if_true] at h
        have HC2 : ∀ w, Calls Tryz.prog 108 #[.string (bs r)] w fun e w' => e = .returned (.tuple #[.string (bs (Txt.dig r)), .string (bs (rst r))]) ∧ ∃ q, w' = w.drewN q := fun w => cut_any r w (by omega)
        have hlen2 := congrArg List.length (dig_rst r)
        rw [List.length_append] at hlen2
        by_cases e3 : Txt.dig r = []
        · exact read_D _ _ _ _ _ _ w HC he HPr (by omega) (by omega) (bs_tail c r) HC2 (by rw [emp_bs, e3]; rfl)
        · have hb : (bs (Txt.dig r)).toList.isEmpty = false := by rw [emp_bs]; simpa using e3
          rw [if_neg e3] at h
          generalize hr2 : rst r = R2 at *
          cases R2 with
          | nil => simp [Txt.expo] at h
          | cons d q =>
            have hx : Txt.expo (d :: q) = none := by simpa using h
            have HE : ∀ w, Calls Tryz.prog 109 #[.string (bs (d :: q))] w fun e w' => e = .returned (.tuple #[.int .i64 0, .bool false]) ∧ ∃ q, w' = w.drewN q := fun w => by
              have := readExp_any d q w (by simp only [List.length_cons] at hlen2; omega)
              rw [hx] at this
              exact this
            exact read_Fn _ _ _ _ _ _ 0 w HC he HPr (by omega) (by omega) (bs_tail c r) HC2 hb (by rw [bs_size]; omega) (by rw [bs_size]; omega) (by rw [emp_bs]; rfl) HE
      · have e2 : hp 46 (c :: r) = false := byte_ne c46
        rw [e2] at HPr
        simp only [c46, if_false] at h
        have hx : Txt.expo (c :: r) = none := by simpa using h
        have HE : ∀ w, Calls Tryz.prog 109 #[.string (bs (c :: r))] w fun e w' => e = .returned (.tuple #[.int .i64 0, .bool false]) ∧ ∃ q, w' = w.drewN q := fun w => by
          have := readExp_any c r w (by omega)
          rw [hx] at this
          exact this
        exact read_Cn _ _ _ 0 w HC he HPr (by rw [emp_bs]; rfl) HE
theorem read_yes (l D : List UInt8) (E : Int) (w : World) (hl : l.length ≤ 400) (h : numL l = some (D, E)) :
    Calls Tryz.prog 93 #[.string (bs l)] w fun e w' => (∃ x, Held x E ∧ -41000 ≤ x ∧ x ≤ 41000 ∧ e = .returned (.tuple #[.agg #[.string (bs D), .int .i64 x], .bool true])) ∧ Below w.heap.size w w' := by
  have HC : ∀ w, Calls Tryz.prog 108 #[.string (bs l)] w fun e w' => e = .returned (.tuple #[.string (bs (Txt.dig l)), .string (bs (rst l))]) ∧ ∃ q, w' = w.drewN q := fun w => cut_any l w (by omega)
  have hlen := congrArg List.length (dig_rst l)
  rw [List.length_append] at hlen
  unfold numL at h
  by_cases e1 : Txt.dig l = []
  · rw [if_pos e1] at h; simp at h
  · have he : (bs (Txt.dig l)).toList.isEmpty = false := by rw [emp_bs]; simpa using e1
    rw [if_neg e1] at h
    generalize hr : rst l = R at *
    cases R with
    | nil =>
      simp at h
      obtain ⟨rfl, rfl⟩ := h
      have HPr : ∀ w, Calls Tryz.prog 73 #[.string (bs []), .string ⟨#[46]⟩] w fun e w' => e = .returned (.bool false) ∧ w' = w := fun w => pref_any [] 46 w (by simp)
      refine (read_B _ _ _ w HC he HPr (by rw [emp_bs]; rfl)).mono ?_
      rintro e w' ⟨rfl, hb⟩
      exact ⟨⟨0, Or.inl rfl, by omega, by omega, rfl⟩, hb⟩
    | cons c r =>
      simp only [List.length_cons] at hlen
      have hsz : (bs (c :: r)).size = r.length + 1 := bs_size _
      have HPr : ∀ w, Calls Tryz.prog 73 #[.string (bs (c :: r)), .string ⟨#[46]⟩] w fun e w' => e = .returned (.bool (hp 46 (c :: r))) ∧ w' = w := fun w => pref_any (c :: r) 46 w (by simp; omega)
      by_cases c46 : c.toNat = 46
      · have e2 : hp 46 (c :: r) = true := byte_eq c46
        rw [e2] at HPr
        simp only [c46, if_true] at h
        have HC2 : ∀ w, Calls Tryz.prog 108 #[.string (bs r)] w fun e w' => e = .returned (.tuple #[.string (bs (Txt.dig r)), .string (bs (rst r))]) ∧ ∃ q, w' = w.drewN q := fun w => cut_any r w (by omega)
        have hlen2 := congrArg List.length (dig_rst r)
        rw [List.length_append] at hlen2
        by_cases e3 : Txt.dig r = []
        · rw [if_pos e3] at h; simp at h
        · have hb : (bs (Txt.dig r)).toList.isEmpty = false := by rw [emp_bs]; simpa using e3
          rw [if_neg e3] at h
          generalize hr2 : rst r = R2 at *
          cases R2 with
          | nil =>
            simp [Txt.expo] at h
            obtain ⟨rfl, rfl⟩ := h
            refine (read_E _ _ _ _ _ _ w HC he HPr (by omega) (by omega) (bs_tail c r) HC2 hb (by rw [bs_size]; omega) (by rw [bs_size]; omega) (by rw [emp_bs]; rfl)).mono ?_
            rintro e w' ⟨rfl, hb⟩
            exact ⟨⟨-((bs (Txt.dig r)).size : Int), Or.inl (by rw [bs_size]), by rw [bs_size]; omega, by rw [bs_size]; omega, by rw [bs_append]⟩, hb⟩
          | cons d q =>
            obtain ⟨x, hx, h2⟩ := Option.map_eq_some_iff.1 h
            simp at h2
            obtain ⟨rfl, rfl⟩ := h2
            have hcr := cl_range x
            have HE : ∀ w, Calls Tryz.prog 109 #[.string (bs (d :: q))] w fun e w' => e = .returned (.tuple #[.int .i64 (cl x), .bool true]) ∧ ∃ q, w' = w.drewN q := fun w => by
              have := readExp_any d q w (by simp only [List.length_cons] at hlen2; omega)
              rw [hx] at this
              exact this
            refine (read_F _ _ _ _ _ _ (cl x) w HC he HPr (by omega) (by omega) (bs_tail c r) HC2 hb (by rw [bs_size]; omega) (by rw [bs_size]; omega) (by rw [emp_bs]; rfl) HE hcr.1 hcr.2).mono ?_
            rintro e w' ⟨rfl, hb⟩
            refine ⟨⟨_, ?_, ?_, ?_, by rw [bs_append]⟩, hb⟩
            · rw [bs_size]; exact held_cl x _ (by omega)
            · rw [bs_size]; omega
            · rw [bs_size]; omega
      · have e2 : hp 46 (c :: r) = false := byte_ne c46
        rw [e2] at HPr
        simp only [c46, if_false] at h
        obtain ⟨x, hx, h2⟩ := Option.map_eq_some_iff.1 h
        simp at h2
        obtain ⟨rfl, rfl⟩ := h2
        have hcr := cl_range x
        have HE : ∀ w, Calls Tryz.prog 109 #[.string (bs (c :: r))] w fun e w' => e = .returned (.tuple #[.int .i64 (cl x), .bool true]) ∧ ∃ q, w' = w.drewN q := fun w => by
          have := readExp_any c r w (by omega)
          rw [hx] at this
          exact this
        refine (read_C _ _ _ (cl x) w HC he HPr (by rw [emp_bs]; rfl) HE hcr.1 hcr.2).mono ?_
        rintro e w' ⟨rfl, hb⟩
        exact ⟨⟨_, held_cl0 x, by omega, by omega, rfl⟩, hb⟩

end Go.Proofs.YtgbajhenmamjjaaGreatDoor
