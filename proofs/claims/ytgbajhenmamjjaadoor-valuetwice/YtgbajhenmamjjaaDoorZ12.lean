/-
  DecTen, DecNear
-/
import Derived.Test.YtgbajhenmamjjaaDoorZ11

/-
  Powers of ten: what the reference's Ten will need.
-/
namespace Go.Proofs.YtgbajhenmamjjaaDoor
set_option maxRecDepth 100000
open Go.RowKit Dg Flo

theorem pow_ten_lt (n : Nat) : 10 ^ n ≤ 2 ^ (4 * n) := by
  rw [Nat.pow_mul]; exact Nat.pow_le_pow_left (by decide) n
theorem dlen_ten {N n L : Nat} (h : N ≤ 10 ^ n) (hL : 4 * n + 1 ≤ 16 * L) : dlen N ≤ L := by
  refine dlen_pow (K := 4 * n + 1) ?_ hL
  have := pow_ten_lt n
  rw [Nat.pow_succ]
  have := Nat.two_pow_pos (4 * n)
  omega
theorem ten_step_odd {N P k T : Nat} (h : N * P ^ k = T) (hk : k % 2 = 1) : N * P * (P * P) ^ (k / 2) = T := by
  rw [← h]
  have e : k = 1 + 2 * (k / 2) := by omega
  conv => rhs; rw [e, Nat.pow_add, Nat.pow_mul, Nat.pow_one, Nat.pow_two]
  rw [Nat.mul_assoc]
theorem ten_step_even {N P k T : Nat} (h : N * P ^ k = T) (hk : k % 2 = 0) : N * (P * P) ^ (k / 2) = T := by
  rw [← h]
  have e : k = 2 * (k / 2) := by omega
  conv => rhs; rw [e, Nat.pow_mul, Nat.pow_two]
theorem ten_parts {N P k T : Nat} (h : N * P ^ k = T) (hT : 0 < T) : 0 < N ∧ N ≤ T ∧ (0 < k → P ≤ T) := by
  have hN : 0 < N := by
    rcases Nat.eq_zero_or_pos N with c | c
    · rw [c, Nat.zero_mul] at h; omega
    · exact c
  have hP : 0 < P ^ k := by
    rcases Nat.eq_zero_or_pos (P ^ k) with c | c
    · rw [c, Nat.mul_zero] at h; omega
    · exact c
  refine ⟨hN, ?_, ?_⟩
  · rw [← h]; exact Nat.le_mul_of_pos_right _ hP
  · intro hk
    have h1 : P ≤ P ^ k := by
      rcases Nat.eq_zero_or_pos P with c | c
      · omega
      · exact Nat.le_pow hk
    exact Nat.le_trans h1 (by rw [← h]; exact Nat.le_mul_of_pos_left _ hN)

end Go.Proofs.YtgbajhenmamjjaaDoor

/-
  The landed nearest, walked; read of any text.
-/
namespace Go.Proofs.YtgbajhenmamjjaaDoor
set_option maxRecDepth 100000
open Go.RowKit Pt Flo Txt

/-- Read of any text. -/
theorem read_none (l : List UInt8) (w : World) (hl : l.length ≤ 400) (h : numL l = none) :
    Calls Tryd.prog 36 #[.string (bs l)] w fun e w' => e = .returned (.tuple #[.agg #[.string ⟨#[]⟩, .int .i64 0], .bool false]) ∧ Below w.heap.size w w' := by
  have HC : ∀ w, Calls Tryd.prog 39 #[.string (bs l)] w fun e w' => e = .returned (.tuple #[.string (bs (Txt.dig l)), .string (bs (rst l))]) ∧ ∃ q, w' = w.drewN q := fun w => cut_any l w (by omega)
  have hlen := congrArg List.length (dig_rst l)
  rw [List.length_append] at hlen
  unfold numL at h
  by_cases e1 : Txt.dig l = []
  · exact read_A _ _ _ w HC (by rw [emp_bs, e1]; rfl)
  · have he : (bs (Txt.dig l)).toList.isEmpty = false := by rw [emp_bs]; simpa using e1
    rw [if_neg e1] at h
    generalize hr : rst l = R at *
    cases R with
    | nil => simp at h
    | cons c r =>
      simp only [List.length_cons] at hlen
      have hsz : (bs (c :: r)).size = r.length + 1 := bs_size _
      have HPr : ∀ w, Calls Tryd.prog 40 #[.string (bs (c :: r)), .string ⟨#[46]⟩] w fun e w' => e = .returned (.bool (hp 46 (c :: r))) ∧ w' = w := fun w => pref_any (c :: r) 46 w (by simp; omega)
      by_cases c46 : c.toNat = 46
      · have e2 : hp 46 (c :: r) = true := byte_eq c46
        rw [e2] at HPr
        simp only [c46, if_true] at h
        have HC2 : ∀ w, Calls Tryd.prog 39 #[.string (bs r)] w fun e w' => e = .returned (.tuple #[.string (bs (Txt.dig r)), .string (bs (rst r))]) ∧ ∃ q, w' = w.drewN q := fun w => cut_any r w (by omega)
        have hlen2 := congrArg List.length (dig_rst r)
        rw [List.length_append] at hlen2
        by_cases e3 : Txt.dig r = []
        · exact read_D _ _ _ _ _ _ w HC he HPr (by omega) (by omega) (bs_tail c r) HC2 (by rw [emp_bs, e3]; rfl)
        · have hb : (bs (Txt.dig r)).toList.isEmpty = false := by rw [emp_bs]; simpa using e3
          rw [if_neg e3] at h
          generalize hr2 : rst r = R2 at *
          cases R2 with
          | nil => simp [Txt.expo] at h
          | cons d q =>
            have hx : Txt.expo (d :: q) = none := by simpa using h
            have HE : ∀ w, Calls Tryd.prog 41 #[.string (bs (d :: q))] w fun e w' => e = .returned (.tuple #[.int .i64 0, .bool false]) ∧ ∃ q, w' = w.drewN q := fun w => by
              have := readExp_any d q w (by simp only [List.length_cons] at hlen2; omega)
              rw [hx] at this
              exact this
            exact read_Fn _ _ _ _ _ _ 0 w HC he HPr (by omega) (by omega) (bs_tail c r) HC2 hb (by rw [bs_size]; omega) (by rw [bs_size]; omega) (by rw [emp_bs]; rfl) HE
      · have e2 : hp 46 (c :: r) = false := byte_ne c46
        rw [e2] at HPr
        simp only [c46, if_false] at h
        have hx : Txt.expo (c :: r) = none := by simpa using h
        have HE : ∀ w, Calls Tryd.prog 41 #[.string (bs (c :: r))] w fun e w' => e = .returned (.tuple #[.int .i64 0, .bool false]) ∧ ∃ q, w' = w.drewN q := fun w => by
          have := readExp_any c r w (by omega)
          rw [hx] at this
          exact this
        exact read_Cn _ _ _ 0 w HC he HPr (by rw [emp_bs]; rfl) HE
theorem read_yes (l D : List UInt8) (E : Int) (w : World) (hl : l.length ≤ 400) (h : numL l = some (D, E)) :
    Calls Tryd.prog 36 #[.string (bs l)] w fun e w' => (∃ x, Held x E ∧ -41000 ≤ x ∧ x ≤ 41000 ∧ e = .returned (.tuple #[.agg #[.string (bs D), .int .i64 x], .bool true])) ∧ Below w.heap.size w w' := by
  have HC : ∀ w, Calls Tryd.prog 39 #[.string (bs l)] w fun e w' => e = .returned (.tuple #[.string (bs (Txt.dig l)), .string (bs (rst l))]) ∧ ∃ q, w' = w.drewN q := fun w => cut_any l w (by omega)
  have hlen := congrArg List.length (dig_rst l)
  rw [List.length_append] at hlen
  unfold numL at h
  by_cases e1 : Txt.dig l = []
  · rw [if_pos e1] at h; simp at h
  · have he : (bs (Txt.dig l)).toList.isEmpty = false := by rw [emp_bs]; simpa using e1
    rw [if_neg e1] at h
    generalize hr : rst l = R at *
    cases R with
    | nil =>
      simp at h
      obtain ⟨rfl, rfl⟩ := h
      have HPr : ∀ w, Calls Tryd.prog 40 #[.string (bs []), .string ⟨#[46]⟩] w fun e w' => e = .returned (.bool false) ∧ w' = w := fun w => pref_any [] 46 w (by simp)
      refine (read_B _ _ _ w HC he HPr (by rw [emp_bs]; rfl)).mono ?_
      rintro e w' ⟨rfl, hb⟩
      exact ⟨⟨0, Or.inl rfl, by omega, by omega, rfl⟩, hb⟩
    | cons c r =>
      simp only [List.length_cons] at hlen
      have hsz : (bs (c :: r)).size = r.length + 1 := bs_size _
      have HPr : ∀ w, Calls Tryd.prog 40 #[.string (bs (c :: r)), .string ⟨#[46]⟩] w fun e w' => e = .returned (.bool (hp 46 (c :: r))) ∧ w' = w := fun w => pref_any (c :: r) 46 w (by simp; omega)
      by_cases c46 : c.toNat = 46
      · have e2 : hp 46 (c :: r) = true := byte_eq c46
        rw [e2] at HPr
        simp only [c46, if_true] at h
        have HC2 : ∀ w, Calls Tryd.prog 39 #[.string (bs r)] w fun e w' => e = .returned (.tuple #[.string (bs (Txt.dig r)), .string (bs (rst r))]) ∧ ∃ q, w' = w.drewN q := fun w => cut_any r w (by omega)
        have hlen2 := congrArg List.length (dig_rst r)
        rw [List.length_append] at hlen2
        by_cases e3 : Txt.dig r = []
        · rw [if_pos e3] at h; simp at h
        · have hb : (bs (Txt.dig r)).toList.isEmpty = false := by rw [emp_bs]; simpa using e3
          rw [if_neg e3] at h
          generalize hr2 : rst r = R2 at *
          cases R2 with
          | nil =>
            simp [Txt.expo] at h
            obtain ⟨rfl, rfl⟩ := h
            refine (read_E _ _ _ _ _ _ w HC he HPr (by omega) (by omega) (bs_tail c r) HC2 hb (by rw [bs_size]; omega) (by rw [bs_size]; omega) (by rw [emp_bs]; rfl)).mono ?_
            rintro e w' ⟨rfl, hb⟩
            exact ⟨⟨-((bs (Txt.dig r)).size : Int), Or.inl (by rw [bs_size]), by rw [bs_size]; omega, by rw [bs_size]; omega, by rw [bs_append]⟩, hb⟩
          | cons d q =>
            obtain ⟨x, hx, h2⟩ := Option.map_eq_some_iff.1 h
            simp at h2
            obtain ⟨rfl, rfl⟩ := h2
            have hcr := cl_range x
            have HE : ∀ w, Calls Tryd.prog 41 #[.string (bs (d :: q))] w fun e w' => e = .returned (.tuple #[.int .i64 (cl x), .bool true]) ∧ ∃ q, w' = w.drewN q := fun w => by
              have := readExp_any d q w (by simp only [List.length_cons] at hlen2; omega)
              rw [hx] at this
              exact this
            refine (read_F _ _ _ _ _ _ (cl x) w HC he HPr (by omega) (by omega) (bs_tail c r) HC2 hb (by rw [bs_size]; omega) (by rw [bs_size]; omega) (by rw [emp_bs]; rfl) HE hcr.1 hcr.2).mono ?_
            rintro e w' ⟨rfl, hb⟩
            refine ⟨⟨_, ?_, ?_, ?_, by rw [bs_append]⟩, hb⟩
            · rw [bs_size]; exact held_cl x _ (by omega)
            · rw [bs_size]; omega
            · rw [bs_size]; omega
      · have e2 : hp 46 (c :: r) = false := byte_ne c46
        rw [e2] at HPr
        simp only [c46, if_false] at h
        obtain ⟨x, hx, h2⟩ := Option.map_eq_some_iff.1 h
        simp at h2
        obtain ⟨rfl, rfl⟩ := h2
        have hcr := cl_range x
        have HE : ∀ w, Calls Tryd.prog 41 #[.string (bs (c :: r))] w fun e w' => e = .returned (.tuple #[.int .i64 (cl x), .bool true]) ∧ ∃ q, w' = w.drewN q := fun w => by
          have := readExp_any c r w (by omega)
          rw [hx] at this
          exact this
        refine (read_C _ _ _ (cl x) w HC he HPr (by rw [emp_bs]; rfl) HE hcr.1 hcr.2).mono ?_
        rintro e w' ⟨rfl, hb⟩
        exact ⟨⟨_, held_cl0 x, by omega, by omega, rfl⟩, hb⟩

end Go.Proofs.YtgbajhenmamjjaaDoor
