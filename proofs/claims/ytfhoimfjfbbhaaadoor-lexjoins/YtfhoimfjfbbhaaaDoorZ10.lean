/-
  SumRef, SumRef2, DigNew, DecTen, DecNear
-/
import Derived.Test.YtfhoimfjfbbhaaaDoorZ09

/-
  The reference of layer 2: Exact, the sum without rounding.
-/
namespace Go.Proofs.YtfhoimfjfbbhaaaDoor
set_option maxRecDepth 100000
open Go.RowKit Dg Flo

theorem kind_fin {a : Int} (hm : mag a < 9218868437227405312) (h0 : 0 ≤ mag a) : (mag a = 0 ∧ kindZ a = 0) ∨ (0 < mag a ∧ mag a < 4503599627370496 ∧ kindZ a = 1) ∨ (4503599627370496 ≤ mag a ∧ kindZ a = 2) := by
  unfold kindZ
  rw [if_neg (by omega)]
  by_cases c1 : mag a = 0
  · rw [if_pos c1]; exact Or.inl ⟨c1, rfl⟩
  · rw [if_neg c1, if_neg (by omega)]
    by_cases c2 : mag a < 4503599627370496
    · rw [if_pos c2]; exact Or.inr (Or.inl ⟨by omega, c2, rfl⟩)
    · rw [if_neg c2]; exact Or.inr (Or.inr ⟨by omega, rfl⟩)
theorem kind_inf {a : Int} (hm : mag a = 9218868437227405312) : kindZ a = 3 := by
  unfold kindZ; rw [hm]; rfl
theorem kind_nan4 {a : Int} (hm : 9218868437227405312 < mag a) : kindZ a = 4 := by
  unfold kindZ; rw [if_pos hm]

theorem parts_fin {a : Int} (h : U64 a) (hm : mag a < 9218868437227405312) :
    ∃ f : Nat, pfrac a = (f : Int) ∧ f < 9007199254740992 ∧ -1074 ≤ pexp a ∧ pexp a ≤ 971 ∧ f * 2 ^ (pexp a + 1074).toNat = MZ a := by
  obtain ⟨g1, g2, g3, g4, g5⟩ := mag_parts h
  have g6 := mag_range h
  unfold pexp pfrac MZ
  rcases kind_fin hm g6.1 with ⟨k1, k⟩ | ⟨k1, k2, k⟩ | ⟨k1, k⟩
  · rw [k]
    refine ⟨0, by simp, by omega, by simp, by simp, ?_⟩
    rw [k1, Nat.zero_mul]
    exact M_zero.symm
  · rw [k]
    refine ⟨(frac a).toNat, by simp; omega, by omega, by simp, by simp, ?_⟩
    have e : expo a = 0 := by omega
    rw [if_pos rfl]
    unfold M
    rw [if_pos (show (mag a).toNat < 4503599627370496 by omega)]
    rw [show ((-1074 : Int) + 1074).toNat = 0 by omega, Nat.pow_zero, Nat.mul_one]
    omega
  · rw [k]
    refine ⟨(frac a).toNat + 4503599627370496, by simp; omega, by omega, by simp; omega, by simp; omega, ?_⟩
    rw [if_neg (by decide), if_pos rfl]
    unfold M
    rw [if_neg (show ¬ (mag a).toNat < 4503599627370496 by omega)]
    have e1 : (mag a).toNat % 4503599627370496 = (frac a).toNat := by omega
    have e2 : (mag a).toNat / 4503599627370496 = (expo a).toNat := by omega
    rw [e1, e2, show (expo a - 1075 + 1074).toNat = (expo a).toNat - 1 by omega, Nat.add_comm]

theorem dlen_pow {n K k : Nat} (h : n < 2 ^ K) (hK : K ≤ 16 * k) : dlen n ≤ k := by
  refine dlen_le (Nat.lt_of_lt_of_le h ?_)
  rw [pow16]
  exact Nat.pow_le_pow_right (by decide) (by omega)

theorem sz_add (s : Bool) (x y : Nat) : sz s x + sz s y = sz s (x + y) := by unfold sz; cases s <;> simp <;> omega
theorem sz_sub {s t : Bool} {x y : Nat} (h : s ≠ t) (hx : y ≤ x) : sz s x + sz t y = sz s (x - y) := by
  unfold sz; cases s <;> cases t <;> simp at * <;> omega
theorem sz_sub2 {s t : Bool} {x y : Nat} (h : s ≠ t) (hx : x ≤ y) : sz s x + sz t y = sz t (y - x) := by
  unfold sz; cases s <;> cases t <;> simp at * <;> omega

/-- How sign and size of a sum come of those of the two. -/
def ExactP (n o ng : Bool) (X Y N : Nat) : Prop := (n = o ∧ ng = n ∧ N = X + Y) ∨ (n ≠ o ∧ ng = n ∧ Y ≤ X ∧ N = X - Y) ∨ (n ≠ o ∧ ng = o ∧ X ≤ Y ∧ N = Y - X)

end Go.Proofs.YtfhoimfjfbbhaaaDoor

/-
  The reference of layer 2: Sum, Add, Sub, Neg, Mul.
-/
namespace Go.Proofs.YtfhoimfjfbbhaaaDoor
set_option maxRecDepth 100000
open Go.RowKit Dg Flo

theorem sz_zero {s : Bool} {n : Nat} : sz s n = 0 ↔ n = 0 := by unfold sz; cases s <;> simp
theorem sz_neg {s : Bool} {n : Nat} (h : n ≠ 0) : decide (sz s n < 0) = s := by unfold sz; cases s <;> simp <;> omega
theorem sz_abs (s : Bool) (n : Nat) : (sz s n).natAbs = n := by unfold sz; cases s <;> simp
theorem MZ_zero {a : Int} (h0 : 0 ≤ mag a) : MZ a = 0 ↔ mag a = 0 := by
  unfold MZ
  have := @M_inj (mag a).toNat 0
  rw [M_zero] at this
  rw [this]
  omega
theorem zero_signs {a b : Int} (ha : U64 a) (hb : U64 b) (h : SV a + SV b = 0) (h2 : (belowB a && belowB b) = true) : mag a = 0 ∧ mag b = 0 := by
  have h3 : belowB a = true := by revert h2; cases belowB a <;> simp
  have h4 : belowB b = true := by revert h2; cases belowB b <;> simp
  unfold SV sz at h
  rw [h3, h4] at h
  simp only [if_true] at h
  exact ⟨(MZ_zero (mag_range ha).1).1 (by omega), (MZ_zero (mag_range hb).1).1 (by omega)⟩
theorem kind_zero0 {a : Int} (h : mag a = 0) : kindZ a = 0 := by unfold kindZ; rw [h]; rfl

theorem rung_one (v : Nat) : rung 1 (2 * v) = rung 0 v := by
  have := rung_scale 0 v 1
  rw [Nat.zero_add, Nat.pow_one, Nat.mul_comm v 2] at this
  exact this

end Go.Proofs.YtfhoimfjfbbhaaaDoor

/-
  Trim, Sum and Minus once more: what they hand back lies in a block of its own.
-/
namespace Go.Proofs.YtfhoimfjfbbhaaaDoor
set_option maxRecDepth 100000
open Go.RowKit Dg

/-- A slice whose block is not one of the first B. -/
def Fresh (B : Nat) (v : Value) : Prop := ∀ g, v.ownBlock = some g → B ≤ g
theorem Fresh.mono {B B' : Nat} {v : Value} (h : Fresh B v) (hb : B' ≤ B) : Fresh B' v := fun g hg => Nat.le_trans hb (h g hg)
theorem fresh_made (w : World) : Fresh w.heap.size (.slice (some ⟨w.heap.size, 0, none⟩) 0 0) := by
  intro g hg; simp [Value.ownBlock] at hg; omega

end Go.Proofs.YtfhoimfjfbbhaaaDoor

/-
  Powers of ten: what the reference's Ten will need.
-/
namespace Go.Proofs.YtfhoimfjfbbhaaaDoor
set_option maxRecDepth 100000
open Go.RowKit Dg Flo

theorem pow_ten_lt (n : Nat) : 10 ^ n ≤ 2 ^ (4 * n) := by
  rw [Nat.pow_mul]; exact Nat.pow_le_pow_left (by decide) n
theorem dlen_ten {N n L : Nat} (h : N ≤ 10 ^ n) (hL : 4 * n + 1 ≤ 16 * L) : dlen N ≤ L := by
  refine dlen_pow (K := 4 * n + 1) ?_ hL
  have := pow_ten_lt n
  rw [Nat.pow_succ]
  have := Nat.two_pow_pos (4 * n)
  omega
theorem ten_step_odd {N P k T : Nat} (h : N * P ^ k = T) (hk : k % 2 = 1) : N * P * (P * P) ^ (k / 2) = T := by
  rw [← h]
  have e : k = 1 + 2 * (k / 2) := by omega
  conv => rhs; rw [e, Nat.pow_add, Nat.pow_mul, Nat.pow_one, Nat.pow_two]
  rw [Nat.mul_assoc]
theorem ten_step_even {N P k T : Nat} (h : N * P ^ k = T) (hk : k % 2 = 0) : N * (P * P) ^ (k / 2) = T := by
  rw [← h]
  have e : k = 2 * (k / 2) := by omega
  conv => rhs; rw [e, Nat.pow_mul, Nat.pow_two]
theorem ten_parts {N P k T : Nat} (h : N * P ^ k = T) (hT : 0 < T) : 0 < N ∧ N ≤ T ∧ (0 < k → P ≤ T) := by
  have hN : 0 < N := by
    rcases Nat.eq_zero_or_pos N with c | c
    · rw [c, Nat.zero_mul] at h; omega
    · exact c
  have hP : 0 < P ^ k := by
    rcases Nat.eq_zero_or_pos (P ^ k) with c | c
    · rw [c, Nat.mul_zero] at h; omega
    · exact c
  refine ⟨hN, ?_, ?_⟩
  · rw [← h]; exact Nat.le_mul_of_pos_right _ hP
  · intro hk
    have h1 : P ≤ P ^ k := by
      rcases Nat.eq_zero_or_pos P with c | c
      · omega
      · exact Nat.le_pow hk
    exact Nat.le_trans h1 (by rw [← h]; exact Nat.le_mul_of_pos_left _ hN)

end Go.Proofs.YtfhoimfjfbbhaaaDoor

/-
  The landed nearest, walked; read of any text.
-/
namespace Go.Proofs.YtfhoimfjfbbhaaaDoor
set_option maxRecDepth 100000
open Go.RowKit Pt Flo Txt

/-- Read of any text. -/
theorem read_none (l : List UInt8) (w : World) (hl : l.length ≤ 400) (h : numL l = none) :
    Calls Tryd.prog 32 #[.string (bs l)] w fun e w' => e = .returned (.tuple #[.agg #[.string ⟨#[]⟩, .int .i64 0], .bool false]) ∧ Below w.heap.size w w' := by
  have HC : ∀ w, Calls Tryd.prog 34 #[.string (bs l)] w fun e w' => e = .returned (.tuple #[.string (bs (Txt.dig l)), .string (bs (rst l))]) ∧ ∃ q, w' = w.drewN q := fun w => cut_any l w (by omega)
  have hlen := congrArg List.length (dig_rst l)
  rw [List.length_append] at hlen
  unfold numL at h
  by_cases e1 : Txt.dig l = []
  · exact read_A _ _ _ w HC (by rw [emp_bs, e1]; rfl)
  · have he : (bs (Txt.dig l)).toList.isEmpty = false := by rw [emp_bs]; simpa using e1
    rw [if_neg e1] at h
    generalize hr : rst l = R at *
    cases R with
    | nil => simp at h
    | cons c r =>
      simp only [List.length_cons] at hlen
      have hsz : (bs (c :: r)).size = r.length + 1 := bs_size _
      have HPr : ∀ w, Calls Tryd.prog 18 #[.string (bs (c :: r)), .string ⟨#[46]⟩] w fun e w' => e = .returned (.bool (hp 46 (c :: r))) ∧ w' = w := fun w => pref_any (c :: r) 46 w (by simp; omega)
      by_cases c46 : c.toNat = 46
      · have e2 : hp 46 (c :: r) = true := byte_eq c46
        rw [e2] at HPr
        simp only [c46, if_true] at h
        have HC2 : ∀ w, Calls Tryd.prog 34 #[.string (bs r)] w fun e w' => e = .returned (.tuple #[.string (bs (Txt.dig r)), .string (bs (rst r))]) ∧ ∃ q, w' = w.drewN q := fun w => cut_any r w (by omega)
        have hlen2 := congrArg List.length (dig_rst r)
        rw [List.length_append] at hlen2
        by_cases e3 : Txt.dig r = []
        · exact read_D _ _ _ _ _ _ w HC he HPr (by omega) (by omega) (bs_tail c r) HC2 (by rw [emp_bs, e3]; rfl)
        · have hb : (bs (Txt.dig r)).toList.isEmpty = false := by rw [emp_bs]; simpa using e3
          rw [if_neg e3] at h
          generalize hr2 : rst r = R2 at *
          cases R2 with
          | nil => simp [Txt.expo] at h
          | cons d q =>
            have hx : Txt.expo (d :: q) = none := by simpa using h
            have HE : ∀ w, Calls Tryd.prog 35 #[.string (bs (d :: q))] w fun e w' => e = .returned (.tuple #[.int .i64 0, .bool false]) ∧ ∃ q, w' = w.drewN q := fun w => by
              have := readExp_any d q w (by simp only [List.length_cons] at hlen2; omega)
              rw [hx] at this
              exact this
            exact read_Fn _ _ _ _ _ _ 0 w HC he HPr (by omega) (by omega) (bs_tail c r) HC2 hb (by rw [bs_size]; omega) (by rw [bs_size]; omega) (by rw [emp_bs]; rfl) HE
      · have e2 : hp 46 (c :: r) = false := byte_ne c46
        rw [e2] at HPr
        simp only [c46, if_false] at h
        have hx : Txt.expo (c :: r) = none := by simpa using h
        have HE : ∀ w, Calls Tryd.prog 35 #[.string (bs (c :: r))] w fun e w' => e = .returned (.tuple #[.int .i64 0, .bool false]) ∧ ∃ q, w' = w.drewN q := fun w => by
          have := readExp_any c r w (by omega)
          rw [hx] at this
          exact this
        exact read_Cn _ _ _ 0 w HC he HPr (by rw [emp_bs]; rfl) HE
theorem read_yes (l D : List UInt8) (E : Int) (w : World) (hl : l.length ≤ 400) (h : numL l = some (D, E)) :
    Calls Tryd.prog 32 #[.string (bs l)] w fun e w' => (∃ x, Held x E ∧ -41000 ≤ x ∧ x ≤ 41000 ∧ e = .returned (.tuple #[.agg #[.string (bs D), .int .i64 x], .bool true])) ∧ Below w.heap.size w w' := by
  have HC : ∀ w, Calls Tryd.prog 34 #[.string (bs l)] w fun e w' => e = .returned (.tuple #[.string (bs (Txt.dig l)), .string (bs (rst l))]) ∧ ∃ q, w' = w.drewN q := fun w => cut_any l w (by omega)
  have hlen := congrArg List.length (dig_rst l)
  rw [List.length_append] at hlen
  unfold numL at h
  by_cases e1 : Txt.dig l = []
  · rw [if_pos e1] at h; simp at h
  · have he : (bs (Txt.dig l)).toList.isEmpty = false := by rw [emp_bs]; simpa using e1
    rw [if_neg e1] at h
    generalize hr : rst l = R at *
    cases R with
    | nil =>
      simp at h
      obtain ⟨rfl, rfl⟩ := h
      have HPr : ∀ w, Calls Tryd.prog 18 #[.string (bs []), .string ⟨#[46]⟩] w fun e w' => e = .returned (.bool false) ∧ w' = w := fun w => pref_any [] 46 w (by simp)
      refine (read_B _ _ _ w HC he HPr (by rw [emp_bs]; rfl)).mono ?_
      rintro e w' ⟨rfl, hb⟩
      exact ⟨⟨0, Or.inl rfl, by omega, by omega, rfl⟩, hb⟩
    | cons c r =>
      simp only [List.length_cons] at hlen
      have hsz : (bs (c :: r)).size = r.length + 1 := bs_size _
      have HPr : ∀ w, Calls Tryd.prog 18 #[.string (bs (c :: r)), .string ⟨#[46]⟩] w fun e w' => e = .returned (.bool (hp 46 (c :: r))) ∧ w' = w := fun w => pref_any (c :: r) 46 w (by simp; omega)
      by_cases c46 : c.toNat = 46
      · have e2 : hp 46 (c :: r) = true := byte_eq c46
        rw [e2] at HPr
        simp only [c46, if_true] at h
        have HC2 : ∀ w, Calls Tryd.prog 34 #[.string (bs r)] w fun e w' => e = .returned (.tuple #[.string (bs (Txt.dig r)), .string (bs (rst r))]) ∧ ∃ q, w' = w.drewN q := fun w => cut_any r w (by omega)
        have hlen2 := congrArg List.length (dig_rst r)
        rw [List.length_append] at hlen2
        by_cases e3 : Txt.dig r = []
        · rw [if_pos e3] at h; simp at h
        · have hb : (bs (Txt.dig r)).toList.isEmpty = false := by rw [emp_bs]; simpa using e3
          rw [if_neg e3] at h
          generalize hr2 : rst r = R2 at *
          cases R2 with
          | nil =>
            simp [Txt.expo] at h
            obtain ⟨rfl, rfl⟩ := h
            refine (read_E _ _ _ _ _ _ w HC he HPr (by omega) (by omega) (bs_tail c r) HC2 hb (by rw [bs_size]; omega) (by rw [bs_size]; omega) (by rw [emp_bs]; rfl)).mono ?_
            rintro e w' ⟨rfl, hb⟩
            exact ⟨⟨-((bs (Txt.dig r)).size : Int), Or.inl (by rw [bs_size]), by rw [bs_size]; omega, by rw [bs_size]; omega, by rw [bs_append]⟩, hb⟩
          | cons d q =>
            obtain ⟨x, hx, h2⟩ := Option.map_eq_some_iff.1 h
            simp at h2
            obtain ⟨rfl, rfl⟩ := h2
            have hcr := cl_range x
            have HE : ∀ w, Calls Tryd.prog 35 #[.string (bs (d :: q))] w fun e w' => e = .returned (.tuple #[.int .i64 (cl x), .bool true]) ∧ ∃ q, w' = w.drewN q := fun w => by
              have := readExp_any d q w (by simp only [List.length_cons] at hlen2; omega)
              rw [hx] at this
              exact this
            refine (read_F _ _ _ _ _ _ (cl x) w HC he HPr (by omega) (by omega) (bs_tail c r) HC2 hb (by rw [bs_size]; omega) (by rw [bs_size]; omega) (by rw [emp_bs]; rfl) HE hcr.1 hcr.2).mono ?_
            rintro e w' ⟨rfl, hb⟩
            refine ⟨⟨_, ?_, ?_, ?_, by rw [bs_append]⟩, hb⟩
            · rw [bs_size]; exact held_cl x _ (by omega)
            · rw [bs_size]; omega
            · rw [bs_size]; omega
      · have e2 : hp 46 (c :: r) = false := byte_ne c46
        rw [e2] at HPr
        simp only [c46, if_false] at h
        obtain ⟨x, hx, h2⟩ := Option.map_eq_some_iff.1 h
        simp at h2
        obtain ⟨rfl, rfl⟩ := h2
        have hcr := cl_range x
        have HE : ∀ w, Calls Tryd.prog 35 #[.string (bs (c :: r))] w fun e w' => e = .returned (.tuple #[.int .i64 (cl x), .bool true]) ∧ ∃ q, w' = w.drewN q := fun w => by
          have := readExp_any c r w (by omega)
          rw [hx] at this
          exact this
        refine (read_C _ _ _ (cl x) w HC he HPr (by rw [emp_bs]; rfl) HE hcr.1 hcr.2).mono ?_
        rintro e w' ⟨rfl, hb⟩
        exact ⟨⟨_, held_cl0 x, by omega, by omega, rfl⟩, hb⟩

end Go.Proofs.YtfhoimfjfbbhaaaDoor
