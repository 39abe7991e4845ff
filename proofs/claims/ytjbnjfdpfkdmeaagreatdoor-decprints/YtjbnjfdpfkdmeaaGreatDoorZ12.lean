/-
  FloRef2, SumRef, SumRef2, DigNew, DecTen, DecNear
-/
import Derived.Test.YtjbnjfdpfkdmeaaGreatDoorZ11

/-
  The walks of the reference's Before and Parts, and of the program's Parts.
-/
namespace Go.Proofs.YtjbnjfdpfkdmeaaGreatDoor
set_option maxRecDepth 100000
open Go.RowKit Flo

theorem before_alt {a b : Int} (ha : U64 a) (hb : U64 b) (na : nanB a = false) (nb : nanB b = false) :
    beforeB a b = if mag a = 0 ∧ mag b = 0 then belowB a && !belowB b else decide (sv a < sv b) := by
  obtain ⟨a0, a1⟩ := ha
  obtain ⟨b0, b1⟩ := hb
  unfold beforeB
  rw [na, nb]
  simp only [Bool.false_eq_true, if_false]
  by_cases c : mag a = 0 ∧ mag b = 0
  · rw [if_pos c, if_pos]
    obtain ⟨c1, c2⟩ := c
    unfold sv
    unfold mag at c1 c2
    split <;> split <;> omega
  · rw [if_neg c]
    split
    · rename_i e
      have : belowB a = belowB b := by
        unfold belowB
        rw [decide_eq_decide]
        unfold sv at e
        unfold mag at c
        split at e <;> split at e <;> omega
      rw [this, decide_eq_false (by omega)]
      cases belowB b <;> rfl
    · rfl

/-- A number's power of two and whole number. -/
def pexp (a : Int) : Int := if kindZ a = 1 then -1074 else if kindZ a = 2 then expo a - 1075 else 0
def pfrac (a : Int) : Int := if kindZ a = 1 then frac a else if kindZ a = 2 then frac a + 4503599627370496 else 0

theorem kind_vals (a : Int) : kindZ a = 0 ∨ kindZ a = 1 ∨ kindZ a = 2 ∨ kindZ a = 3 ∨ kindZ a = 4 := by
  unfold kindZ; (repeat' split) <;> simp

theorem or_hidden {a : Int} (h0 : 0 ≤ frac a) (h1 : frac a < 4503599627370496) : bits .or .u64 (frac a) 4503599627370496 = frac a + 4503599627370496 := by
  rw [u64_or _ _ h0 (by omega) (by decide) (by decide), Nat.or_comm, show (4503599627370496 : Int).toNat = 4503599627370496 from rfl, nat_join 52 _ _ (by decide) (by omega)]
  omega

set_option maxHeartbeats 1000000 in
theorem refParts_any (a : Int) (w : World) (h : U64 a) : Calls Tryz.prog 56 #[.int .u64 a] w fun e w' => e = .returned (.tuple #[.bool (belowB a), .int .i64 (pexp a), .int .u64 (pfrac a)]) ∧ w' = w := by
  have t1 := and_expo h
  have t2 := and_frac h
  obtain ⟨_, e0, e1, f0, f1⟩ := mag_parts h
  unfold pexp pfrac
  generalize expo a = E at *
  generalize frac a = F at *
  rcases kind_vals a with k | k | k | k | k
  all_goals
    simp only [k]
    go_enter Tryz.func56, Tryz.ntmps56
    go_wp2_with (first | (go_at_call 12; refine (refKind_any _ _ (by assumption)).mono ?_; rintro e w' ⟨rfl, rfl⟩) | (go_at_call 11; refine (refNeg_any _ _ (by assumption)).mono ?_; rintro e w' ⟨rfl, rfl⟩))
    go_ret3
    exact ⟨rfl, rfl⟩

set_option maxHeartbeats 1000000 in
theorem parts_any (a : Int) (w : World) (h : U64 a) : Calls Tryz.prog 7 #[.int .u64 a] w fun e w' => e = .returned (.tuple #[.bool (belowB a), .int .i64 (pexp a), .int .u64 (pfrac a)]) ∧ w' = w := by
  have t1 := and_expo h
  have t2 := and_frac h
  obtain ⟨_, e0, e1, f0, f1⟩ := mag_parts h
  have t3 := or_hidden f0 f1
  unfold pexp pfrac
  have hE : expo a - 1 + -1074 = expo a - 1075 := by omega
  generalize expo a = E at *
  generalize frac a = F at *
  rcases kind_vals a with k | k | k | k | k
  all_goals
    simp only [k]
    go_enter Tryz.func7, Tryz.ntmps7
    go_wp2_with (first | (go_at_call 8; refine (kind_any _ _ (by assumption)).mono ?_; rintro e w' ⟨rfl, rfl⟩) | (go_at_call 17; refine (below_any _ _ (by assumption)).mono ?_; rintro e w' ⟨rfl, rfl⟩))
    go_ret3
    exact ⟨rfl, rfl⟩

end Go.Proofs.YtjbnjfdpfkdmeaaGreatDoor

/-
  The reference of layer 2: Exact, the sum without rounding.
-/
namespace Go.Proofs.YtjbnjfdpfkdmeaaGreatDoor
set_option maxRecDepth 100000
open Go.RowKit Dg Flo

theorem kind_fin {a : Int} (hm : mag a < 9218868437227405312) (h0 : 0 ≤ mag a) : (mag a = 0 ∧ kindZ a = 0) ∨ (0 < mag a ∧ mag a < 4503599627370496 ∧ kindZ a = 1) ∨ (4503599627370496 ≤ mag a ∧ kindZ a = 2) := by
  unfold kindZ
  rw [if_neg (by omega)]
  by_cases c1 : mag a = 0
  · rw [if_pos c1]; exact Or.inl ⟨c1, rfl⟩
  · rw [if_neg c1, if_neg (by omega)]
    by_cases c2 : mag a < 4503599627370496
    · rw [if_pos c2]; exact Or.inr (Or.inl ⟨by omega, c2, rfl⟩)
    · rw [if_neg c2]; exact Or.inr (Or.inr ⟨by omega, rfl⟩)
theorem kind_inf {a : Int} (hm : mag a = 9218868437227405312) : kindZ a = 3 := by
  unfold kindZ; rw [hm]; rfl
theorem kind_nan4 {a : Int} (hm : 9218868437227405312 < mag a) : kindZ a = 4 := by
  unfold kindZ; rw [if_pos hm]

theorem parts_fin {a : Int} (h : U64 a) (hm : mag a < 9218868437227405312) :
    ∃ f : Nat, pfrac a = (f : Int) ∧ f < 9007199254740992 ∧ -1074 ≤ pexp a ∧ pexp a ≤ 971 ∧ f * 2 ^ (pexp a + 1074).toNat = MZ a := by
  obtain ⟨g1, g2, g3, g4, g5⟩ := mag_parts h
  have g6 := mag_range h
  unfold pexp pfrac MZ
  rcases kind_fin hm g6.1 with ⟨k1, k⟩ | ⟨k1, k2, k⟩ | ⟨k1, k⟩
  · rw [k]
    refine ⟨0, by simp, by omega, by simp, by simp, ?_⟩
    rw [k1, Nat.zero_mul]
    exact M_zero.symm
  · rw [k]
    refine ⟨(frac a).toNat, by simp; omega, by omega, by simp, by simp, ?_⟩
    have e : expo a = 0 := by omega
    rw [if_pos rfl]
    unfold M
    rw [if_pos (show (mag a).toNat < 4503599627370496 by omega)]
    rw [show ((-1074 : Int) + 1074).toNat = 0 by omega, Nat.pow_zero, Nat.mul_one]
    omega
  · rw [k]
    refine ⟨(frac a).toNat + 4503599627370496, by simp; omega, by omega, by simp; omega, by simp; omega, ?_⟩
    rw [if_neg (by decide), if_pos rfl]
    unfold M
    rw [if_neg (show ¬ (mag a).toNat < 4503599627370496 by omega)]
    have e1 : (mag a).toNat % 4503599627370496 = (frac a).toNat := by omega
    have e2 : (mag a).toNat / 4503599627370496 = (expo a).toNat := by omega
    rw [e1, e2, show (expo a - 1075 + 1074).toNat = (expo a).toNat - 1 by omega, Nat.add_comm]

theorem dlen_pow {n K k : Nat} (h : n < 2 ^ K) (hK : K ≤ 16 * k) : dlen n ≤ k := by
  refine dlen_le (Nat.lt_of_lt_of_le h ?_)
  rw [pow16]
  exact Nat.pow_le_pow_right (by decide) (by omega)

theorem up_nat (v : Value) (n l k : Nat) (K : Int) (w : World) (hK : K = (k : Int)) (hD : D w v n l) (hl : l ≤ 134217728) (hk : k ≤ 1073741824) :
    Calls Tryz.prog 33 #[v, .int .i64 K] w fun e w' => ∃ v', e = .returned v' ∧ D w' v' (n * 2 ^ k) (dlen (n * 2 ^ k)) ∧ Below w.heap.size w w' := by
  rw [hK]; exact up_any v n l k w hD hl hk

theorem sz_add (s : Bool) (x y : Nat) : sz s x + sz s y = sz s (x + y) := by unfold sz; cases s <;> simp <;> omega
theorem sz_sub {s t : Bool} {x y : Nat} (h : s ≠ t) (hx : y ≤ x) : sz s x + sz t y = sz s (x - y) := by
  unfold sz; cases s <;> cases t <;> simp at * <;> omega
theorem sz_sub2 {s t : Bool} {x y : Nat} (h : s ≠ t) (hx : x ≤ y) : sz s x + sz t y = sz t (y - x) := by
  unfold sz; cases s <;> cases t <;> simp at * <;> omega

/-- How sign and size of a sum come of those of the two. -/
def ExactP (n o ng : Bool) (X Y N : Nat) : Prop := (n = o ∧ ng = n ∧ N = X + Y) ∨ (n ≠ o ∧ ng = n ∧ Y ≤ X ∧ N = X - Y) ∨ (n ≠ o ∧ ng = o ∧ X ≤ Y ∧ N = Y - X)

end Go.Proofs.YtjbnjfdpfkdmeaaGreatDoor

/-
  The reference of layer 2: Sum, Add, Sub, Neg, Mul.
-/
namespace Go.Proofs.YtjbnjfdpfkdmeaaGreatDoor
set_option maxRecDepth 100000
open Go.RowKit Dg Flo

theorem sz_zero {s : Bool} {n : Nat} : sz s n = 0 ↔ n = 0 := by unfold sz; cases s <;> simp
theorem sz_neg {s : Bool} {n : Nat} (h : n ≠ 0) : decide (sz s n < 0) = s := by unfold sz; cases s <;> simp <;> omega
theorem sz_abs (s : Bool) (n : Nat) : (sz s n).natAbs = n := by unfold sz; cases s <;> simp
theorem MZ_zero {a : Int} (h0 : 0 ≤ mag a) : MZ a = 0 ↔ mag a = 0 := by
  unfold MZ
  have := @M_inj (mag a).toNat 0
  rw [M_zero] at this
  rw [this]
  omega
theorem zero_signs {a b : Int} (ha : U64 a) (hb : U64 b) (h : SV a + SV b = 0) (h2 : (belowB a && belowB b) = true) : mag a = 0 ∧ mag b = 0 := by
  have h3 : belowB a = true := by revert h2; cases belowB a <;> simp
  have h4 : belowB b = true := by revert h2; cases belowB b <;> simp
  unfold SV sz at h
  rw [h3, h4] at h
  simp only [if_true] at h
  exact ⟨(MZ_zero (mag_range ha).1).1 (by omega), (MZ_zero (mag_range hb).1).1 (by omega)⟩
theorem kind_zero0 {a : Int} (h : mag a = 0) : kindZ a = 0 := by unfold kindZ; rw [h]; rfl

theorem rung_one (v : Nat) : rung 1 (2 * v) = rung 0 v := by
  have := rung_scale 0 v 1
  rw [Nat.zero_add, Nat.pow_one, Nat.mul_comm v 2] at this
  exact this

theorem round_one (v : Value) (N l : Nat) (exp : Int) (neg : Bool) (w : World) (hD : D w v N l) (hl : l ≤ 1048576) (e1 : -1074 ≤ exp) (e2 : exp ≤ 16777216) :
    Calls Tryz.prog 68 #[.bool neg, .int .i64 exp, v, .bool false] w fun e w' => e = .returned (.int .u64 (sgn neg + (rung 0 (N * 2 ^ (exp + 1074).toNat) : Nat))) ∧ Below w.heap.size w w' := by
  have h := round_any v N l 1 exp false neg w hD hl (by omega) e2 (by omega) (by simp)
  have e : (2 * N + false.toNat) * 2 ^ (exp + 1073 + ((1 : Nat) : Int)).toNat = 2 * (N * 2 ^ (exp + 1074).toNat) := by
    rw [show exp + 1073 + ((1 : Nat) : Int) = exp + 1074 by omega]
    simp only [Bool.toNat_false, Nat.add_zero]
    rw [Nat.mul_assoc]
  rw [e, rung_one] at h
  exact h

end Go.Proofs.YtjbnjfdpfkdmeaaGreatDoor

/-
  Trim, Sum and Minus once more: what they hand back lies in a block of its own.
-/
namespace Go.Proofs.YtjbnjfdpfkdmeaaGreatDoor
set_option maxRecDepth 100000
open Go.RowKit Dg

/-- A slice whose block is not one of the first B. -/
def Fresh (B : Nat) (v : Value) : Prop := ∀ g, v.ownBlock = some g → B ≤ g
theorem Fresh.mono {B B' : Nat} {v : Value} (h : Fresh B v) (hb : B' ≤ B) : Fresh B' v := fun g hg => Nat.le_trans hb (h g hg)
theorem fresh_made (w : World) : Fresh w.heap.size (.slice (some ⟨w.heap.size, 0, none⟩) 0 0) := by
  intro g hg; simp [Value.ownBlock] at hg; omega

set_option maxHeartbeats 400000 in
theorem trim_new (v : Value) (n l : Nat) (w : World) (hD : D w v n l) (hl : l ≤ 1073741824) :
    Calls Tryz.prog 65 #[v] w fun e w' => ∃ v', e = .returned v' ∧ D w' v' n (dlen n) ∧ Below w.heap.size w w' ∧ Fresh w.heap.size v' := by
  have hsh := hD.shape
  have hlt := hD.lt
  obtain ⟨ds, g, cap, rfl, hlen, hsm, hval, hown⟩ := hD
  obtain ⟨g', cap', hv', hg, hlc, hcm, hcell⟩ := hsh
  obtain ⟨rfl, rfl⟩ : g = g' ∧ cap = cap' := by simpa using hv'
  clear hv'
  unfold maxLen at hcm
  obtain ⟨i0, hi, hz0, hz1, hz2⟩ := info_parts infoU
  go_enter Tryz.func65, Tryz.ntmps65
  go_wp2
  go_loop [3] (fun t => ∃ k : Nat, k ≤ l ∧ t = .int .i64 k ∧ n < 65536 ^ k) (fun t => (intOf t).toNat)
  case atStart => exact ⟨l, Nat.le_refl _, rfl, hlt⟩
  case round =>
    obtain ⟨k, hk, rfl, hn⟩ := hrel
    cases k with
    | zero =>
      have hz : n = 0 := by simpa using hn
      clear hcell
      go_wp2
      go_ret
      exact ⟨_, rfl, D_empty w, (Below.refl _ _).alloc (Nat.le_refl _) _, fresh_made w⟩
    | succ k =>
      have hc := hcell k (by omega)
      clear hcell
      by_cases c : dig n k = 0
      · rw [c] at hc
        go_wp2
        go_round
        case rel => exact ⟨k, by omega, by go_num, lt_of_dig hn c⟩
        case measure => simp [intOf]
      · have hcz : (((dig n k : Nat) : Int) == 0) = false := by rw [beq_eq_false_iff_ne]; omega
        have hds : (cells (ds.take (k + 1))).length = (k + 1) * 1 := by rw [cells_length, List.length_take]; omega
        have HN : Hid (∀ j u, (cells (ds.take (k + 1)))[j]? = some u → (w.alloc (.cells #[] 22)).cell? ((⟨g, 0, none⟩ : Addr).add j) = some u) := news_of_own hown _
        have hm : (w.alloc (.cells #[] 22)).ownsRow w.heap.size 22 1 (.slice (some ⟨w.heap.size, 0, none⟩) 0 0) 0 [] := World.ownsRow_made w #[] 0 (Nat.le_refl _) (by decide) rfl
        have h1 := cells_one (ds.take (k + 1))
        have hv : val (ds.take (k + 1)) = n := by rw [val_take ds (k + 1) hsm (by omega), hval, Nat.mod_eq_of_lt hn]
        have hlast : k + 1 = dlen n := dlen_eq hn (Or.inr (by simpa using c))
        have HV : Hid (val (ds.take (k + 1)) = n ∧ k + 1 = dlen n) := ⟨hv, hlast⟩
        have hs := small_take (k + 1) hsm
        clear hv hlast
        go_wp2_with (at_builtin; refine wpList_append_own _ rfl _ _ 50 rfl w.heap.size 22 i0 (.int .u64 0) 1 8 Tryz.underlying50 hi hz0 hz1 hz2 rfl (by decide) _ 0 [] rfl hm ⟨g, 0, none⟩ (k + 1) cap (cells (ds.take (k + 1))) rfl hds HN.out h1 (by unfold maxLen; omega) (by omega) (by simp) ?_)
        intro v' w1 hown' hgrow _
        have R := trim_close (ownsRow_base hown') hgrow hs HV.out
        have F : Fresh w.heap.size v' := fun g hg => (hown'.lt g hg).1
        clear hown' hgrow
        go_wp2
        go_ret
        exact ⟨_, rfl, R.1, R.2, F⟩

set_option maxHeartbeats 1000000 in
theorem sum_new (v u : Value) (n l m k : Nat) (w : World) (hD : D w v n l) (hE : D w u m k) (hl : l ≤ 536870912) (hk : k ≤ 536870912) :
    Calls Tryz.prog 29 #[v, u] w fun e w' => ∃ v', e = .returned v' ∧ D w' v' (n + m) (dlen (n + m)) ∧ Below w.heap.size w w' ∧ Fresh w.heap.size v' := by
  obtain ⟨i0, hi, hz0, hz1, hz2⟩ := info_parts infoU
  obtain ⟨L, hL⟩ : ∃ L, L = max l k := ⟨_, rfl⟩
  have hL1 : L ≤ 536870912 := by omega
  have hn : n < 65536 ^ L := Nat.lt_of_lt_of_le hD.lt (Nat.pow_le_pow_right (by decide) (by omega))
  have hm : m < 65536 ^ L := Nat.lt_of_lt_of_le hE.lt (Nat.pow_le_pow_right (by decide) (by omega))
  have HL : Hid (max l k = L) := hL.symm
  clear hL
  obtain ⟨B, hB⟩ : ∃ B, B = w.heap.size := ⟨_, rfl⟩
  go_enter Tryz.func29, Tryz.ntmps29
  go_wp2
  go_loopw [5, 6, 7] (fun o c i wr => ∃ (j cc : Nat) (os : List Nat), j ≤ L ∧ i = .int .i64 j ∧ c = .int .u64 cc ∧ cc ≤ 1 ∧ os.length = j ∧ Small16 os ∧ val os + 65536 ^ j * cc = n % 65536 ^ j + m % 65536 ^ j ∧
      wr.ownsRow w.heap.size 22 1 o j (cells os) ∧ Below w.heap.size w wr ∧ w.heap.size ≤ wr.heap.size ∧ D wr v n l ∧ D wr u m k) (fun _ _ i _ => L - (intOf i).toNat)
  case atStart =>
    exact ⟨0, 0, [], Nat.zero_le _, rfl, rfl, by omega, rfl, by intro x hx; simp at hx, by simp [val, Nat.mod_one], World.ownsRow_made w #[] 0 (Nat.le_refl _) (by decide) rfl, (Below.refl _ _).alloc (Nat.le_refl _) _, by simp, hD.below ((Below.refl _ _).alloc (Nat.le_refl _) _), hE.below ((Below.refl _ _).alloc (Nat.le_refl _) _)⟩
  case round =>
    obtain ⟨j, cc, os, hj, rfl, rfl, hc1, hlen, hsm, hval, hown, hbel, hsz, hDr, hEr⟩ := hrel
    have HV : Hid (val os + 65536 ^ j * cc = n % 65536 ^ j + m % 65536 ^ j) := hval
    clear hval
    by_cases hlt : j < L
    · obtain ⟨p, hp⟩ : ∃ p, p = dig n j := ⟨_, rfl⟩
      obtain ⟨q, hq⟩ : ∃ q, q = dig m j := ⟨_, rfl⟩
      have p1 : p < 65536 := by rw [hp]; exact dig_lt _ _
      have q1 : q < 65536 := by rw [hq]; exact dig_lt _ _
      obtain ⟨d, hd⟩ : ∃ d, d = (p + q + cc) % 65536 := ⟨_, rfl⟩
      obtain ⟨f, hf⟩ : ∃ f, f = (p + q + cc) / 65536 := ⟨_, rfl⟩
      have t1 : bits .and .u64 ((p : Int) + (q : Int) + (cc : Int)) 65535 = (d : Int) := by
        have := and16 (p + q + cc) (by omega)
        rw [hd, ← this]; simp
      have t2 : ((p : Int) + (q : Int) + (cc : Int)) / 65536 = (f : Int) := by rw [hf]; simp
      have hM := sum_math hp hq hlen HV.out
      rw [← hd, ← hf] at hM
      have HM : Hid (val (os ++ [d]) + 65536 ^ (j + 1) * f = n % 65536 ^ (j + 1) + m % 65536 ^ (j + 1)) := hM
      have d1 : d < 65536 := by omega
      have f1 : f ≤ 1 := by omega
      have H1 : Hid (∀ w, D w v n l → Calls Tryz.prog 64 #[v, .int .i64 j] w fun e w' => e = .returned (.int .u64 p) ∧ w' = w) := by
        intro w h
        have := at_any v n l j w h (by omega)
        rw [Int.toNat_natCast, ← hp] at this
        exact this
      have H2 : Hid (∀ w, D w u m k → Calls Tryz.prog 64 #[u, .int .i64 j] w fun e w' => e = .returned (.int .u64 q) ∧ w' = w) := by
        intro w h
        have := at_any u m k j w h (by omega)
        rw [Int.toNat_natCast, ← hq] at this
        exact this
      have hs2 := small_snoc hsm d1
      clear hp hq hd hf hM
      go_wp2_with fail
      refine (most_any _ _ n l m k _ hDr hEr).mono ?_
      rintro e w' ⟨rfl, rfl⟩
      rw [HL.out]
      go_wp2_with fail
      refine (H1.out _ hDr).mono ?_
      rintro e w' ⟨rfl, rfl⟩
      go_wp2_with fail
      refine (H2.out _ hEr).mono ?_
      rintro e w' ⟨rfl, rfl⟩
      go_wp2_with (at_builtin; refine wpList_append_own _ rfl _ _ 50 rfl w.heap.size 22 i0 (.int .u64 0) 1 8 Tryz.underlying50 hi hz0 hz1 hz2 rfl (by decide) _ j (cells os) rfl (hown.alloc _) ⟨w'.heap.size, 0, none⟩ 1 1 [.int .u64 (d : Int)] rfl rfl (one_new _ _ _) (by intro x hx; simp at hx; subst hx; rfl) (by unfold maxLen; omega) (by omega) (by simp; omega) ?_)
      intro v' w1 hown' hgrow _
      have R := sum_step hown hbel hsz hown' hgrow
      have hD1 := hD.below R.2.1
      have hE1 := hE.below R.2.1
      clear hown' hgrow hown hbel hsz
      go_wp2
      go_roundw
      case rel => exact ⟨j + 1, f, os ++ [d], by omega, by go_num, rfl, f1, by simp [hlen], hs2, HM.out, R.1, R.2.1, R.2.2, hD1, hE1⟩
      case measure => simp [intOf]; omega
    · have HJ : Hid (j = L) := by show j = L; omega
      go_wp2_with fail
      refine (most_any _ _ n l m k _ hDr hEr).mono ?_
      rintro e w' ⟨rfl, rfl⟩
      rw [HL.out]
      go_wp2_with (at_builtin; refine wpList_append_own _ rfl _ _ 50 rfl w.heap.size 22 i0 (.int .u64 0) 1 8 Tryz.underlying50 hi hz0 hz1 hz2 rfl (by decide) _ j (cells os) rfl (hown.alloc _) ⟨w'.heap.size, 0, none⟩ 1 1 [.int .u64 (cc : Int)] rfl rfl (one_new _ _ _) (by intro x hx; simp at hx; subst hx; rfl) (by unfold maxLen; omega) (by omega) (by simp; omega) ?_)
      intro v' w1 hown' hgrow _
      have R := sum_step hown hbel hsz hown' hgrow
      have hd : D w1 v' (n + m) (j + 1) := sum_end (ownsRow_base R.1) hsm hc1 hlen HJ.out hn hm HV.out
      have hb := R.2.1
      clear hown' hgrow hown hbel hsz R
      go_wp2_with fail
      refine (trim_new _ (n + m) (j + 1) _ hd (by omega)).mono ?_
      rintro e w2 ⟨v2, rfl, hd2, hb2, hf2⟩
      go_wp2
      go_ret
      exact ⟨_, rfl, hd2, hb.trans (hb2.mono hb.size), hf2.mono hb.size⟩

set_option maxHeartbeats 1000000 in
theorem minus_new (v u : Value) (n l m k : Nat) (w : World) (hD : D w v n l) (hE : D w u m k) (hl : l ≤ 536870912) (hm : m ≤ n) :
    Calls Tryz.prog 83 #[v, u] w fun e w' => ∃ v', e = .returned v' ∧ D w' v' (n - m) (dlen (n - m)) ∧ Below w.heap.size w w' ∧ Fresh w.heap.size v' := by
  obtain ⟨i0, hi, hz0, hz1, hz2⟩ := info_parts infoU
  have hn := hD.lt
  have hsh := hD.shape
  obtain ⟨g, cap, rfl, hg, hlc, hcm, -⟩ := hsh
  unfold maxLen at hcm
  go_enter Tryz.func83, Tryz.ntmps83
  go_wp2
  go_loopw [5, 6, 7] (fun o c i wr => ∃ (j cc : Nat) (os : List Nat), j ≤ l ∧ i = .int .i64 j ∧ c = .int .u64 cc ∧ cc ≤ 1 ∧ os.length = j ∧ Small16 os ∧ n % 65536 ^ j + 65536 ^ j * cc = val os + m % 65536 ^ j ∧
      wr.ownsRow w.heap.size 22 1 o j (cells os) ∧ o ≠ .slice none 0 0 ∧ Below w.heap.size w wr ∧ w.heap.size ≤ wr.heap.size ∧ D wr (.slice (some ⟨g, 0, none⟩) l cap) n l ∧ D wr u m k) (fun _ _ i _ => l - (intOf i).toNat)
  case atStart =>
    exact ⟨0, 0, [], Nat.zero_le _, rfl, rfl, by omega, rfl, by intro x hx; simp at hx, by simp [val, Nat.mod_one], World.ownsRow_made w #[] 0 (Nat.le_refl _) (by decide) rfl, by simp, (Below.refl _ _).alloc (Nat.le_refl _) _, by simp, hD.below ((Below.refl _ _).alloc (Nat.le_refl _) _), hE.below ((Below.refl _ _).alloc (Nat.le_refl _) _)⟩
  case round =>
    obtain ⟨j, cc, os, hj, rfl, rfl, hc1, hlen, hsm, hval, hown, hnil, hbel, hsz, hDr, hEr⟩ := hrel
    have HV : Hid (n % 65536 ^ j + 65536 ^ j * cc = val os + m % 65536 ^ j) := hval
    clear hval
    by_cases hlt : j < l
    · obtain ⟨p, hp⟩ : ∃ p, p = dig n j := ⟨_, rfl⟩
      obtain ⟨q, hq⟩ : ∃ q, q = dig m j := ⟨_, rfl⟩
      have p1 : p < 65536 := by rw [hp]; exact dig_lt _ _
      have q1 : q < 65536 := by rw [hq]; exact dig_lt _ _
      obtain ⟨f, hf⟩ : ∃ f, f = if p < q + cc then 1 else 0 := ⟨_, rfl⟩
      obtain ⟨d, hd⟩ : ∃ d, d = p + 65536 * f - (q + cc) := ⟨_, rfl⟩
      have hpd : p + 65536 * f = d + (q + cc) := by rw [hd, hf]; split <;> omega
      have hM := minus_math hp hq hlen HV.out hpd
      have HM : Hid (n % 65536 ^ (j + 1) + 65536 ^ (j + 1) * f = val (os ++ [d]) + m % 65536 ^ (j + 1)) := hM
      have d1 : d < 65536 := by rw [hd, hf]; split <;> omega
      have f1 : f ≤ 1 := by rw [hf]; split <;> omega
      have hcell : wr.cell? ⟨g, j, none⟩ = some (.int .u64 (p : Int)) := by rw [hp]; exact hDr.shape_cell rfl hlt
      have H2 : Hid (∀ w, D w u m k → Calls Tryz.prog 64 #[u, .int .i64 j] w fun e w' => e = .returned (.int .u64 q) ∧ w' = w) := by
        intro w h
        have := at_any u m k j w h (by omega)
        rw [Int.toNat_natCast, ← hq] at this
        exact this
      have hs2 := small_snoc hsm d1
      clear hp hq hM hd
      by_cases hlow : p < q + cc
      · rw [if_pos hlow] at hf
        subst hf
        have hd2 : (p : Int) + 65536 - ((q : Int) + (cc : Int)) = (d : Int) := by omega
        have HD2 : Hid ((p : Int) + 65536 - ((q : Int) + (cc : Int)) = (d : Int)) := hd2
        clear hpd hd2
        go_wp2_with fail
        go_quiet ((go_at_call 64; refine Calls.quiet_of_same (H2.out _ ?_); exact hEr))
        have hownq : (wr.drewN nq).ownsRow w.heap.size 22 1 u5 j (cells os) := hown
        have hbq : Below w.heap.size w (wr.drewN nq) := below_drewN hbel nq
        have hszq : w.heap.size ≤ (wr.drewN nq).heap.size := hsz
        clear hcell hEr hDr hown hbel hsz
        generalize wr.drewN nq = wq at *
        have hd2 := HD2.out
        go_wp2_with (at_builtin; refine wpList_append_own _ rfl _ _ 50 rfl w.heap.size 22 i0 (.int .u64 0) 1 8 Tryz.underlying50 hi hz0 hz1 hz2 rfl (by decide) _ j (cells os) rfl (hownq.alloc _) ⟨wq.heap.size, 0, none⟩ 1 1 [.int .u64 (d : Int)] rfl rfl (one_new _ _ _) (by intro x hx; simp at hx; subst hx; rfl) (by unfold maxLen; omega) (by omega) (by simp; omega) ?_)
        intro v' w1 hown' hgrow _
        have R := sum_step hownq hbq hszq hown' hgrow
        have hD1 := hD.below R.2.1
        have hE1 := hE.below R.2.1
        clear hown' hgrow hownq hbq hszq
        go_wp2
        go_roundw
        case rel => exact ⟨j + 1, 1, os ++ [d], by omega, by go_num, rfl, f1, by simp [hlen], hs2, HM.out, R.1, nil_ne R.1, R.2.1, R.2.2, hD1, hE1⟩
        case measure => simp [intOf]; omega
      · rw [if_neg hlow] at hf
        subst hf
        have hd2 : (p : Int) - ((q : Int) + (cc : Int)) = (d : Int) := by omega
        have HD2 : Hid ((p : Int) - ((q : Int) + (cc : Int)) = (d : Int)) := hd2
        clear hpd hd2
        go_wp2_with fail
        go_quiet ((go_at_call 64; refine Calls.quiet_of_same (H2.out _ ?_); exact hEr))
        have hownq : (wr.drewN nq).ownsRow w.heap.size 22 1 u5 j (cells os) := hown
        have hbq : Below w.heap.size w (wr.drewN nq) := below_drewN hbel nq
        have hszq : w.heap.size ≤ (wr.drewN nq).heap.size := hsz
        clear hcell hEr hDr hown hbel hsz
        generalize wr.drewN nq = wq at *
        have hd2 := HD2.out
        go_wp2_with (at_builtin; refine wpList_append_own _ rfl _ _ 50 rfl w.heap.size 22 i0 (.int .u64 0) 1 8 Tryz.underlying50 hi hz0 hz1 hz2 rfl (by decide) _ j (cells os) rfl (hownq.alloc _) ⟨wq.heap.size, 0, none⟩ 1 1 [.int .u64 (d : Int)] rfl rfl (one_new _ _ _) (by intro x hx; simp at hx; subst hx; rfl) (by unfold maxLen; omega) (by omega) (by simp; omega) ?_)
        intro v' w1 hown' hgrow _
        have R := sum_step hownq hbq hszq hown' hgrow
        have hD1 := hD.below R.2.1
        have hE1 := hE.below R.2.1
        clear hown' hgrow hownq hbq hszq
        go_wp2
        go_roundw
        case rel => exact ⟨j + 1, 0, os ++ [d], by omega, by go_num, rfl, f1, by simp [hlen], hs2, HM.out, R.1, nil_ne R.1, R.2.1, R.2.2, hD1, hE1⟩
        case measure => simp [intOf]; omega
    · have HJ : j = l := by omega
      have hd : D wr u5 (n - m) j := minus_end (ownsRow_base hown) hnil hsm hlen HJ hn hm HV.out
      have hb := hbel
      clear hown hbel hsz HJ
      go_wp2_with fail
      refine (trim_new _ (n - m) j _ hd (by omega)).mono ?_
      rintro e w2 ⟨v2, rfl, hd2, hb2, hf2⟩
      go_wp2
      go_ret
      exact ⟨_, rfl, hd2, hb.trans (hb2.mono hb.size), hf2.mono hb.size⟩

end Go.Proofs.YtjbnjfdpfkdmeaaGreatDoor

/-
  Powers of ten: what the reference's Ten will need.
-/
namespace Go.Proofs.YtjbnjfdpfkdmeaaGreatDoor
set_option maxRecDepth 100000
open Go.RowKit Dg Flo

theorem pow_ten_lt (n : Nat) : 10 ^ n ≤ 2 ^ (4 * n) := by
  rw [Nat.pow_mul]; exact Nat.pow_le_pow_left (by decide) n
theorem dlen_ten {N n L : Nat} (h : N ≤ 10 ^ n) (hL : 4 * n + 1 ≤ 16 * L) : dlen N ≤ L := by
  refine dlen_pow (K := 4 * n + 1) ?_ hL
  have := pow_ten_lt n
  rw [Nat.pow_succ]
  have := Nat.two_pow_pos (4 * n)
  omega
theorem ten_step_odd {N P k T : Nat} (h : N * P ^ k = T) (hk : k % 2 = 1) : N * P * (P * P) ^ (k / 2) = T := by
  rw [← h]
  have e : k = 1 + 2 * (k / 2) := by omega
  conv => rhs; rw [e, Nat.pow_add, Nat.pow_mul, Nat.pow_one, Nat.pow_two]
  rw [Nat.mul_assoc]
theorem ten_step_even {N P k T : Nat} (h : N * P ^ k = T) (hk : k % 2 = 0) : N * (P * P) ^ (k / 2) = T := by
  rw [← h]
  have e : k = 2 * (k / 2) := by omega
  conv => rhs; rw [e, Nat.pow_mul, Nat.pow_two]
theorem ten_parts {N P k T : Nat} (h : N * P ^ k = T) (hT : 0 < T) : 0 < N ∧ N ≤ T ∧ (0 < k → P ≤ T) := by
  have hN : 0 < N := by
    rcases Nat.eq_zero_or_pos N with c | c
    · rw [c, Nat.zero_mul] at h; omega
    · exact c
  have hP : 0 < P ^ k := by
    rcases Nat.eq_zero_or_pos (P ^ k) with c | c
    · rw [c, Nat.mul_zero] at h; omega
    · exact c
  refine ⟨hN, ?_, ?_⟩
  · rw [← h]; exact Nat.le_mul_of_pos_right _ hP
  · intro hk
    have h1 : P ≤ P ^ k := by
      rcases Nat.eq_zero_or_pos P with c | c
      · omega
      · exact Nat.le_pow hk
    exact Nat.le_trans h1 (by rw [← h]; exact Nat.le_mul_of_pos_left _ hN)

set_option maxHeartbeats 1000000 in
theorem ten_any (n : Nat) (w : World) (hn : n ≤ 2000) : Calls Tryz.prog 61 #[.int .i64 (n : Int)] w fun e w' => ∃ v l, e = .returned v ∧ D w' v (10 ^ n) l ∧ l ≤ 1001 ∧ Below w.heap.size w w' := by
  have hT : 0 < 10 ^ n := Nat.pow_pos (by decide)
  have HL : Hid (∀ N, N ≤ 10 ^ n → dlen N ≤ 1000) := fun N h => dlen_ten h (by omega)
  have HP : Hid (∀ P, P ≤ 10 ^ n → dlen (P * P) ≤ 1001) := by
    intro P h
    have : P * P ≤ 10 ^ (n + n) := by rw [Nat.pow_add]; exact Nat.mul_le_mul h h
    exact dlen_ten this (by omega)
  obtain ⟨T, hTe⟩ : ∃ T, 10 ^ n = T := ⟨_, rfl⟩
  have H0 : Hid (1 * 10 ^ n = T) := by show 1 * 10 ^ n = T; rw [Nat.one_mul, hTe]
  rw [hTe] at hT HL HP ⊢
  clear hTe
  have hd1 := D_one w 1 (by decide)
  have hd2 := D_one (w.alloc (.cells #[.int .u64 ((1 : Nat) : Int)] 22)) 10 (by decide)
  have hs : (w.alloc (.cells #[.int .u64 ((1 : Nat) : Int)] 22)).heap.size = w.heap.size + 1 := by simp
  have hd3 := hd1.below ((Below.refl (w.alloc (.cells #[.int .u64 ((1 : Nat) : Int)] 22)).heap.size (w.alloc (.cells #[.int .u64 ((1 : Nat) : Int)] 22))).alloc (Nat.le_refl _) (.cells #[.int .u64 ((10 : Nat) : Int)] 22))
  have hb1 : Below w.heap.size w (w.alloc (.cells #[.int .u64 ((1 : Nat) : Int)] 22)) := (Below.refl _ _).alloc (Nat.le_refl _) _
  have hb2 : Below w.heap.size w ((w.alloc (.cells #[.int .u64 ((1 : Nat) : Int)] 22)).alloc (.cells #[.int .u64 ((10 : Nat) : Int)] 22)) := hb1.alloc hb1.size _
  rw [hs] at hd2
  clear hd1 hb1 hs
  go_enter Tryz.func61, Tryz.ntmps61
  go_wp2_with fail
  go_loopw [0, 3, 4] (fun t o p wr => ∃ (k N P lo lp : Nat), k ≤ 2000 ∧ t = .int .i64 k ∧ D wr o N lo ∧ D wr p P lp ∧ lo ≤ 1001 ∧ lp ≤ 1001 ∧ Hid (N * P ^ k = T) ∧ Below w.heap.size w wr) (fun t _ _ _ => (intOf t).toNat)
  case atStart => exact ⟨n, 1, 10, 1, 1, hn, rfl, hd3, hd2, by decide, by decide, H0, hb2⟩
  case round =>
    obtain ⟨k, N, P, lo, lp, hk, rfl, hdo, hdp, hlo, hlp, HI, hbr⟩ := hrel
    obtain ⟨n1, n2, n3⟩ := ten_parts HI.out hT
    by_cases c : k = 0
    · subst c
      have e : N = T := by have := HI.out; rw [Nat.pow_zero, Nat.mul_one] at this; exact this
      subst e
      clear HI n1 n2 n3
      go_wp2
      go_ret
      exact ⟨_, lo, rfl, hdo, hlo, hbr⟩
    · have hP := HP.out P (n3 (by omega))
      have hk2 : 0 < k := by omega
      by_cases d : k % 2 = 1
      · have d1 : (k : Int) % 2 = 1 := by omega
        have HN : Hid (N * P * (P * P) ^ (k / 2) = T) := ten_step_odd HI.out d
        have hlN : dlen (N * P) ≤ 1001 := Nat.le_trans (HL.out _ (ten_parts HN.out hT).2.1) (by decide)
        clear HI n1 n2 n3
        go_wp2_with fail
        refine (prod_any _ _ N lo P lp _ hdo hdp (by omega) (by omega)).mono ?_
        rintro e w1 ⟨v1, rfl, hd1, hb1⟩
        have hdp1 := hdp.below hb1
        replace hb1 := hbr.trans (hb1.mono hbr.size)
        go_wp2_with fail
        refine (prod_any _ _ P lp P lp _ hdp1 hdp1 (by omega) (by omega)).mono ?_
        rintro e w2 ⟨v2, rfl, hd4, hb4⟩
        have hd5 := hd1.below hb4
        replace hb4 := hb1.trans (hb4.mono hb1.size)
        go_wp2
        go_roundw
        case rel => exact ⟨k / 2, N * P, P * P, _, _, by omega, by go_num, hd5, hd4, hlN, hP, HN, hb4⟩
        case measure => simp [intOf]; omega
      · have d1 : (k : Int) % 2 = 0 := by omega
        have HN : Hid (N * (P * P) ^ (k / 2) = T) := ten_step_even HI.out (by omega)
        clear HI n1 n2 n3
        go_wp2_with fail
        refine (prod_any _ _ P lp P lp _ hdp hdp (by omega) (by omega)).mono ?_
        rintro e w2 ⟨v2, rfl, hd4, hb4⟩
        have hd5 := hdo.below hb4
        replace hb4 := hbr.trans (hb4.mono hbr.size)
        go_wp2
        go_roundw
        case rel => exact ⟨k / 2, N, P * P, _, _, by omega, by go_num, hd5, hd4, hlo, hP, HN, hb4⟩
        case measure => simp [intOf]; omega

end Go.Proofs.YtjbnjfdpfkdmeaaGreatDoor

/-
  The landed nearest, walked; read of any text.
-/
namespace Go.Proofs.YtjbnjfdpfkdmeaaGreatDoor
set_option maxRecDepth 100000
open Go.RowKit Pt Flo Txt

/-- Read of any text. -/
theorem read_none (l : List UInt8) (w : World) (hl : l.length ≤ 400) (h : numL l = none) :
    Calls Tryz.prog 36 #[.string (bs l)] w fun e w' => e = .returned (.tuple #[.agg #[.string ⟨#[]⟩, .int .i64 0], .bool false]) ∧ Below w.heap.size w w' := by
  have HC : ∀ w, Calls Tryz.prog 70 #[.string (bs l)] w fun e w' => e = .returned (.tuple #[.string (bs (Txt.dig l)), .string (bs (rst l))]) ∧ ∃ q, w' = w.drewN q := fun w => cut_any l w (by omega)
  have hlen := congrArg List.length (dig_rst l)
  rw [List.length_append] at hlen
  unfold numL at h
  by_cases e1 : Txt.dig l = []
  · exact read_A _ _ _ w HC (by rw [emp_bs, e1]; rfl)
  · have he : (bs (Txt.dig l)).toList.isEmpty = false := by rw [emp_bs]; simpa using e1
    rw [if_neg e1] at h
    generalize hr : rst l = R at *
    cases R with
    | nil => simp at h
    | cons c r =>
      simp only [List.length_cons] at hlen
      have hsz : (bs (c :: r)).size = r.length + 1 := bs_size _
      have HPr : ∀ w, Calls Tryz.prog 51 #[.string (bs (c :: r)), .string ⟨#[46]⟩] w fun e w' => e = .returned (.bool (hp 46 (c :: r))) ∧ w' = w := fun w => pref_any (c :: r) 46 w (by simp; omega)
      by_cases c46 : c.toNat = 46
      · have e2 : hp 46 (c :: r) = true := byte_eq c46
        rw [e2] at HPr
        simp only [c46, if_true] at h
        have HC2 : ∀ w, Calls Tryz.prog 70 #[.string (bs r)] w fun e w' => e = .returned (.tuple #[.string (bs (Txt.dig r)), .string (bs (rst r))]) ∧ ∃ q, w' = w.drewN q := fun w => cut_any r w (by omega)
        have hlen2 := congrArg List.length (dig_rst r)
        rw [List.length_append] at hlen2
        by_cases e3 : Txt.dig r = []
        · exact read_D _ _ _ _ _ _ w HC he HPr (by omega) (by omega) (bs_tail c r) HC2 (by rw [emp_bs, e3]; rfl)
        · have hb : (bs (Txt.dig r)).toList.isEmpty = false := by rw [emp_bs]; simpa using e3
          rw [if_neg e3] at h
          generalize hr2 : rst r = R2 at *
          cases R2 with
          | nil => simp [Txt.expo] at h
          | cons d q =>
            have hx : Txt.expo (d :: q) = none := by simpa using h
            have HE : ∀ w, Calls Tryz.prog 71 #[.string (bs (d :: q))] w fun e w' => e = .returned (.tuple #[.int .i64 0, .bool false]) ∧ ∃ q, w' = w.drewN q := fun w => by
              have := readExp_any d q w (by simp only [List.length_cons] at hlen2; omega)
              rw [hx] at this
              exact this
            exact read_Fn _ _ _ _ _ _ 0 w HC he HPr (by omega) (by omega) (bs_tail c r) HC2 hb (by rw [bs_size]; omega) (by rw [bs_size]; omega) (by rw [emp_bs]; rfl) HE
      · have e2 : hp 46 (c :: r) = false := byte_ne c46
        rw [e2] at HPr
        simp only [c46, if_false] at h
        have hx : Txt.expo (c :: r) = none := by simpa using h
        have HE : ∀ w, Calls Tryz.prog 71 #[.string (bs (c :: r))] w fun e w' => e = .returned (.tuple #[.int .i64 0, .bool false]) ∧ ∃ q, w' = w.drewN q := fun w => by
          have := readExp_any c r w (by omega)
          rw [hx] at this
          exact this
        exact read_Cn _ _ _ 0 w HC he HPr (by rw [emp_bs]; rfl) HE
theorem read_yes (l D : List UInt8) (E : Int) (w : World) (hl : l.length ≤ 400) (h : numL l = some (D, E)) :
    Calls Tryz.prog 36 #[.string (bs l)] w fun e w' => (∃ x, Held x E ∧ -41000 ≤ x ∧ x ≤ 41000 ∧ e = .returned (.tuple #[.agg #[.string (bs D), .int .i64 x], .bool true])) ∧ Below w.heap.size w w' := by
  have HC : ∀ w, Calls Tryz.prog 70 #[.string (bs l)] w fun e w' => e = .returned (.tuple #[.string (bs (Txt.dig l)), .string (bs (rst l))]) ∧ ∃ q, w' = w.drewN q := fun w => cut_any l w (by omega)
  have hlen := congrArg List.length (dig_rst l)
  rw [List.length_append] at hlen
  unfold numL at h
  by_cases e1 : Txt.dig l = []
  · rw [if_pos e1] at h; simp at h
  · have he : (bs (Txt.dig l)).toList.isEmpty = false := by rw [emp_bs]; simpa using e1
    rw [if_neg e1] at h
    generalize hr : rst l = R at *
    cases R with
    | nil =>
      simp at h
      obtain ⟨rfl, rfl⟩ := h
      have HPr : ∀ w, Calls Tryz.prog 51 #[.string (bs []), .string ⟨#[46]⟩] w fun e w' => e = .returned (.bool false) ∧ w' = w := fun w => pref_any [] 46 w (by simp)
      refine (read_B _ _ _ w HC he HPr (by rw [emp_bs]; rfl)).mono ?_
      rintro e w' ⟨rfl, hb⟩
      exact ⟨⟨0, Or.inl rfl, by omega, by omega, rfl⟩, hb⟩
    | cons c r =>
      simp only [List.length_cons] at hlen
      have hsz : (bs (c :: r)).size = r.length + 1 := bs_size _
      have HPr : ∀ w, Calls Tryz.prog 51 #[.string (bs (c :: r)), .string ⟨#[46]⟩] w fun e w' => e = .returned (.bool (hp 46 (c :: r))) ∧ w' = w := fun w => pref_any (c :: r) 46 w (by simp; omega)
      by_cases c46 : c.toNat = 46
      · have e2 : hp 46 (c :: r) = true := byte_eq c46
        rw [e2] at HPr
        simp only [c46, if_true] at h
        have HC2 : ∀ w, Calls Tryz.prog 70 #[.string (bs r)] w fun e w' => e = .returned (.tuple #[.string (bs (Txt.dig r)), .string (bs (rst r))]) ∧ ∃ q, w' = w.drewN q := fun w => cut_any r w (by omega)
        have hlen2 := congrArg List.length (dig_rst r)
        rw [List.length_append] at hlen2
        by_cases e3 : Txt.dig r = []
        · rw [if_pos e3] at h; simp at h
        · have hb : (bs (Txt.dig r)).toList.isEmpty = false := by rw [emp_bs]; simpa using e3
          rw [if_neg e3] at h
          generalize hr2 : rst r = R2 at *
          cases R2 with
          | nil =>
            simp [Txt.expo] at h
            obtain ⟨rfl, rfl⟩ := h
            refine (read_E _ _ _ _ _ _ w HC he HPr (by omega) (by omega) (bs_tail c r) HC2 hb (by rw [bs_size]; omega) (by rw [bs_size]; omega) (by rw [emp_bs]; rfl)).mono ?_
            rintro e w' ⟨rfl, hb⟩
            exact ⟨⟨-((bs (Txt.dig r)).size : Int), Or.inl (by rw [bs_size]), by rw [bs_size]; omega, by rw [bs_size]; omega, by rw [bs_append]⟩, hb⟩
          | cons d q =>
            obtain ⟨x, hx, h2⟩ := Option.map_eq_some_iff.1 h
            simp at h2
            obtain ⟨rfl, rfl⟩ := h2
            have hcr := cl_range x
            have HE : ∀ w, Calls Tryz.prog 71 #[.string (bs (d :: q))] w fun e w' => e = .returned (.tuple #[.int .i64 (cl x), .bool true]) ∧ ∃ q, w' = w.drewN q := fun w => by
              have := readExp_any d q w (by simp only [List.length_cons] at hlen2; omega)
              rw [hx] at this
              exact this
            refine (read_F _ _ _ _ _ _ (cl x) w HC he HPr (by omega) (by omega) (bs_tail c r) HC2 hb (by rw [bs_size]; omega) (by rw [bs_size]; omega) (by rw [emp_bs]; rfl) HE hcr.1 hcr.2).mono ?_
            rintro e w' ⟨rfl, hb⟩
            refine ⟨⟨_, ?_, ?_, ?_, by rw [bs_append]⟩, hb⟩
            · rw [bs_size]; exact held_cl x _ (by omega)
            · rw [bs_size]; omega
            · rw [bs_size]; omega
      · have e2 : hp 46 (c :: r) = false := byte_ne c46
        rw [e2] at HPr
        simp only [c46, if_false] at h
        obtain ⟨x, hx, h2⟩ := Option.map_eq_some_iff.1 h
        simp at h2
        obtain ⟨rfl, rfl⟩ := h2
        have hcr := cl_range x
        have HE : ∀ w, Calls Tryz.prog 71 #[.string (bs (c :: r))] w fun e w' => e = .returned (.tuple #[.int .i64 (cl x), .bool true]) ∧ ∃ q, w' = w.drewN q := fun w => by
          have := readExp_any c r w (by omega)
          rw [hx] at this
          exact this
        refine (read_C _ _ _ (cl x) w HC he HPr (by rw [emp_bs]; rfl) HE hcr.1 hcr.2).mono ?_
        rintro e w' ⟨rfl, hb⟩
        exact ⟨⟨_, held_cl0 x, by omega, by omega, rfl⟩, hb⟩

end Go.Proofs.YtjbnjfdpfkdmeaaGreatDoor
