/-
  DigCmp, DigMinus, SumRef, SumRef2, SumRef3, SumRep
-/
import Derived.Deep.QuietTactic
import Derived.BigQuiet
import Derived.WalkSmall
import Derived.Test.YthmocdabakkfhaaGreatDoorZ06

/-
  The reference's Cmp and Minus.
-/
namespace Go.Proofs.YthmocdabakkfhaaGreatDoor
set_option maxRecDepth 100000
open Go.RowKit Dg

def cmpZ (n m : Nat) : Int := if n < m then -1 else if n = m then 0 else 1

theorem high_step (n j : Nat) : n / 65536 ^ j = n / 65536 ^ (j + 1) * 65536 + dig n j := by
  unfold dig
  rw [Nat.pow_succ, ← Nat.div_div_eq_div_mul]
  omega
theorem high_lt {n m j : Nat} (h : n / 65536 ^ (j + 1) = m / 65536 ^ (j + 1)) (hd : dig n j < dig m j) : n < m := by
  have h1 := high_step n j
  have h2 := high_step m j
  rcases Nat.lt_or_ge n m with k | k
  · exact k
  · have := Nat.div_le_div_right (c := 65536 ^ j) k
    omega

end Go.Proofs.YthmocdabakkfhaaGreatDoor

/-
  The reference's Minus.
-/
namespace Go.Proofs.YthmocdabakkfhaaGreatDoor
set_option maxRecDepth 100000
open Go.RowKit Dg

theorem minus_math {n m j c p q d f : Nat} {os : List Nat} (hp : p = dig n j) (hq : q = dig m j) (hl : os.length = j) (h : n % 65536 ^ j + 65536 ^ j * c = val os + m % 65536 ^ j) (hd : p + 65536 * f = d + (q + c)) :
    n % 65536 ^ (j + 1) + 65536 ^ (j + 1) * f = val (os ++ [d]) + m % 65536 ^ (j + 1) := by
  rw [val_snoc, hl, dig_step n j, dig_step m j, ← hp, ← hq, Nat.pow_succ]
  have e : 65536 ^ j * p + 65536 ^ j * 65536 * f = 65536 ^ j * d + 65536 ^ j * q + 65536 ^ j * c := by
    rw [Nat.mul_assoc, ← Nat.mul_add, hd]
    grind
  omega

theorem minus_end {w : World} {v : Value} {os : List Nat} {n m j c L : Nat} (h : w.ownsRow 0 34 1 v j (cells os)) (hnil : v ≠ .slice none 0 0) (hs : Small16 os) (hl : os.length = j) (hj : j = L)
    (hn : n < 65536 ^ L) (hm : m ≤ n) (hv : n % 65536 ^ j + 65536 ^ j * c = val os + m % 65536 ^ j) : D w v (n - m) j := by
  have hd := D.of_own h hnil hs
  have h2 := val_lt os hs
  rw [hl] at h2
  rw [hj, Nat.mod_eq_of_lt hn, Nat.mod_eq_of_lt (by omega)] at hv
  have hc : c = 0 := by
    rcases Nat.eq_zero_or_pos c with k | k
    · exact k
    · have := Nat.le_mul_of_pos_right (65536 ^ L) k
      rw [hj] at h2
      omega
  rw [hc] at hv
  have : val os = n - m := by omega
  rw [this] at hd
  exact hd

theorem nil_ne {w : World} {B e n : Nat} {v : Value} {xs : List Value} (h : w.ownsRow B e 1 v (n + 1) xs) : v ≠ .slice none 0 0 := by
  intro k
  subst k
  rcases h.2 with ⟨_, k⟩ | ⟨g, cap, cur, k, _⟩
  · simp at k
  · simp at k

end Go.Proofs.YthmocdabakkfhaaGreatDoor

/-
  The reference of layer 2: Exact, the sum without rounding.
-/
namespace Go.Proofs.YthmocdabakkfhaaGreatDoor
set_option maxRecDepth 100000
open Go.RowKit Dg Flo

theorem kind_fin {a : Int} (hm : mag a < 9218868437227405312) (h0 : 0 ≤ mag a) : (mag a = 0 ∧ kindZ a = 0) ∨ (0 < mag a ∧ mag a < 4503599627370496 ∧ kindZ a = 1) ∨ (4503599627370496 ≤ mag a ∧ kindZ a = 2) := by
  unfold kindZ
  rw [if_neg (by omega)]
  by_cases c1 : mag a = 0
  · rw [if_pos c1]; exact Or.inl ⟨c1, rfl⟩
  · rw [if_neg c1, if_neg (by omega)]
    by_cases c2 : mag a < 4503599627370496
    · rw [if_pos c2]; exact Or.inr (Or.inl ⟨by omega, c2, rfl⟩)
    · rw [if_neg c2]; exact Or.inr (Or.inr ⟨by omega, rfl⟩)
theorem kind_inf {a : Int} (hm : mag a = 9218868437227405312) : kindZ a = 3 := by
  unfold kindZ; rw [hm]; rfl
theorem kind_nan4 {a : Int} (hm : 9218868437227405312 < mag a) : kindZ a = 4 := by
  unfold kindZ; rw [if_pos hm]

theorem parts_fin {a : Int} (h : U64 a) (hm : mag a < 9218868437227405312) :
    ∃ f : Nat, pfrac a = (f : Int) ∧ f < 9007199254740992 ∧ -1074 ≤ pexp a ∧ pexp a ≤ 971 ∧ f * 2 ^ (pexp a + 1074).toNat = MZ a := by
  obtain ⟨g1, g2, g3, g4, g5⟩ := mag_parts h
  have g6 := mag_range h
  unfold pexp pfrac MZ
  rcases kind_fin hm g6.1 with ⟨k1, k⟩ | ⟨k1, k2, k⟩ | ⟨k1, k⟩
  · rw [k]
    refine ⟨0, by simp, by omega, by simp, by simp, ?_⟩
    rw [k1, Nat.zero_mul]
    exact M_zero.symm
  · rw [k]
    refine ⟨(frac a).toNat, by simp; omega, by omega, by simp, by simp, ?_⟩
    have e : expo a = 0 := by omega
    rw [if_pos rfl]
    unfold M
    rw [if_pos (show (mag a).toNat < 4503599627370496 by omega)]
    rw [show ((-1074 : Int) + 1074).toNat = 0 by omega, Nat.pow_zero, Nat.mul_one]
    omega
  · rw [k]
    refine ⟨(frac a).toNat + 4503599627370496, by simp; omega, by omega, by simp; omega, by simp; omega, ?_⟩
    rw [if_neg (by decide), if_pos rfl]
    unfold M
    rw [if_neg (show ¬ (mag a).toNat < 4503599627370496 by omega)]
    have e1 : (mag a).toNat % 4503599627370496 = (frac a).toNat := by omega
    have e2 : (mag a).toNat / 4503599627370496 = (expo a).toNat := by omega
    rw [e1, e2, show (expo a - 1075 + 1074).toNat = (expo a).toNat - 1 by omega, Nat.add_comm]

theorem dlen_pow {n K k : Nat} (h : n < 2 ^ K) (hK : K ≤ 16 * k) : dlen n ≤ k := by
  refine dlen_le (Nat.lt_of_lt_of_le h ?_)
  rw [pow16]
  exact Nat.pow_le_pow_right (by decide) (by omega)

theorem up_nat (v : Value) (n l k : Nat) (K : Int) (w : World) (hK : K = (k : Int)) (hD : D w v n l) (hl : l ≤ 134217728) (hk : k ≤ 1073741824) :
    Calls Tryz.prog 85 #[v, .int .i64 K] w fun e w' => ∃ v', e = .returned v' ∧ D w' v' (n * 2 ^ k) (dlen (n * 2 ^ k)) ∧ Below w.heap.size w w' := by
  rw [hK]; exact up_any v n l k w hD hl hk

theorem sz_add (s : Bool) (x y : Nat) : sz s x + sz s y = sz s (x + y) := by unfold sz; cases s <;> simp <;> omega
theorem sz_sub {s t : Bool} {x y : Nat} (h : s ≠ t) (hx : y ≤ x) : sz s x + sz t y = sz s (x - y) := by
  unfold sz; cases s <;> cases t <;> simp at * <;> omega
theorem sz_sub2 {s t : Bool} {x y : Nat} (h : s ≠ t) (hx : x ≤ y) : sz s x + sz t y = sz t (y - x) := by
  unfold sz; cases s <;> cases t <;> simp at * <;> omega

/-- How sign and size of a sum come of those of the two. -/
def ExactP (n o ng : Bool) (X Y N : Nat) : Prop := (n = o ∧ ng = n ∧ N = X + Y) ∨ (n ≠ o ∧ ng = n ∧ Y ≤ X ∧ N = X - Y) ∨ (n ≠ o ∧ ng = o ∧ X ≤ Y ∧ N = Y - X)

end Go.Proofs.YthmocdabakkfhaaGreatDoor

/-
  The reference of layer 2: Sum, Add, Sub, Neg, Mul.
-/
namespace Go.Proofs.YthmocdabakkfhaaGreatDoor
set_option maxRecDepth 100000
open Go.RowKit Dg Flo

theorem sz_zero {s : Bool} {n : Nat} : sz s n = 0 ↔ n = 0 := by unfold sz; cases s <;> simp
theorem sz_neg {s : Bool} {n : Nat} (h : n ≠ 0) : decide (sz s n < 0) = s := by unfold sz; cases s <;> simp <;> omega
theorem sz_abs (s : Bool) (n : Nat) : (sz s n).natAbs = n := by unfold sz; cases s <;> simp
theorem MZ_zero {a : Int} (h0 : 0 ≤ mag a) : MZ a = 0 ↔ mag a = 0 := by
  unfold MZ
  have := @M_inj (mag a).toNat 0
  rw [M_zero] at this
  rw [this]
  omega
theorem zero_signs {a b : Int} (ha : U64 a) (hb : U64 b) (h : SV a + SV b = 0) (h2 : (belowB a && belowB b) = true) : mag a = 0 ∧ mag b = 0 := by
  have h3 : belowB a = true := by revert h2; cases belowB a <;> simp
  have h4 : belowB b = true := by revert h2; cases belowB b <;> simp
  unfold SV sz at h
  rw [h3, h4] at h
  simp only [if_true] at h
  exact ⟨(MZ_zero (mag_range ha).1).1 (by omega), (MZ_zero (mag_range hb).1).1 (by omega)⟩
theorem kind_zero0 {a : Int} (h : mag a = 0) : kindZ a = 0 := by unfold kindZ; rw [h]; rfl

theorem rung_one (v : Nat) : rung 1 (2 * v) = rung 0 v := by
  have := rung_scale 0 v 1
  rw [Nat.zero_add, Nat.pow_one, Nat.mul_comm v 2] at this
  exact this

theorem round_one (v : Value) (N l : Nat) (exp : Int) (neg : Bool) (w : World) (hD : D w v N l) (hl : l ≤ 1048576) (e1 : -1074 ≤ exp) (e2 : exp ≤ 16777216) :
    Calls Tryz.prog 70 #[.bool neg, .int .i64 exp, v, .bool false] w fun e w' => e = .returned (.int .u64 (sgn neg + (rung 0 (N * 2 ^ (exp + 1074).toNat) : Nat))) ∧ Below w.heap.size w w' := by
  have h := round_any v N l 1 exp false neg w hD hl (by omega) e2 (by omega) (by simp)
  have e : (2 * N + false.toNat) * 2 ^ (exp + 1073 + ((1 : Nat) : Int)).toNat = 2 * (N * 2 ^ (exp + 1074).toNat) := by
    rw [show exp + 1073 + ((1 : Nat) : Int) = exp + 1074 by omega]
    simp only [Bool.toNat_false, Nat.add_zero]
    rw [Nat.mul_assoc]
  rw [e, rung_one] at h
  exact h

end Go.Proofs.YthmocdabakkfhaaGreatDoor

/-
  The reference of layer 2: Add, Neg, Sub, Mul.
-/
namespace Go.Proofs.YthmocdabakkfhaaGreatDoor
set_option maxRecDepth 100000
open Go.RowKit Dg Flo

theorem addZ_nan1 {a b : Int} (h : nanB a = true) : addZ a b = 9221120237041090560 := by unfold addZ addBad; rw [h]; simp
theorem addZ_nan2 {a b : Int} (h : nanB b = true) : addZ a b = 9221120237041090560 := by unfold addZ addBad; rw [h]; simp
theorem addZ_infs {a b : Int} (h1 : mag a = 9218868437227405312) (h2 : mag b = 9218868437227405312) (ha : U64 a) (hb : U64 b) (hn : a ≠ b) : addZ a b = 9221120237041090560 := by
  have e1 := inf_word ha h1
  have e2 := inf_word hb h2
  have : (belowB a ^^ belowB b) = true := by
    revert e1 e2
    cases belowB a <;> cases belowB b <;> simp <;> intro e1 e2 <;> exact absurd (e1.trans e2.symm) hn
  unfold addZ addBad
  rw [inf_inf h1, inf_inf h2, this]
  simp
theorem addZ_inf1 {a b : Int} (h1 : mag a = 9218868437227405312) (hb : nanB b = false) (hs : mag b < 9218868437227405312 ∨ a = b) : addZ a b = a := by
  unfold addZ addBad
  rw [inf_nan h1, inf_inf h1, hb]
  rcases hs with h | rfl
  · rw [fin_inf h]; simp
  · simp
theorem addZ_inf2 {a b : Int} (h1 : mag b = 9218868437227405312) (ha : mag a < 9218868437227405312) : addZ a b = b := by
  unfold addZ addBad
  rw [inf_nan h1, inf_inf h1, fin_nan ha, fin_inf ha]; simp
theorem addZ_fin {a b : Int} (ha : mag a < 9218868437227405312) (hb : mag b < 9218868437227405312) : addZ a b = nearZ (belowB a && belowB b) (SV a + SV b) := by
  unfold addZ addBad
  rw [fin_nan ha, fin_nan hb, fin_inf ha, fin_inf hb]; simp

theorem kind_lt3 {a : Int} (h : U64 a) (hm : mag a < 9218868437227405312) : (kindZ a == 4) = false ∧ (kindZ a == 3) = false := by
  rcases kind_fin hm (mag_range h).1 with ⟨_, k⟩ | ⟨_, _, k⟩ | ⟨_, k⟩ <;> rw [k] <;> decide

theorem mulZ_nan1 {a b : Int} (h : nanB a = true) : mulZ a b = 9221120237041090560 := by unfold mulZ mulBad; rw [h]; simp
theorem mulZ_nan2 {a b : Int} (h : nanB b = true) : mulZ a b = 9221120237041090560 := by unfold mulZ mulBad; rw [h]; simp
theorem mulZ_inf0 {a b : Int} (h1 : mag a = 9218868437227405312) (h2 : mag b = 0) : mulZ a b = 9221120237041090560 := by
  unfold mulZ mulBad; rw [inf_inf h1, h2]; simp
theorem mulZ_0inf {a b : Int} (h1 : mag b = 9218868437227405312) (h2 : mag a = 0) : mulZ a b = 9221120237041090560 := by
  unfold mulZ mulBad; rw [inf_inf h1, h2]; simp
theorem mulZ_inf1 {a b : Int} (h1 : mag a = 9218868437227405312) (hb : nanB b = false) (h2 : mag b ≠ 0) : mulZ a b = sgn (belowB a ^^ belowB b) + 9218868437227405312 := by
  unfold mulZ mulBad; rw [inf_inf h1, inf_nan h1, hb, decide_eq_false h2, h1]; simp
theorem mulZ_inf2 {a b : Int} (h1 : mag b = 9218868437227405312) (ha : nanB a = false) (h2 : mag a ≠ 0) : mulZ a b = sgn (belowB a ^^ belowB b) + 9218868437227405312 := by
  unfold mulZ mulBad; rw [inf_inf h1, inf_nan h1, ha, decide_eq_false h2, h1]; simp
theorem mulZ_fin {a b : Int} (ha : mag a < 9218868437227405312) (hb : mag b < 9218868437227405312) : mulZ a b = sgn (belowB a ^^ belowB b) + (rung 1074 (MZ a * MZ b) : Nat) := by
  unfold mulZ mulBad; rw [fin_nan ha, fin_nan hb, fin_inf ha, fin_inf hb]; simp
theorem kind_z0 {a : Int} (hm : mag a ≠ 0) : (kindZ a == 0) = false := by
  rw [kind_zero]; exact decide_eq_false hm

theorem inf_any (neg : Bool) (w : World) : Calls Tryz.prog 83 #[.bool neg] w fun e w' => e = .returned (.int .u64 (sgn neg + 9218868437227405312)) ∧ w' = w := by
  have h := refInf_any neg w
  have e : (if neg then (18442240474082181120 : Int) else 9218868437227405312) = sgn neg + 9218868437227405312 := by unfold sgn; cases neg <;> rfl
  rw [e] at h
  exact h

theorem rung_two (v : Nat) : rung 1075 (2 * v) = rung 1074 v := by
  have := rung_scale 1074 v 1
  rw [Nat.pow_one, Nat.mul_comm v 2] at this
  exact this

end Go.Proofs.YthmocdabakkfhaaGreatDoor

/-
  Plain mathematics: which whole numbers of units are numbers, and what rounding gives of them.
-/
namespace Go.Proofs.YthmocdabakkfhaaGreatDoor.Flo
set_option maxRecDepth 100000
open Go.Proofs.YthmocdabakkfhaaGreatDoor

/-- Where the greatest numbers end, as a power of two of units. -/
def TP : Nat := 2098
theorem TP_eq : TP = 2098 := rfl
def pl (r : Nat) : Nat := r / 4503599627370496 - 1
def pq (r : Nat) : Nat := if r < 4503599627370496 then r else 4503599627370496 + r % 4503599627370496

theorem M_parts (r : Nat) : M r = pq r * 2 ^ pl r ∧ pq r < 9007199254740992 ∧ (1 ≤ pl r → 4503599627370496 ≤ pq r) := by
  unfold M pq pl
  by_cases h : r < 4503599627370496
  · rw [if_pos h, if_pos h, Nat.div_eq_of_lt h]
    refine ⟨by simp, by omega, by omega⟩
  · rw [if_neg h, if_neg h]
    exact ⟨rfl, by omega, by omega⟩
theorem pl_mono {r s : Nat} (h : r ≤ s) : pl r ≤ pl s := by
  have := Nat.div_le_div_right (c := 4503599627370496) h
  unfold pl
  omega
theorem M_at {q l : Nat} (h : q < 9007199254740992) (h0 : l = 0 ∨ 4503599627370496 ≤ q) : M (l * 4503599627370496 + q) = q * 2 ^ l := by
  unfold M
  by_cases c : q < 4503599627370496
  · have : l = 0 := by omega
    subst this
    rw [if_pos (by omega)]; simp
  · rw [if_neg (by omega)]
    have e1 : (l * 4503599627370496 + q) % 4503599627370496 = q - 4503599627370496 := by omega
    have e2 : (l * 4503599627370496 + q) / 4503599627370496 = l + 1 := by omega
    rw [e1, e2, show l + 1 - 1 = l by omega, show 4503599627370496 + (q - 4503599627370496) = q by omega]
theorem M_lt {r : Nat} (h : r < 9218868437227405312) : M r < 2 ^ TP := by
  have ht := TP_eq
  obtain ⟨e, h1, _⟩ := M_parts r
  rw [e]
  have hl : pl r ≤ 2045 := by unfold pl; omega
  exact Nat.lt_of_lt_of_le (scaled_lt (L := 53) (by omega)) (Nat.pow_le_pow_right (by decide) (by omega))
theorem rung_M {r : Nat} (h : r ≤ 9218868437227405312) : rung 0 (M r) = r := by
  obtain ⟨e, h1, h2⟩ := M_parts r
  rw [e]
  by_cases c : r < 4503599627370496
  · have e1 : pl r = 0 := by unfold pl; rw [Nat.div_eq_of_lt c]
    have e2 : pq r = r := by unfold pq; rw [if_pos c]
    rw [e1, e2, rung_b0 (L := 52) (by omega) (by omega) (by omega)]
    simp
    omega
  · have e2 : pq r = 4503599627370496 + r % 4503599627370496 := by unfold pq; rw [if_neg c]
    rw [rung_a0 (L := 52) (by omega) (by omega) (by omega) (by omega), e2]
    unfold pl
    simp only [Nat.sub_self, Nat.pow_zero, Nat.mul_one]
    omega

/-- A whole number of units that is a number. -/
def Rep (v : Nat) : Prop := ∃ r, r < 9218868437227405312 ∧ M r = v
theorem Rep.rung {v : Nat} (h : Rep v) : rung 0 v < 9218868437227405312 ∧ M (rung 0 v) = v := by
  obtain ⟨r, h1, rfl⟩ := h
  rw [rung_M (by omega)]
  exact ⟨h1, rfl⟩
theorem rep_zero : Rep 0 := ⟨0, by decide, M_zero⟩
theorem rep_lt {n k : Nat} (h : n < 9007199254740992) (hv : n * 2 ^ k < 2 ^ TP) : Rep (n * 2 ^ k) := by
  have ht := TP_eq
  by_cases h0 : n = 0
  · subst h0; rw [Nat.zero_mul]; exact rep_zero
  · have b1 := Nat.log2_self_le h0
    have b2 : n < 2 ^ (n.log2 + 1) := Nat.lt_log2_self
    have b3 : n.log2 < 53 := (Nat.log2_lt h0).2 (by omega)
    generalize n.log2 = L at *
    by_cases c : L + k < 52
    · have b4 : n * 2 ^ k < 2 ^ (L + 1 + k) := scaled_lt b2
      have b5 : 2 ^ (L + 1 + k) ≤ 2 ^ 52 := Nat.pow_le_pow_right (by decide) (by omega)
      refine ⟨n * 2 ^ k, by omega, ?_⟩
      unfold M
      rw [if_pos (by omega)]
    · obtain ⟨s, hs⟩ : ∃ s, s = L + k - 52 := ⟨_, rfl⟩
      have e : n * 2 ^ k = n * 2 ^ (52 - L) * 2 ^ s := by rw [Nat.mul_assoc, ← Nat.pow_add, show 52 - L + s = k by omega]
      have q1 : n * 2 ^ (52 - L) < 2 ^ (L + 1 + (52 - L)) := scaled_lt b2
      have q2 : 2 ^ (L + (52 - L)) ≤ n * 2 ^ (52 - L) := scaled_ge b1
      rw [show L + 1 + (52 - L) = 53 by omega] at q1
      rw [show L + (52 - L) = 52 by omega] at q2
      rw [e] at hv ⊢
      generalize n * 2 ^ (52 - L) = q at *
      have s1 : s ≤ 2045 := by
        rcases Nat.lt_or_ge s 2046 with k1 | k1
        · omega
        · exfalso
          have h1 : 2 ^ (52 + s) ≤ q * 2 ^ s := scaled_ge q2
          have h2 : 2 ^ TP ≤ 2 ^ (52 + s) := Nat.pow_le_pow_right (by decide) (by omega)
          omega
      exact ⟨s * 4503599627370496 + q, by omega, M_at (by omega) (Or.inr (by omega))⟩
theorem rep_of {n k : Nat} (h : n ≤ 9007199254740992) (hv : n * 2 ^ k < 2 ^ TP) : Rep (n * 2 ^ k) := by
  rcases Nat.lt_or_ge n 9007199254740992 with c | c
  · exact rep_lt c hv
  · have e : n = 9007199254740992 := by omega
    subst e
    have e2 : 9007199254740992 * 2 ^ k = 4503599627370496 * 2 ^ (k + 1) := by rw [Nat.pow_succ]; omega
    rw [e2] at hv ⊢
    exact rep_lt (by omega) hv

/-- What a number that is rounded stands for. -/
theorem M_rung {v : Nat} (h : rung 0 v < 9218868437227405312) : M (rung 0 v) = rne v (lowest 0 v) * 2 ^ lowest 0 v := by
  obtain ⟨a1, a2, a3⟩ := lowest_spec 0 v
  have e : rung 0 v = lowest 0 v * 4503599627370496 + rne v (lowest 0 v) := by
    unfold rung at h ⊢
    rw [Nat.sub_zero] at h ⊢
    omega
  rw [e]
  have r1 := rne_le a2
  generalize lowest 0 v = d at *
  by_cases c : rne v d = 9007199254740992
  · rw [c, show d * 4503599627370496 + 9007199254740992 = (d + 1) * 4503599627370496 + 4503599627370496 by omega, M_at (by omega) (Or.inr (by omega)), Nat.pow_succ]
    omega
  · refine M_at (by omega) ?_
    rcases Nat.eq_zero_or_pos d with k | k
    · exact Or.inl k
    · exact Or.inr (rne_ge (a3 k))

theorem rne_near (v d : Nat) : ∃ e : Int, (v : Int) = (rne v d : Int) * ((2 ^ d : Nat) : Int) + e ∧ 2 * e ≤ ((2 ^ d : Nat) : Int) ∧ -((2 ^ d : Nat) : Int) ≤ 2 * e := by
  have hp : 0 < 2 ^ d := Nat.two_pow_pos d
  have hv := Nat.div_add_mod v (2 ^ d)
  have hm := Nat.mod_lt v hp
  unfold rne
  generalize 2 ^ d = P at *
  generalize v / P = q at *
  generalize v % P = r at *
  have hq : (v : Int) = (q : Int) * (P : Int) + (r : Int) := by
    rw [← hv]; push_cast; rw [Int.mul_comm]
  split
  · refine ⟨(r : Int) - (P : Int), ?_, by omega, by omega⟩
    rw [hq]
    push_cast
    rw [Int.add_mul]
    omega
  · refine ⟨(r : Int), ?_, by omega, by omega⟩
    rw [hq]
    push_cast
    rw [Int.add_mul]
    omega
/-- Of the multiples of 2 to the d none is nearer. -/
theorem near_least {v e q c P : Int} (hP : 0 < P) (hv : v = q * P + e) (h1 : 2 * e ≤ P) (h2 : -P ≤ 2 * e) : e.natAbs ≤ (v - c * P).natAbs := by
  rcases Int.lt_trichotomy q c with h | h | h
  · obtain ⟨t, ht⟩ : ∃ t : Nat, c = q + 1 + (t : Int) := ⟨(c - q - 1).toNat, by omega⟩
    have hx : 0 ≤ (t : Int) * P := Int.mul_nonneg (by omega) (by omega)
    have e1 : v - c * P = e - P - (t : Int) * P := by rw [hv, ht, Int.add_mul, Int.add_mul]; omega
    rw [e1]
    omega
  · have e1 : v - c * P = e := by rw [hv, h]; omega
    rw [e1]; exact Nat.le_refl _
  · obtain ⟨t, ht⟩ : ∃ t : Nat, q = c + 1 + (t : Int) := ⟨(q - c - 1).toNat, by omega⟩
    have hx : 0 ≤ (t : Int) * P := Int.mul_nonneg (by omega) (by omega)
    have e1 : v - c * P = e + P + (t : Int) * P := by rw [hv, ht, Int.add_mul, Int.add_mul]; omega
    rw [e1]
    omega

end Go.Proofs.YthmocdabakkfhaaGreatDoor.Flo
