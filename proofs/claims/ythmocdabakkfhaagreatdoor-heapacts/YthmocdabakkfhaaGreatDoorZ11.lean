/-
  Pt3, Pt4, QuoMath, DecMath, DecQuo, DecQuo2
-/
import Derived.Test.YthmocdabakkfhaaGreatDoorZ10

/-
  The walks of minus, bitLen, Clone, timesTens, timesTwos over parts.
-/
namespace Go.Proofs.YthmocdabakkfhaaGreatDoor
set_option maxRecDepth 100000
open Go.RowKit Pt

theorem PR.drewN {w : World} {g : Nat} {v : Value} {n : Nat} (h : PR w g v n) (q : Nat) : PR (w.drewN q) g v n := h

theorem bit_pick {d e bw : Nat} (hd : d < 4294967296) (he : e < 4294967296) (hb : bw ≤ 1) : ∃ df b2, df < 4294967296 ∧ b2 ≤ 1 ∧ df + e + bw = d + 4294967296 * b2 := by
  rcases Nat.lt_or_ge d (e + bw) with c | c
  · exact ⟨d + 4294967296 - e - bw, 1, by omega, by omega, by omega⟩
  · exact ⟨d - e - bw, 0, by omega, by omega, by omega⟩

end Go.Proofs.YthmocdabakkfhaaGreatDoor

/-
  The walks of timesTens, timesTwos and Clone over parts.
-/
namespace Go.Proofs.YthmocdabakkfhaaGreatDoor
set_option maxRecDepth 100000
open Go.RowKit Pt

/-- Block g alone was written; what lay in it lies there or in a new block g'. -/
def Mv (w w' : World) (g g' : Nat) : Prop := w.grownBy w' (some g) ∧ (g' = g ∨ w.heap.size ≤ g')
theorem Mv.refl (w : World) (g : Nat) : Mv w w g g := ⟨gb_refl _ _, Or.inl rfl⟩
theorem Mv.trans {a b c : World} {g g1 g2 : Nat} (h : Mv a b g g1) (k : Mv b c g1 g2) : Mv a c g g2 := by
  refine ⟨gb_new h.1 k.1 h.2, ?_⟩
  have := h.1.size
  rcases k.2 with e | e
  · rw [e]; exact h.2
  · right; omega
theorem Mv.drewN {a b : World} {g g1 : Nat} (h : Mv a b g g1) (q : Nat) : Mv a (b.drewN q) g g1 := ⟨gb_drew h.1 q, h.2⟩
theorem Mv.pr {w w' : World} {g g' b : Nat} {u : Value} {m : Nat} (h : Mv w w' g g') (hp : PR w b u m) (hb : b ≠ g) : PR w' b u m := hp.other h.1 hb
theorem Mv.ne {w w' : World} {g g' b : Nat} (h : Mv w w' g g') (hp : b < w.heap.size) (hb : b ≠ g) : b ≠ g' := by
  rcases h.2 with e | e
  · rw [e]; exact hb
  · omega
theorem Mv.below {w w' : World} {B g g' : Nat} (h : Mv w w' g g') (hB : B ≤ w.heap.size) (hg : B ≤ g) : Below B w w' :=
  (Below.refl _ _).grown h.1 hB (by intro k hk; simp at hk; omega)
theorem Mv.ge {w w' : World} {B g g' : Nat} (h : Mv w w' g g') (hB : B ≤ w.heap.size) (hg : B ≤ g) : B ≤ g' := by
  rcases h.2 with e | e <;> omega

theorem pow_part {N c k T K : Nat} (h : N * c ^ k = T) (hc : 0 < c) (hT : T < 2 ^ K) : N < 2 ^ K := by
  have := Nat.le_mul_of_pos_right N (Nat.pow_pos (n := k) hc)
  omega
theorem pow_step {N c k T s : Nat} (h : N * c ^ k = T) (hs : s ≤ k) : N * c ^ s * c ^ (k - s) = T := by
  rw [Nat.mul_assoc, ← Nat.pow_add, show s + (k - s) = k by omega]; exact h

theorem eql_nil {P : Program} {t e : TypeId} (a : Option Addr) (l c : Nat) (h : P.underlying t = some (.slice e)) (w : World) : (binOp .eql t (.slice a l c) (.slice none 0 0)).run P w = .ok (.bool a.isNone) w := by
  simp only [binOp]
  simp [run_equal_slice_nil w t e a l c h]

end Go.Proofs.YthmocdabakkfhaaGreatDoor

/-
  Plain mathematics: what is cut off, but noted, does not change what is rounded.
-/
namespace Go.Proofs.YthmocdabakkfhaaGreatDoor.Flo
set_option maxRecDepth 100000
open Go.Proofs.YthmocdabakkfhaaGreatDoor

/-- Within a cell, its lower end apart, all is rounded alike. -/
theorem rne_cell {d p c a : Nat} (hp : p < d) (a0 : 0 < a) (a1 : a < 2 ^ p) :
    rne (c * 2 ^ p + a) d = c / 2 ^ (d - p) + (if 2 ^ (d - p - 1) ≤ c % 2 ^ (d - p) then 1 else 0) := by
  have hP := Nat.two_pow_pos p
  have eD : 2 ^ d = 2 ^ p * 2 ^ (d - p) := by rw [← Nat.pow_add]; congr 1; omega
  have eW : 2 ^ (d - p) = 2 * 2 ^ (d - p - 1) := by rw [← Nat.pow_succ']; congr 1; omega
  have e1 : (c * 2 ^ p + a) / 2 ^ p = c := by
    rw [Nat.mul_comm, Nat.mul_add_div hP, Nat.div_eq_of_lt a1, Nat.add_zero]
  have e2 : (c * 2 ^ p + a) / 2 ^ d = c / 2 ^ (d - p) := by rw [eD, ← Nat.div_div_eq_div_mul, e1]
  have e3 : (c * 2 ^ p + a) % 2 ^ d = c % 2 ^ (d - p) * 2 ^ p + a := by
    rw [eD, Nat.mod_mul, e1, Nat.mul_comm c, Nat.mul_add_mod, Nat.mod_eq_of_lt a1, Nat.mul_comm]
    omega
  unfold rne
  rw [e2, e3, eD, eW]
  generalize 2 ^ (d - p - 1) = W
  generalize c % (2 * W) = z
  generalize c / (2 * W) = y
  generalize 2 ^ p = P at *
  congr 1
  have x1 : P * (2 * W) = 2 * (P * W) := by grind
  rw [x1]
  by_cases h : W ≤ z
  · have h1 : P * W ≤ z * P := by rw [Nat.mul_comm z]; exact Nat.mul_le_mul_left P h
    rw [if_pos h, if_pos (Or.inl (by omega))]
  · have h1 : (z + 1) * P ≤ P * W := by rw [Nat.mul_comm]; exact Nat.mul_le_mul_left P (by omega)
    rw [Nat.add_mul, Nat.one_mul] at h1
    rw [if_neg h, if_neg (by omega)]

theorem rung_cell {g p c a b : Nat} (hc : 9007199254740992 ≤ c) (a0 : 0 < a) (a1 : a < 2 ^ p) (b0 : 0 < b) (b1 : b < 2 ^ p) : rung g (c * 2 ^ p + a) = rung g (c * 2 ^ p + b) := by
  obtain ⟨s1, s2, s3⟩ := lowest_spec g (c * 2 ^ p + a)
  have hP := Nat.two_pow_pos p
  have h53 : 2 ^ (53 + p) ≤ c * 2 ^ p := scaled_ge (by omega)
  have hp : p < lowest g (c * 2 ^ p + a) := by
    rcases Nat.lt_or_ge p (lowest g (c * 2 ^ p + a)) with k | k
    · exact k
    · exfalso
      have : 2 ^ (lowest g (c * 2 ^ p + a) + 53) ≤ 2 ^ (53 + p) := Nat.pow_le_pow_right (by decide) (by generalize lowest g (c * 2 ^ p + a) = d at *; omega)
      exact absurd (Nat.lt_of_lt_of_le s2 (Nat.le_trans this h53)) (by omega)
  have hl : lowest g (c * 2 ^ p + b) = lowest g (c * 2 ^ p + a) := by
    generalize lowest g (c * 2 ^ p + a) = d at *
    have u1 : c * 2 ^ p + b < 2 ^ (d + 53) := by
      have e : 2 ^ (d + 53) = 2 ^ (d + 53 - p) * 2 ^ p := by rw [← Nat.pow_add]; congr 1; omega
      rw [e] at s2 ⊢
      have : c < 2 ^ (d + 53 - p) := Nat.lt_of_mul_lt_mul_right (a := 2 ^ p) (by omega)
      have := Nat.mul_le_mul_right (2 ^ p) this
      rw [Nat.succ_mul] at this
      omega
    rcases Nat.lt_or_ge g d with k | k
    · refine lowest_high k ?_ u1
      have h := s3 k
      have e : 2 ^ (d + 52) = 2 ^ (d + 52 - p) * 2 ^ p := by rw [← Nat.pow_add]; congr 1; omega
      rw [e] at h ⊢
      have : 2 ^ (d + 52 - p) < c + 1 := by
        refine Nat.lt_of_mul_lt_mul_right (a := 2 ^ p) ?_
        rw [Nat.add_mul, Nat.one_mul]; omega
      have := Nat.mul_le_mul_right (2 ^ p) (show 2 ^ (d + 52 - p) ≤ c by omega)
      omega
    · have : d = g := by omega
      subst this
      exact lowest_low u1
  unfold rung
  rw [hl, rne_cell hp a0 a1, rne_cell hp b0 b1]

/-- Two that were cut off in one cell, and note whether anything fell. -/
theorem rung_sticky {g p c v u : Nat} (hc : 9007199254740992 ≤ c) (v1 : c * 2 ^ p ≤ v) (v2 : v < (c + 1) * 2 ^ p) (u1 : c * 2 ^ p ≤ u) (u2 : u < (c + 1) * 2 ^ p) (h : v = c * 2 ^ p ↔ u = c * 2 ^ p) : rung g v = rung g u := by
  rw [Nat.add_mul, Nat.one_mul] at v2 u2
  by_cases k : v = c * 2 ^ p
  · rw [k, h.1 k]
  · have k2 : u ≠ c * 2 ^ p := fun q => k (h.2 q)
    have e1 : v = c * 2 ^ p + (v - c * 2 ^ p) := by omega
    have e2 : u = c * 2 ^ p + (u - c * 2 ^ p) := by omega
    rw [e1, e2]
    exact rung_cell hc (by omega) (by omega) (by omega) (by omega)

theorem sticky_pair {Q Q2 x t g : Nat} {z1 z2 : Prop} [Decidable z1] [Decidable z2] (hq : 9007199254740992 ≤ Q) (l1 : Q * 2 ^ t ≤ Q2) (l2 : Q2 < (Q + 1) * 2 ^ t) (l3 : z1 ↔ (z2 ∧ Q2 = Q * 2 ^ t)) :
    rung g ((2 * Q + (if z1 then 0 else 1)) * 2 ^ (x + t)) = rung g ((2 * Q2 + (if z2 then 0 else 1)) * 2 ^ x) := by
  have ht := Nat.two_pow_pos t
  have hx := Nat.two_pow_pos x
  have ex : 2 ^ (x + t) = 2 ^ t * 2 ^ x := by rw [← Nat.pow_add, Nat.add_comm]
  have ep : 2 ^ (x + t + 1) = 2 * 2 ^ t * 2 ^ x := by rw [Nat.pow_succ', ex, Nat.mul_assoc]
  generalize 2 ^ t = T at *
  generalize 2 ^ x = X at *
  have hX : ∀ y z : Nat, y ≤ z → y * X ≤ z * X := fun y z h => Nat.mul_le_mul_right X h
  have hXl : ∀ y z : Nat, y < z → y * X < z * X := fun y z h => Nat.mul_lt_mul_of_pos_right h hx
  refine rung_sticky (p := x + t + 1) (c := Q) hq ?_ ?_ ?_ ?_ ?_
  · rw [ep, ex, show Q * (2 * T * X) = (2 * Q * T) * X by grind, show (2 * Q + (if z1 then 0 else 1)) * (T * X) = ((2 * Q + (if z1 then 0 else 1)) * T) * X by grind]
    exact hX _ _ (Nat.mul_le_mul_right T (by omega))
  · rw [ep, ex, show (Q + 1) * (2 * T * X) = ((2 * Q + 2) * T) * X by grind, show (2 * Q + (if z1 then 0 else 1)) * (T * X) = ((2 * Q + (if z1 then 0 else 1)) * T) * X by grind]
    exact hXl _ _ (Nat.mul_lt_mul_of_pos_right (by split <;> omega) ht)
  · rw [ep, show Q * (2 * T * X) = (2 * (Q * T)) * X by grind]
    exact hX _ _ (by omega)
  · rw [ep, show (Q + 1) * (2 * T * X) = (2 * ((Q + 1) * T)) * X by grind]
    exact hXl _ _ (by split <;> omega)
  · rw [ep, ex, show Q * (2 * T * X) = (2 * (Q * T)) * X by grind, show (2 * Q + (if z1 then 0 else 1)) * (T * X) = ((2 * Q + (if z1 then 0 else 1)) * T) * X by grind]
    constructor
    · intro h
      have h1 := Nat.eq_of_mul_eq_mul_right hx h
      have h2 : (2 * Q + (if z1 then 0 else 1)) * T = (2 * Q) * T := by rw [h1]; grind
      have h3 := Nat.eq_of_mul_eq_mul_right ht h2
      have h4 : z1 := by
        by_cases q : z1
        · exact q
        · rw [if_neg q] at h3; omega
      obtain ⟨h5, h6⟩ := l3.1 h4
      rw [if_pos h5, h6]
      rfl
    · intro h
      have h1 := Nat.eq_of_mul_eq_mul_right hx h
      have h2 : z2 := by
        by_cases q : z2
        · exact q
        · rw [if_neg q] at h1; omega
      rw [if_pos h2] at h1
      have h3 := l3.2 ⟨h2, by omega⟩
      rw [if_pos h3]
      grind

/-! Quotients. -/
/-- A quotient with k bits more, twice, and one more where anything is left. -/
def stick (A B k : Nat) : Nat := 2 * (A * 2 ^ k / B) + (if A * 2 ^ k % B = 0 then 0 else 1)

theorem stick_more {A B k t g x : Nat} (hB : 0 < B) (hq : 9007199254740992 ≤ A * 2 ^ k / B) : rung g (stick A B k * 2 ^ (x + t)) = rung g (stick A B (k + t) * 2 ^ x) := by
  unfold stick
  have eA : A * 2 ^ (k + t) = A * 2 ^ k * 2 ^ t := by rw [Nat.pow_add, Nat.mul_assoc]
  rw [eA]
  have hN := Nat.div_add_mod (A * 2 ^ k) B
  have hr := Nat.mod_lt (A * 2 ^ k) hB
  have hN2 := Nat.div_add_mod (A * 2 ^ k * 2 ^ t) B
  have hr2 := Nat.mod_lt (A * 2 ^ k * 2 ^ t) hB
  have ht := Nat.two_pow_pos t
  generalize A * 2 ^ k = N at *
  generalize N / B = Q at *
  generalize N % B = r at *
  generalize N * 2 ^ t % B = r2 at *
  -- how the finer quotient lies to the coarser one
  have l1 : Q * 2 ^ t ≤ N * 2 ^ t / B := by
    rw [Nat.le_div_iff_mul_le hB, ← hN]
    have : Q * 2 ^ t * B = B * Q * 2 ^ t := by grind
    rw [this]
    exact Nat.mul_le_mul_right _ (by omega)
  have l2 : N * 2 ^ t / B < (Q + 1) * 2 ^ t := by
    rw [Nat.div_lt_iff_lt_mul hB]
    have : (Q + 1) * 2 ^ t * B = (B * Q + B) * 2 ^ t := by grind
    rw [this, ← hN]
    exact Nat.mul_lt_mul_of_pos_right (by omega) ht
  have l3 : (r = 0) ↔ (r2 = 0 ∧ N * 2 ^ t / B = Q * 2 ^ t) := by
    constructor
    · intro h
      have e : N * 2 ^ t = B * (Q * 2 ^ t) := by rw [← hN, h]; grind
      have e2 : N * 2 ^ t / B = Q * 2 ^ t := by rw [e]; exact Nat.mul_div_cancel_left _ hB
      rw [e2, e] at hN2
      exact ⟨by omega, e2⟩
    · rintro ⟨h1, h2⟩
      rw [h1, h2, Nat.add_zero, ← hN] at hN2
      have : (B * Q) * 2 ^ t = (B * Q + r) * 2 ^ t := by rw [← hN2]; grind
      have := Nat.eq_of_mul_eq_mul_right ht this
      omega
  exact sticky_pair hq l1 l2 l3
theorem stick_scale (A B k c : Nat) : stick (A * 2 ^ c) (B * 2 ^ c) k = stick A B k := by
  have hc := Nat.two_pow_pos c
  unfold stick
  have e : A * 2 ^ c * 2 ^ k = A * 2 ^ k * 2 ^ c := by grind
  rw [e, Nat.mul_div_mul_right _ _ hc, Nat.mul_mod_mul_right]
  have i : A * 2 ^ k % B * 2 ^ c = 0 ↔ A * 2 ^ k % B = 0 := by
    rw [Nat.mul_eq_zero]; omega
  simp only [i]
theorem stick_up (A B k c : Nat) : stick (A * 2 ^ c) B k = stick A B (k + c) := by
  unfold stick
  have e : A * 2 ^ c * 2 ^ k = A * 2 ^ (k + c) := by rw [Nat.add_comm, Nat.pow_add, Nat.mul_assoc]
  rw [e]

end Go.Proofs.YthmocdabakkfhaaGreatDoor.Flo

/-
  Layer 5: the number nearest to a quotient of whole numbers, and to a numeral.
-/
namespace Go.Proofs.YthmocdabakkfhaaGreatDoor
set_option maxRecDepth 100000
open Go.RowKit Flo

/-- So many bits more that a quotient by B has enough of them. -/
def KN (B : Nat) : Nat := OP + 100 + B.log2
/-- The rung nearest to A / B. -/
def nearR (A B : Nat) : Nat := if A = 0 then 0 else rung (KN B + 1 - OP) (stick A B (KN B))

theorem enough {A B : Nat} (hA : A ≠ 0) (hB : 0 < B) : 9007199254740992 ≤ A * 2 ^ KN B / B := by
  rw [Nat.le_div_iff_mul_le hB]
  have h1 : B < 2 ^ (B.log2 + 1) := Nat.lt_log2_self
  have h2 : 9007199254740992 * B ≤ 2 ^ 53 * 2 ^ (B.log2 + 1) := Nat.mul_le_mul (by decide) (Nat.le_of_lt h1)
  rw [← Nat.pow_add] at h2
  have h3 : (2 : Nat) ^ (53 + (B.log2 + 1)) ≤ 2 ^ KN B := Nat.pow_le_pow_right (by decide) (by unfold KN; omega)
  have h4 : 2 ^ KN B ≤ A * 2 ^ KN B := Nat.le_mul_of_pos_left _ (by omega)
  omega
/-- With any number of bits that are enough, the same is told. -/
theorem near_bits {A B k : Nat} (hA : A ≠ 0) (hB : 0 < B) (hq : 9007199254740992 ≤ A * 2 ^ k / B) : rung k (stick A B k * 2 ^ (OP - 1)) = nearR A B := by
  have hO : 1 ≤ OP := by rw [OP_eq]; decide
  have hK : OP ≤ KN B + 1 := by unfold KN; omega
  have hk0 := enough hA hB
  unfold nearR
  rw [if_neg hA]
  have e1 : rung (KN B + 1 - OP) (stick A B (KN B)) = rung (KN B) (stick A B (KN B) * 2 ^ (OP - 1)) := by
    rw [← rung_scale (KN B + 1 - OP) (stick A B (KN B)) (OP - 1), show KN B + 1 - OP + (OP - 1) = KN B by omega]
  rw [e1]
  generalize KN B = K at *
  rcases Nat.le_total k K with h | h
  · obtain ⟨t, rfl⟩ := Nat.exists_eq_add_of_le h
    rw [← stick_more hB hq (g := k + t) (x := OP - 1) (t := t), Nat.pow_add, ← Nat.mul_assoc, rung_scale]
  · obtain ⟨t, rfl⟩ := Nat.exists_eq_add_of_le h
    rw [← stick_more hB hk0 (g := K + t) (x := OP - 1) (t := t), Nat.pow_add, ← Nat.mul_assoc, rung_scale]
/-- Of a whole number. -/
theorem nearR_whole (N : Nat) : rung 0 (N * 2 ^ OP) = nearR N 1 := by
  by_cases h : N = 0
  · subst h
    rw [Nat.zero_mul, rung_tiny (Nat.zero_le _)]; rfl
  · have hq : 9007199254740992 ≤ N * 2 ^ 53 / 1 := by
      rw [Nat.div_one]; exact Nat.le_mul_of_pos_left _ (by omega)
    rw [← near_bits h (by decide) hq]
    have e : stick N 1 53 = N * 2 ^ 54 := by
      unfold stick
      rw [Nat.div_one, Nat.mod_one, if_pos rfl, Nat.add_zero, Nat.mul_left_comm]
    have e2 : N * 2 ^ 54 * 2 ^ (OP - 1) = N * 2 ^ OP * 2 ^ 53 := by
      have hO : 1 ≤ OP := by rw [OP_eq]; decide
      rw [Nat.mul_assoc, Nat.mul_assoc, ← Nat.pow_add, ← Nat.pow_add, show 54 + (OP - 1) = OP + 53 by omega]
    rw [e, e2]
    have := rung_scale 0 (N * 2 ^ OP) 53
    rw [Nat.zero_add] at this
    rw [this]

/-- The rung nearest to D times 10 to the power e. -/
def decN (D : Nat) (e : Int) : Nat := if 0 ≤ e then nearR (D * 10 ^ e.toNat) 1 else nearR D (10 ^ (-e).toNat)
theorem decN_zero (e : Int) : decN 0 e = 0 := by
  unfold decN nearR
  rw [Nat.zero_mul, if_pos rfl, if_pos rfl]
  split <;> rfl
theorem ten_pow (n : Nat) : 2 ^ (3 * n) ≤ 10 ^ n := by
  rw [Nat.pow_mul]; exact Nat.pow_le_pow_left (by decide) n
theorem decN_up (D n : Nat) : decN D (n : Int) = rung 0 (D * 10 ^ n * 2 ^ OP) := by
  unfold decN
  rw [if_pos (by omega), Int.toNat_natCast, nearR_whole]
theorem rung_big {v c : Nat} (g : Nat) (hc : g + 2098 ≤ c) (hv : 2 ^ c ≤ v) : rung g v = 9218868437227405312 := rung_huge (Nat.le_trans (Nat.pow_le_pow_right (by decide) hc) hv)
theorem dec_huge {D : Nat} {e : Int} (hD : D ≠ 0) (he : 400 ≤ e) : decN D e = 9218868437227405312 := by
  obtain ⟨n, rfl⟩ := Int.eq_ofNat_of_zero_le (show 0 ≤ e by omega)
  rw [decN_up]
  have h1 : 2 ^ (3 * n) ≤ D * 10 ^ n := Nat.le_trans (ten_pow n) (Nat.le_mul_of_pos_left _ (by omega))
  have h2 : 2 ^ (3 * n) * 2 ^ OP ≤ D * 10 ^ n * 2 ^ OP := Nat.mul_le_mul_right _ h1
  rw [← Nat.pow_add] at h2
  have h0 : 0 + 2098 ≤ 3 * n + OP := by rw [OP_eq]; omega
  exact rung_big 0 h0 h2
/-- The most digits of a numeral. -/
def DG : Nat := 400
theorem DG_eq : DG = 400 := rfl
theorem dec_tiny {D : Nat} {e : Int} (hD : D < 10 ^ DG) (he : e ≤ -800) : decN D e = 0 := by
  obtain ⟨n, hn⟩ := Int.eq_ofNat_of_zero_le (show 0 ≤ -e by omega)
  unfold decN
  rw [if_neg (by omega), hn, Int.toNat_natCast]
  have hm := DG_eq
  generalize DG = m at *
  obtain ⟨t, ht⟩ := Nat.exists_eq_add_of_le (show m ≤ n by omega)
  have hB : 0 < 10 ^ n := Nat.pow_pos (by decide)
  -- B is far greater than D
  have h1 : D * 2 ^ (3 * t) ≤ 10 ^ n := by
    rw [ht, Nat.pow_add]
    exact Nat.mul_le_mul (Nat.le_of_lt hD) (ten_pow t)
  have ht2 : OP + 100 ≤ 3 * t := by rw [OP_eq]; omega
  unfold nearR
  split
  · rfl
  · next hA =>
    apply rung_tiny
    have hlog : 3 * n ≤ (10 ^ n).log2 := (Nat.le_log2 (by omega)).2 (ten_pow n)
    have hK : 3 * t + 1 ≤ KN (10 ^ n) := by unfold KN; omega
    generalize 10 ^ n = B at *
    generalize KN B = K at *
    -- the quotient is small
    have hq : D * 2 ^ K / B ≤ 2 ^ (K - 3 * t) := by
      apply Nat.div_le_of_le_mul
      have e1 : 2 ^ K = 2 ^ (3 * t) * 2 ^ (K - 3 * t) := by rw [← Nat.pow_add, show 3 * t + (K - 3 * t) = K by omega]
      rw [e1, ← Nat.mul_assoc]
      exact Nat.mul_le_mul_right _ h1
    have hs : stick D B K ≤ 2 * 2 ^ (K - 3 * t) + 1 := by
      unfold stick
      split <;> omega
    have e2 : 2 ^ (K + 1 - OP) = 2 ^ (K - 3 * t + 2) * 2 ^ (3 * t - OP - 1) := by
      rw [← Nat.pow_add, show K - 3 * t + 2 + (3 * t - OP - 1) = K + 1 - OP by omega]
    have e3 : 2 ^ (K - 3 * t + 2) = 4 * 2 ^ (K - 3 * t) := by rw [Nat.pow_add, Nat.mul_comm]
    have e4 : 2 ^ 1 ≤ 2 ^ (3 * t - OP - 1) := Nat.pow_le_pow_right (by decide) (by omega)
    have p1 := Nat.two_pow_pos (K - 3 * t)
    rw [e2, e3]
    have e5 : 4 * 2 ^ (K - 3 * t) * 2 ^ 1 ≤ 4 * 2 ^ (K - 3 * t) * 2 ^ (3 * t - OP - 1) := Nat.mul_le_mul_left _ e4
    omega

end Go.Proofs.YthmocdabakkfhaaGreatDoor

/-
  The landed quotient of two numbers in parts: the rung nearest to it. First the mathematics.
-/
namespace Go.Proofs.YthmocdabakkfhaaGreatDoor
set_option maxRecDepth 100000
open Go.RowKit Pt Flo

theorem bl_scale {A : Nat} (c : Nat) (hA : A ≠ 0) : bl (A * 2 ^ c) = bl A + c := by
  have h1 := bl_ge hA
  have h2 := bl_lt A
  have h3 : 1 ≤ bl A := by unfold bl; rw [if_neg hA]; omega
  obtain ⟨e, he⟩ : ∃ e, bl A = e + 1 := ⟨bl A - 1, by omega⟩
  rw [he] at h1 h2 ⊢
  rw [Nat.add_sub_cancel] at h1
  have := bl_of (n := A * 2 ^ c) (e := e + c) (by rw [Nat.pow_add]; exact Nat.mul_le_mul_right _ h1) (by rw [show e + c + 1 = e + 1 + c by omega, Nat.pow_add]; exact Nat.mul_lt_mul_of_pos_right h2 (Nat.two_pow_pos c))
  omega
theorem near_part {A B k t : Nat} (hA : A ≠ 0) (hB : 0 < B) (hq : 9007199254740992 ≤ A * 2 ^ k / (B * 2 ^ t)) : rung k (stick A (B * 2 ^ t) k * 2 ^ (OP - 1 + t)) = nearR A B := by
  have hB2 : 0 < B * 2 ^ t := Nat.mul_pos hB (Nat.two_pow_pos t)
  rw [stick_more hB2 hq (g := k) (x := OP - 1) (t := t), ← stick_up A (B * 2 ^ t) k t, stick_scale]
  refine near_bits hA hB ?_
  refine Nat.le_trans hq ?_
  exact Nat.div_le_div_left (Nat.le_mul_of_pos_right _ (Nat.two_pow_pos t)) hB
theorem two_le {Z X Y : Nat} (q : Z < X) (q2 : X * 2 ≤ Y) : 2 * Z ≤ Y := by omega
theorem same_len {A B m : Nat} (hA : A ≠ 0) (h1 : bl A = m) (h2 : bl B = m) : B ≤ A * 2 := by
  have a1 := bl_ge hA
  have a2 := bl_lt B
  have a3 : 1 ≤ bl A := by unfold bl; rw [if_neg hA]; omega
  rw [h1] at a1 a3
  rw [h2] at a2
  obtain ⟨e, rfl⟩ : ∃ e, m = e + 1 := ⟨m - 1, by omega⟩
  rw [Nat.add_sub_cancel] at a1
  rw [Nat.pow_succ] at a2
  omega
/-- The bits that the loop makes, and its rest. -/
theorem quo_loop {A B f N : Nat} (hB : 0 < B) (hI : N + 2 * B * f = 2 ^ 64 * A) (hN : N < 2 * B) : 2 * f + (decide (0 < N)).toNat = stick A B 63 ∧ f = A * 2 ^ 63 / B := by
  obtain ⟨r, hr⟩ : ∃ r, N = 2 * r := by
    refine ⟨N / 2, ?_⟩
    have h1 : 2 * B * f = 2 * (B * f) := Nat.mul_assoc _ _ _
    have h2 : 2 ^ 64 * A = 2 * (2 ^ 63 * A) := by rw [← Nat.mul_assoc]
    omega
  subst hr
  have h1 : r + B * f = A * 2 ^ 63 := by
    have e1 : 2 * B * f = 2 * (B * f) := Nat.mul_assoc _ _ _
    have e2 : 2 ^ 64 * A = 2 * (A * 2 ^ 63) := by rw [Nat.mul_comm A, ← Nat.mul_assoc]
    omega
  have hf : A * 2 ^ 63 / B = f := by
    rw [← h1, Nat.add_mul_div_left _ _ hB, Nat.div_eq_of_lt (by omega)]; omega
  have hm : A * 2 ^ 63 % B = r := by
    rw [← h1, Nat.add_mul_mod_self_left, Nat.mod_eq_of_lt (by omega)]
  refine ⟨?_, hf.symm⟩
  unfold stick
  rw [hf, hm]
  by_cases c : r = 0
  · subst c; simp
  · rw [if_neg c, decide_eq_true (by omega)]; rfl
theorem quo_math {A B f N a b c1 c2 : Nat} (hA : A ≠ 0) (hB : B ≠ 0) (ha : a = bl A) (hb : b = bl B) (hc1 : c1 = b - a) (hc2 : c2 = a - b)
    (hI : N + 2 * (B * 2 ^ c2) * f = 2 ^ 64 * (A * 2 ^ c1)) (hN : N < 2 * (B * 2 ^ c2)) : makeZ false ((a : Int) - (b : Int) - 64 + 1) f (decide (0 < N)) = (nearR A B : Nat) := by
  have hg := G_eq
  have hO := OP_eq
  have p1 := Nat.two_pow_pos c1
  have p2 := Nat.two_pow_pos c2
  have hA1 : A * 2 ^ c1 ≠ 0 := Nat.mul_ne_zero hA (by omega)
  have hB1 : 0 < B * 2 ^ c2 := Nat.mul_pos (by omega) p2
  obtain ⟨e1, e2⟩ := quo_loop hB1 hI hN
  have hlen : B * 2 ^ c2 ≤ A * 2 ^ c1 * 2 := same_len (m := bl A + c1) hA1 (bl_scale _ hA) (by rw [bl_scale _ hB]; omega)
  have hf : 2 ^ 62 ≤ f := by
    rw [e2, Nat.le_div_iff_mul_le hB1]
    have : 2 ^ 62 * (B * 2 ^ c2) ≤ 2 ^ 62 * (A * 2 ^ c1 * 2) := Nat.mul_le_mul_left _ hlen
    omega
  have hfq : 9007199254740992 ≤ A * 2 ^ c1 * 2 ^ 63 / (B * 2 ^ c2) := by rw [← e2]; exact Nat.le_trans (by decide) hf
  have hf2 : f < 2 ^ 66 := by
    rw [e2, Nat.div_lt_iff_lt_mul hB1]
    have b1 : A * 2 ^ c1 ≤ B * 2 ^ c2 * 2 := same_len (m := bl A + c1) (by omega) (by rw [bl_scale _ hB]; omega) (bl_scale _ hA)
    have : (0 : Nat) < 2 ^ 66 * (B * 2 ^ c2) := by omega
    omega
  unfold makeZ
  rw [if_neg (by simp)]
  unfold units
  rw [e1]
  generalize hS : stick (A * 2 ^ c1) (B * 2 ^ c2) 63 = S at *
  have hS1 : 2 ^ 63 ≤ S := by rw [← e1]; omega
  have hS2 : S < 2 ^ 68 := by
    rw [← e1]
    have : (decide (0 < N)).toNat ≤ 1 := Bool.toNat_le _
    omega
  congr 1
  rcases Nat.le_total b a with hab | hab
  · have z1 : c1 = 0 := by omega
    subst z1
    rw [Nat.pow_zero, Nat.mul_one] at hfq hS
    have hnear := near_part hA (by omega) hfq
    rw [hS] at hnear
    by_cases cl : (a : Int) - (b : Int) - 64 + 1 ≤ 1100
    · rw [show (min (max ((a : Int) - (b : Int) - 64 + 1) (-1200)) 1100 + 1073 + (G : Int)).toNat = (OP - 1 + c2) + (G - 63) by omega, Nat.pow_add, ← Nat.mul_assoc]
      rw [← hnear]
      have := rung_scale 63 (S * 2 ^ (OP - 1 + c2)) (G - 63)
      rw [show 63 + (G - 63) = G by omega] at this
      exact this
    · rw [show (min (max ((a : Int) - (b : Int) - 64 + 1) (-1200)) 1100 + 1073 + (G : Int)).toNat = 2173 + G by omega]
      rw [← hnear]
      have q1 : 2 ^ (63 + (2173 + G)) ≤ S * 2 ^ (2173 + G) := by rw [Nat.pow_add]; exact Nat.mul_le_mul_right _ hS1
      have q2 : 2 ^ (63 + (OP - 1 + c2)) ≤ S * 2 ^ (OP - 1 + c2) := by rw [Nat.pow_add]; exact Nat.mul_le_mul_right _ hS1
      rw [rung_big G (by omega) q1, rung_big 63 (by omega) q2]
  · have z2 : c2 = 0 := by omega
    subst z2
    rw [Nat.pow_zero, Nat.mul_one] at hfq hS
    rw [stick_up] at hS
    have hfq2 : 9007199254740992 ≤ A * 2 ^ (63 + c1) / B := by rw [Nat.add_comm, Nat.pow_add, ← Nat.mul_assoc]; exact hfq
    have hnear := near_bits hA (by omega) hfq2
    rw [hS] at hnear
    by_cases cl : -1200 ≤ (a : Int) - (b : Int) - 64 + 1
    · rw [← hnear]
      rcases Nat.le_total (63 + c1) G with hk | hk
      · rw [show (min (max ((a : Int) - (b : Int) - 64 + 1) (-1200)) 1100 + 1073 + (G : Int)).toNat = (OP - 1) + (G - (63 + c1)) by omega, Nat.pow_add, ← Nat.mul_assoc]
        have := rung_scale (63 + c1) (S * 2 ^ (OP - 1)) (G - (63 + c1))
        rw [show 63 + c1 + (G - (63 + c1)) = G by omega] at this
        exact this
      · have e : S * 2 ^ (OP - 1) = S * 2 ^ (OP - 1 - (63 + c1 - G)) * 2 ^ (63 + c1 - G) := by
          rw [Nat.mul_assoc, ← Nat.pow_add, show OP - 1 - (63 + c1 - G) + (63 + c1 - G) = OP - 1 by omega]
        rw [show (min (max ((a : Int) - (b : Int) - 64 + 1) (-1200)) 1100 + 1073 + (G : Int)).toNat = OP - 1 - (63 + c1 - G) by omega, e]
        have := rung_scale G (S * 2 ^ (OP - 1 - (63 + c1 - G))) (63 + c1 - G)
        rw [show G + (63 + c1 - G) = 63 + c1 by omega] at this
        exact this.symm
    · rw [show (min (max ((a : Int) - (b : Int) - 64 + 1) (-1200)) 1100 + 1073 + (G : Int)).toNat = G - 127 by omega]
      rw [← hnear]
      obtain ⟨o, ho⟩ : ∃ o, o = OP - 1 := ⟨_, rfl⟩
      rw [← ho]
      rw [rung_tiny, rung_tiny]
      · have q := Nat.mul_lt_mul_of_pos_right hS2 (Nat.two_pow_pos o)
        rw [← Nat.pow_add] at q
        have q2 := Nat.pow_le_pow_right (show 0 < 2 by decide) (show 68 + o + 1 ≤ 63 + c1 by omega)
        rw [Nat.pow_succ] at q2
        exact two_le q q2
      · have q := Nat.mul_lt_mul_of_pos_right hS2 (Nat.two_pow_pos (G - 127))
        rw [← Nat.pow_add] at q
        have q2 := Nat.pow_le_pow_right (show 0 < 2 by decide) (show 68 + (G - 127) + 1 ≤ G by omega)
        rw [Nat.pow_succ] at q2
        exact two_le q q2

end Go.Proofs.YthmocdabakkfhaaGreatDoor

/-
  The landed quotient, walked.
-/
namespace Go.Proofs.YthmocdabakkfhaaGreatDoor
set_option maxRecDepth 100000
open Go.RowKit Pt Flo

theorem PR.form {w : World} {g : Nat} {v : Value} {n : Nat} (h : PR w g v n) : ∃ l cap, v = .slice (some ⟨g, 0, none⟩) l cap ∧ (l = 0 ↔ n = 0) ∧ l ≤ cap ∧ cap ≤ 9223372036854775807 := by
  obtain ⟨ds, hP, hv, ht⟩ := h
  have hc := hP
  obtain ⟨cap, rfl, _, _⟩ := hP
  have hcap := hc.cap.2
  unfold maxLen at hcap
  refine ⟨ds.length, cap, rfl, ⟨?_, ?_⟩, hcap.1, by omega⟩
  · intro e
    rw [← hv, List.eq_nil_of_length_eq_zero e]; rfl
  · intro e
    rcases ht with h0 | h0
    · exact h0
    · have := rpos (ds.length - 1); omega
theorem quo_step0 {N B f A i : Nat} (h : N + 2 * B * f = 2 ^ i * A) : N * 2 + 2 * B * (2 * f) = 2 ^ (i + 1) * A := by
  rw [Nat.pow_succ, Nat.mul_right_comm (2 ^ i) 2 A, ← h, Nat.add_mul, Nat.mul_assoc (2 * B) f 2, Nat.mul_comm f 2]
theorem quo_step1 {N B f A i : Nat} (hN : B ≤ N) (h : N + 2 * B * f = 2 ^ i * A) : (N - B) * 2 + 2 * B * (2 * f + 1) = 2 ^ (i + 1) * A := by
  have := quo_step0 h
  rw [Nat.mul_add, Nat.mul_one]
  have e : (N - B) * 2 = N * 2 - B * 2 := Nat.sub_mul _ _ _
  omega
theorem or_one {f : Nat} (h : f < 9223372036854775808) : bits .or .u64 ((f : Int) * 2) 1 = ((2 * f + 1 : Nat) : Int) := by
  rw [u64_or _ _ (by omega) (by omega) (by decide) (by decide), show ((f : Int) * 2).toNat = f * 2 by omega, show (1 : Int).toNat = 1 from rfl, nat_join 1 _ _ (by omega) (by decide)]
  omega
theorem frac_lt {f i : Nat} (hi : i < 64) (h : f < 2 ^ i) : f < 9223372036854775808 := Nat.lt_of_lt_of_le h (Nat.pow_le_pow_right (by decide) (show i ≤ 63 by omega))

end Go.Proofs.YthmocdabakkfhaaGreatDoor
