/-
  SumFast, SumPlain, SumLaws, WholeMath, WholeHalves, WholeRef
-/
import Derived.Test.YthmocdabakkfhaaGreatDoorZ07

/-
  Plain mathematics: what a sum lacks is a number, and so is what the sum is more than the greater one.
-/
namespace Go.Proofs.YthmocdabakkfhaaGreatDoor.Flo
set_option maxRecDepth 100000
open Go.Proofs.YthmocdabakkfhaaGreatDoor

def RepI (z : Int) : Prop := Rep z.natAbs
theorem RepI.neg {z : Int} (h : RepI z) : RepI (-z) := by unfold RepI; rw [Int.natAbs_neg]; exact h
theorem repI_mul {c : Int} {d : Nat} (h : c.natAbs ≤ 9007199254740992) (hv : (c * ((2 ^ d : Nat) : Int)).natAbs < 2 ^ TP) : RepI (c * ((2 ^ d : Nat) : Int)) := by
  unfold RepI
  rw [natAbs_scale] at hv ⊢
  exact rep_of h hv
theorem repI_M {r : Nat} (h : r < 9218868437227405312) : RepI (M r) := ⟨r, h, by simp⟩
theorem repI_sz {s : Bool} {r : Nat} (h : r < 9218868437227405312) : RepI (sz s (M r)) := by
  unfold sz; cases s
  · exact repI_M h
  · exact (repI_M h).neg

theorem pow_split {a b : Nat} (h : a ≤ b) : 2 ^ b = 2 ^ (b - a) * 2 ^ a := by rw [← Nat.pow_add]; congr 1; omega

/-- A multiple of P that is not greater than 2^53 times it. -/
theorem small_mul {c P : Int} (hP : 0 < P) (h : (c * P).natAbs ≤ 9007199254740992 * P.natAbs) : c.natAbs ≤ 9007199254740992 := by
  rw [Int.natAbs_mul] at h
  exact Nat.le_of_mul_le_mul_right h (by omega)

theorem fast2sum (r u : Nat) (hr : r < 9218868437227405312) (hu : u ≤ r) (neg : Bool) (V : Nat) (hV : (V : Int) = (M r : Int) + sz neg (M u)) (hfin : rung 0 V < 9218868437227405312) :
    RepI ((M (rung 0 V) : Int) - (M r : Int)) ∧ RepI (sz neg (M u) - ((M (rung 0 V) : Int) - (M r : Int))) := by
  have hS := M_rung hfin
  have hSt := M_lt hfin
  have hxt := M_lt hr
  obtain ⟨x1, x2, x3⟩ := M_parts r
  obtain ⟨y1, y2, y3⟩ := M_parts u
  have hjk := pl_mono hu
  obtain ⟨a1, a2, a3⟩ := lowest_spec 0 V
  obtain ⟨e, g1, g2, g3⟩ := rne_near V (lowest 0 V)
  have hBr : RepI (sz neg (M u)) := repI_sz (Nat.lt_of_le_of_lt hu hr)
  have hyx : M u ≤ M r := by
    rcases Nat.lt_or_ge (M r) (M u) with k | k
    · have := M_lt_iff.1 k; omega
    · exact k
  have hBx : (sz neg (M u)).natAbs = M u := by unfold sz; cases neg <;> simp
  obtain ⟨bq, hbq⟩ : ∃ c : Int, sz neg (M u) = c * ((2 ^ pl u : Nat) : Int) ∧ c.natAbs = pq u := by
    refine ⟨sz neg (pq u), ?_, by unfold sz; cases neg <;> simp⟩
    rw [y1]; unfold sz
    cases neg
    · simp
    · simp only [if_true]; push_cast; rw [Int.neg_mul]
  rw [hS] at hSt ⊢
  clear hS hfin
  generalize lowest 0 V = d at *
  generalize rne V d = q at *
  have hxI : (M r : Int) = (pq r : Int) * ((2 ^ pl r : Nat) : Int) := by rw [x1]; push_cast; rfl
  have hyI : M u < 9007199254740992 * 2 ^ pl u := by rw [y1]; exact Nat.mul_lt_mul_of_pos_right y2 (Nat.two_pow_pos _)
  have hxI2 : M r ≤ 9007199254740991 * 2 ^ pl r := by rw [x1]; exact Nat.mul_le_mul_right _ (by omega)
  generalize hB : sz neg (M u) = B at *
  generalize M r = x at *
  generalize M u = y at *
  generalize pq r = n at *
  generalize pl r = k at *
  generalize pl u = j at *
  have hSI : ((q * 2 ^ d : Nat) : Int) = (q : Int) * ((2 ^ d : Nat) : Int) := by push_cast; rfl
  rw [hSI]
  have hSt2 : ((q : Int) * ((2 ^ d : Nat) : Int)) < ((2 ^ TP : Nat) : Int) := by rw [← hSI]; omega
  have hSn : 0 ≤ ((q : Int) * ((2 ^ d : Nat) : Int)) := by rw [← hSI]; omega
  have pd := Nat.two_pow_pos d
  have pj := Nat.two_pow_pos j
  have pk := Nat.two_pow_pos k
  clear hSI hSt a1 x1 y1 hB
  rcases Nat.lt_or_ge j d with c1 | c1
  · -- something may fall out
    have hV52 := a3 (by omega)
    rcases Nat.lt_or_ge k d with c2 | c2
    · have hd : d = k + 1 := by
        rcases Nat.lt_or_ge (k + 1) d with c3 | c3
        · exfalso
          have h1 : 2 ^ (k + 54) ≤ 2 ^ (d + 52) := Nat.pow_le_pow_right (by decide) (by omega)
          have h2 : 2 ^ (k + 54) = 18014398509481984 * 2 ^ k := by rw [Nat.add_comm, Nat.pow_add]
          omega
        · omega
      subst hd
      have h2 : 2 ^ (k + 1 + 52) = 9007199254740992 * 2 ^ k := by rw [show k + 1 + 52 = 53 + k by omega, Nat.pow_add]
      have h3 : 2 ^ (k + 1) = 2 * 2 ^ k := Nat.pow_succ'
      have q1 : (q : Int) * ((2 ^ (k + 1) : Nat) : Int) = (2 * (q : Int)) * ((2 ^ k : Nat) : Int) := by rw [h3]; push_cast; grind
      have hjk2 : 2 ^ k = 2 ^ (k - j) * 2 ^ j := pow_split hjk
      have f1 : (q : Int) * ((2 ^ (k + 1) : Nat) : Int) - (x : Int) = (2 * (q : Int) - (n : Int)) * ((2 ^ k : Nat) : Int) := by rw [q1, hxI, Int.sub_mul]
      have f2 : B - ((q : Int) * ((2 ^ (k + 1) : Nat) : Int) - (x : Int)) = (bq - (2 * (q : Int) - (n : Int)) * ((2 ^ (k - j) : Nat) : Int)) * ((2 ^ j : Nat) : Int) := by
        rw [f1, hbq.1, hjk2, Int.sub_mul]; push_cast; grind
      constructor
      · have bd : ((q : Int) * ((2 ^ (k + 1) : Nat) : Int) - (x : Int)).natAbs ≤ 9007199254740992 * ((2 ^ k : Nat) : Int).natAbs := by
          simp only [Int.natAbs_natCast]
          omega
        have bt : ((q : Int) * ((2 ^ (k + 1) : Nat) : Int) - (x : Int)).natAbs < 2 ^ TP := by omega
        rw [f1] at bd bt ⊢
        exact repI_mul (small_mul (by omega) bd) bt
      · have bd : (B - ((q : Int) * ((2 ^ (k + 1) : Nat) : Int) - (x : Int))).natAbs ≤ y := by omega
        have bd2 : (B - ((q : Int) * ((2 ^ (k + 1) : Nat) : Int) - (x : Int))).natAbs ≤ 9007199254740992 * ((2 ^ j : Nat) : Int).natAbs := by
          simp only [Int.natAbs_natCast]
          omega
        have bt : (B - ((q : Int) * ((2 ^ (k + 1) : Nat) : Int) - (x : Int))).natAbs < 2 ^ TP := by omega
        rw [f2] at bd2 bt ⊢
        exact repI_mul (small_mul (by omega) bd2) bt
    · have hkd : 2 ^ k = 2 ^ (k - d) * 2 ^ d := pow_split c2
      have hdj : 2 ^ d = 2 ^ (d - j) * 2 ^ j := pow_split (by omega)
      have hx2 : (x : Int) = ((n : Int) * ((2 ^ (k - d) : Nat) : Int)) * ((2 ^ d : Nat) : Int) := by rw [hxI, hkd]; push_cast; grind
      have f1 : (q : Int) * ((2 ^ d : Nat) : Int) - (x : Int) = ((q : Int) - (n : Int) * ((2 ^ (k - d) : Nat) : Int)) * ((2 ^ d : Nat) : Int) := by rw [Int.sub_mul, ← hx2]
      have f2 : B - ((q : Int) * ((2 ^ d : Nat) : Int) - (x : Int)) = (bq - ((q : Int) - (n : Int) * ((2 ^ (k - d) : Nat) : Int)) * ((2 ^ (d - j) : Nat) : Int)) * ((2 ^ j : Nat) : Int) := by
        rw [f1, hbq.1]; rw [Int.sub_mul bq]
        congr 1
        rw [hdj]; push_cast; grind
      have nl := near_least (c := (n : Int) * ((2 ^ (k - d) : Nat) : Int)) (by omega) g1 g2 g3
      rw [← hx2] at nl
      have hd2 : 2 * 2 ^ j ≤ 2 ^ d := by rw [← Nat.pow_succ']; exact Nat.pow_le_pow_right (by decide) c1
      constructor
      · have bd : ((q : Int) * ((2 ^ d : Nat) : Int) - (x : Int)).natAbs ≤ 9007199254740992 * ((2 ^ d : Nat) : Int).natAbs := by
          simp only [Int.natAbs_natCast]
          omega
        have bt : ((q : Int) * ((2 ^ d : Nat) : Int) - (x : Int)).natAbs < 2 ^ TP := by omega
        rw [f1] at bd bt ⊢
        exact repI_mul (small_mul (by omega) bd) bt
      · have bd : (B - ((q : Int) * ((2 ^ d : Nat) : Int) - (x : Int))).natAbs ≤ y := by omega
        have bd2 : (B - ((q : Int) * ((2 ^ d : Nat) : Int) - (x : Int))).natAbs ≤ 9007199254740992 * ((2 ^ j : Nat) : Int).natAbs := by
          simp only [Int.natAbs_natCast]
          omega
        have bt : (B - ((q : Int) * ((2 ^ d : Nat) : Int) - (x : Int))).natAbs < 2 ^ TP := by omega
        rw [f2] at bd2 bt ⊢
        exact repI_mul (small_mul (by omega) bd2) bt
  · -- nothing falls out
    have hkd : 2 ^ k = 2 ^ (k - d) * 2 ^ d := pow_split (by omega)
    have hjd : 2 ^ j = 2 ^ (j - d) * 2 ^ d := pow_split c1
    have hx2 : (x : Int) = ((n : Int) * ((2 ^ (k - d) : Nat) : Int)) * ((2 ^ d : Nat) : Int) := by rw [hxI, hkd]; push_cast; grind
    have hB2 : B = (bq * ((2 ^ (j - d) : Nat) : Int)) * ((2 ^ d : Nat) : Int) := by rw [hbq.1, hjd]; push_cast; grind
    have nl := near_least (c := (n : Int) * ((2 ^ (k - d) : Nat) : Int) + bq * ((2 ^ (j - d) : Nat) : Int)) (by omega) g1 g2 g3
    rw [Int.add_mul, ← hx2, ← hB2] at nl
    have he : e = 0 := by omega
    have hSx : (q : Int) * ((2 ^ d : Nat) : Int) - (x : Int) = B := by omega
    rw [hSx]
    refine ⟨hBr, ?_⟩
    rw [Int.sub_self]
    exact rep_zero

theorem SV_word {s : Bool} {r : Nat} (h : r ≤ 9218868437227405312) : SV (sgn s + (r : Int)) = sz s (M r) ∧ mag (sgn s + (r : Int)) = (r : Int) ∧ belowB (sgn s + (r : Int)) = s := by
  have h1 : mag (sgn s + (r : Int)) = (r : Int) := by
    unfold mag sgn; cases s
    · simp only [Bool.false_eq_true, if_false]; rw [if_neg (by omega)]; omega
    · simp only [if_true]; rw [if_pos (by omega)]; omega
  have h2 : belowB (sgn s + (r : Int)) = s := by
    unfold belowB sgn; cases s
    · simp only [Bool.false_eq_true, if_false]; exact decide_eq_false (by omega)
    · simp only [if_true]; exact decide_eq_true (by omega)
  refine ⟨?_, h1, h2⟩
  unfold SV MZ
  rw [h1, h2, Int.toNat_natCast]
theorem sz_self (T : Int) : sz (decide (T < 0)) T.natAbs = T := by
  unfold sz
  by_cases h : T < 0
  · rw [decide_eq_true h, if_pos rfl]; omega
  · rw [decide_eq_false h]; simp; omega
theorem sz_nought (s : Bool) : sz s 0 = 0 := by unfold sz; cases s <;> simp
/-- What is made of a sum that is a number. -/
theorem SV_near (z : Bool) {T : Int} (h : RepI T) : SV (nearZ z T) = T ∧ mag (nearZ z T) < 9218868437227405312 := by
  obtain ⟨h1, h2⟩ := Rep.rung h
  unfold nearZ
  by_cases c : T = 0
  · rw [if_pos c]
    obtain ⟨w1, w2, w3⟩ := SV_word (s := z) (r := 0) (by omega)
    rw [show sgn z + ((0 : Nat) : Int) = sgn z by omega, M_zero] at w1
    rw [show sgn z + ((0 : Nat) : Int) = sgn z by omega] at w2
    rw [w1, w2, sz_nought, c]
    exact ⟨rfl, by decide⟩
  · rw [if_neg c]
    obtain ⟨w1, w2, w3⟩ := SV_word (s := decide (T < 0)) (r := rung 0 T.natAbs) (by omega)
    rw [w1, w2, h2, sz_self]
    exact ⟨rfl, by omega⟩
/-- What is made of any sum. -/
theorem SV_near2 (z : Bool) (T : Int) : SV (nearZ z T) = sz (decide (T < 0)) (M (rung 0 T.natAbs)) ∧ mag (nearZ z T) = (rung 0 T.natAbs : Nat) := by
  unfold nearZ
  by_cases c : T = 0
  · subst c
    rw [if_pos rfl]
    obtain ⟨w1, w2, w3⟩ := SV_word (s := z) (r := 0) (by omega)
    rw [show sgn z + ((0 : Nat) : Int) = sgn z by omega, M_zero] at w1
    rw [show sgn z + ((0 : Nat) : Int) = sgn z by omega] at w2
    rw [w1, w2, sz_nought, Int.natAbs_zero, rung_tiny (by simp), M_zero, sz_nought]
    exact ⟨rfl, rfl⟩
  · rw [if_neg c]
    obtain ⟨w1, w2, w3⟩ := SV_word (s := decide (T < 0)) (r := rung 0 T.natAbs) (rung_le _ _)
    exact ⟨w1, w2⟩

end Go.Proofs.YthmocdabakkfhaaGreatDoor.Flo

/-
  Plain laws of sums and products: either order, signs.
-/
namespace Go.Proofs.YthmocdabakkfhaaGreatDoor
set_option maxRecDepth 100000
open Go.RowKit Flo

theorem addBad_comm (a b : Int) : addBad a b = addBad b a := by
  unfold addBad
  cases nanB a <;> cases nanB b <;> cases infB a <;> cases infB b <;> cases belowB a <;> cases belowB b <;> rfl
theorem addZ_comm {a b : Int} (ha : U64 a) (hb : U64 b) : addZ a b = addZ b a := by
  unfold addZ
  rw [addBad_comm b a]
  cases hbad : addBad a b
  · simp only [Bool.false_eq_true, if_false]
    cases h1 : infB a <;> cases h2 : infB b
    · simp only [Bool.false_eq_true, if_false]
      rw [Bool.and_comm, Int.add_comm]
    · simp only [Bool.false_eq_true, if_false, if_true]
    · simp only [Bool.false_eq_true, if_false, if_true]
    · simp only [if_true]
      unfold addBad at hbad
      rw [h1, h2] at hbad
      have hx : (belowB a ^^ belowB b) = false := by
        revert hbad; cases nanB a <;> cases nanB b <;> simp
      have e1 := inf_word ha (of_decide_eq_true h1)
      have e2 := inf_word hb (of_decide_eq_true h2)
      have : belowB a = belowB b := by revert hx; cases belowB a <;> cases belowB b <;> simp
      rw [this] at e1
      exact e1.trans e2.symm
  · simp only [if_true]
theorem nanZ_nan : nanB 9221120237041090560 = true := by decide
theorem neg_of_nan {b : Int} (h : nanB b = true) : negZ b = 9221120237041090560 := by unfold negZ; rw [h]; rfl
theorem neg_nan (b : Int) (hb : U64 b) : nanB (negZ b) = nanB b := by
  cases h : nanB b
  · have := (neg_parts hb h).1
    unfold nanB at h ⊢
    rw [this, h]
  · rw [neg_of_nan h, nanZ_nan]
theorem neg_neg {b : Int} (hb : U64 b) (h : nanB b = false) : negZ (negZ b) = b := by
  have h2 := neg_nan b hb
  rw [h] at h2
  obtain ⟨h0, h1⟩ := hb
  unfold negZ at h2 ⊢
  rw [h] at h2 ⊢
  simp only [Bool.false_eq_true, if_false] at h2 ⊢
  rw [h2]
  simp only [Bool.false_eq_true, if_false]
  by_cases c : 9223372036854775808 ≤ b
  · rw [if_pos c, if_neg (by omega)]; omega
  · rw [if_neg c, if_pos (by omega)]; omega
theorem addZ_nanl {a b : Int} (h : nanB a = true) : addZ a b = 9221120237041090560 := by unfold addZ addBad; rw [h]; simp
theorem addZ_nanr {a b : Int} (h : nanB b = true) : addZ a b = 9221120237041090560 := by unfold addZ addBad; rw [h]; simp
theorem sub_neg {a b : Int} (hb : U64 b) : subZ a (negZ b) = addZ a b := by
  unfold subZ
  cases h : nanB b
  · rw [neg_neg hb h]
  · rw [addZ_nanr h, addZ_nanr]
    rw [neg_nan _ (negZ_u64 hb), neg_nan _ hb, h]

theorem mulBad_comm (a b : Int) : mulBad a b = mulBad b a := by
  unfold mulBad
  cases nanB a <;> cases nanB b <;> cases infB a <;> cases infB b <;> cases decide (mag a = 0) <;> cases decide (mag b = 0) <;> rfl
theorem mulZ_comm (a b : Int) : mulZ a b = mulZ b a := by
  unfold mulZ
  rw [mulBad_comm b a, Bool.or_comm (infB b), Bool.xor_comm (belowB b), Nat.mul_comm (MZ b)]
theorem neg_sgn (s : Bool) {r : Nat} (h : r ≤ 9218868437227405312) : negZ (sgn s + (r : Int)) = sgn (!s) + (r : Int) := by
  unfold negZ nanB mag sgn
  cases s
  · simp only [Bool.false_eq_true, if_false, Bool.not_false, if_true]
    rw [if_neg (show ¬ (9223372036854775808 : Int) ≤ 0 + (r : Int) by omega), decide_eq_false (by omega)]
    simp only [Bool.false_eq_true, if_false]
    rw [if_neg (show ¬ (9223372036854775808 : Int) ≤ 0 + (r : Int) by omega)]
    omega
  · simp only [Bool.false_eq_true, if_false, Bool.not_true, if_true]
    rw [if_pos (show (9223372036854775808 : Int) ≤ 9223372036854775808 + (r : Int) by omega), decide_eq_false (by omega)]
    simp only [Bool.false_eq_true, if_false]
    rw [if_pos (show (9223372036854775808 : Int) ≤ 9223372036854775808 + (r : Int) by omega)]
    omega
theorem mulZ_neg {a b : Int} (ha : U64 a) : mulZ (negZ a) b = negZ (mulZ a b) := by
  cases h : nanB a
  · obtain ⟨e1, e2⟩ := neg_parts ha h
    have e3 := neg_nan a ha
    have e4 : infB (negZ a) = infB a := by unfold infB; rw [e1]
    have e5 : MZ (negZ a) = MZ a := by unfold MZ; rw [e1]
    have e6 : mulBad (negZ a) b = mulBad a b := by unfold mulBad; rw [e1, e3, e4]
    unfold mulZ
    rw [e6, e4, e5, e2]
    have hx : (!belowB a ^^ belowB b) = !(belowB a ^^ belowB b) := by cases belowB a <;> cases belowB b <;> rfl
    rw [hx]
    split
    · rw [neg_of_nan nanZ_nan]
    · split
      · exact (neg_sgn _ (Nat.le_refl _)).symm
      · exact (neg_sgn _ (rung_le _ _)).symm
  · have e1 : mulZ a b = 9221120237041090560 := by unfold mulZ mulBad; rw [h]; simp
    have e2 : mulZ (negZ a) b = 9221120237041090560 := by unfold mulZ mulBad; rw [neg_nan a ha, h]; simp
    rw [e1, e2, neg_of_nan nanZ_nan]

end Go.Proofs.YthmocdabakkfhaaGreatDoor

/-
  Plain mathematics of the statements of layer 2.
-/
namespace Go.Proofs.YthmocdabakkfhaaGreatDoor
set_option maxRecDepth 100000
open Go.RowKit Flo

/-- The place of one, in units. -/
def OP : Nat := 1074
theorem OP_eq : OP = 1074 := rfl

theorem word_again {a : Int} (h : U64 a) : a = sgn (belowB a) + mag a := by
  obtain ⟨h0, h1⟩ := h
  unfold belowB sgn mag
  by_cases c : 9223372036854775808 ≤ a
  · rw [decide_eq_true c, if_pos rfl, if_pos c]; omega
  · rw [decide_eq_false c, if_neg c]; simp
theorem M_pow (k : Nat) : M (k * 4503599627370496 + 4503599627370496) = 2 ^ (52 + k) := by
  rw [M_at (by omega) (Or.inr (by omega)), Nat.pow_add]
theorem rung_units (v : Nat) : rung 1074 (v * 2 ^ OP) = rung 0 v := by
  have h := rung_scale 0 v OP
  rw [Nat.zero_add] at h
  rw [← OP_eq]
  exact h
theorem rung_MZ {a : Int} (h : U64 a) (hm : mag a ≤ 9218868437227405312) : ((rung 0 (MZ a) : Nat) : Int) = mag a := by
  unfold MZ
  have := (mag_range h).1
  rw [rung_M (by omega)]
  omega
theorem SV_zero : SV 0 = 0 := by
  have : MZ 0 = 0 := by unfold MZ mag; rfl
  unfold SV
  rw [this, sz_nought]
theorem MZ_0 {a : Int} (h : U64 a) : MZ a = 0 ↔ mag a = 0 := by
  have h0 := (mag_range h).1
  unfold MZ
  have := @M_inj (mag a).toNat 0
  rw [M_zero] at this
  rw [this]
  omega
theorem SV_neg {a : Int} (h : U64 a) (hn : nanB a = false) : SV (negZ a) = -SV a := by
  obtain ⟨e1, e2⟩ := neg_parts h hn
  unfold SV MZ
  rw [e1, e2]
  unfold sz
  cases belowB a <;> simp
/-- A finite number made anew of what it stands for. -/
theorem near_self {a : Int} (h : U64 a) (hm : mag a < 9218868437227405312) (h0 : mag a ≠ 0) (z : Bool) : nearZ z (SV a) = a := by
  have hz : MZ a ≠ 0 := fun k => h0 ((MZ_0 h).1 k)
  have e := word_again h
  rw [← rung_MZ h (by omega)] at e
  unfold nearZ SV
  have e1 : sz (belowB a) (MZ a) ≠ 0 := by unfold sz; cases belowB a <;> simp <;> omega
  have e2 : decide (sz (belowB a) (MZ a) < 0) = belowB a := by unfold sz; cases belowB a <;> simp <;> omega
  have e3 : (sz (belowB a) (MZ a)).natAbs = MZ a := by unfold sz; cases belowB a <;> simp
  rw [if_neg e1, e2, e3]
  exact e.symm
theorem one_mag : mag 4607182418800017408 = 4607182418800017408 := by decide
theorem one_below : belowB 4607182418800017408 = false := by decide
theorem one_MZ : MZ 4607182418800017408 = 2 ^ OP := by
  unfold MZ
  rw [one_mag, show (4607182418800017408 : Int).toNat = 1022 * 4503599627370496 + 4503599627370496 by decide, M_pow]
  congr 1

/-! What nothing, and one, do. -/
theorem nothing_nan {a : Int} (h : nanB a = true) : addZ a 0 = 9221120237041090560 ∧ mulZ a 4607182418800017408 = 9221120237041090560 := by
  exact ⟨addZ_nanl h, by unfold mulZ mulBad; rw [h]; simp⟩
theorem nothing_mul {a : Int} (ha : U64 a) (h : nanB a = false) : mulZ a 4607182418800017408 = a := by
  have e0 : nanB 4607182418800017408 = false := by decide
  have e1 : infB 4607182418800017408 = false := by decide
  have e2 : decide (mag 4607182418800017408 = 0) = false := by decide
  unfold mulZ mulBad
  rw [h, e0, e1, e2, one_below, one_MZ, rung_units]
  cases hi : infB a
  · have hm : mag a < 9218868437227405312 := by
      unfold infB at hi; unfold nanB at h
      have := of_decide_eq_false hi
      have := of_decide_eq_false h
      omega
    simp only [Bool.and_false, Bool.or_false, Bool.false_eq_true, if_false, Bool.xor_false]
    rw [rung_MZ ha (by omega)]
    exact (word_again ha).symm
  · simp only [Bool.and_false, Bool.or_false, Bool.false_eq_true, if_false, Bool.xor_false, if_true]
    exact (inf_word ha (of_decide_eq_true hi)).symm
theorem zero_parts : nanB 0 = false ∧ infB 0 = false ∧ belowB 0 = false := by decide
theorem nothing_add {a : Int} (ha : U64 a) (h : nanB a = false) : equalB (addZ a 0) a = true := by
  obtain ⟨z1, z2, z3⟩ := zero_parts
  unfold addZ addBad
  rw [h, z1, z2, z3]
  cases hi : infB a
  · simp only [Bool.false_or, Bool.false_and, Bool.false_eq_true, if_false, Bool.and_false]
    have hm : mag a < 9218868437227405312 := by
      unfold infB at hi; unfold nanB at h
      have := of_decide_eq_false hi
      have := of_decide_eq_false h
      omega
    rw [SV_zero, Int.add_zero]
    by_cases c : mag a = 0
    · have e : SV a = 0 := by unfold SV; rw [(MZ_0 ha).2 c, sz_nought]
      rw [e]
      have e2 : nearZ false 0 = 0 := by unfold nearZ; rw [if_pos rfl]; rfl
      rw [e2]
      unfold equalB
      rw [h, z1]
      have : sv a = 0 := by unfold sv; unfold mag at c; split at c <;> omega
      rw [this]; decide
    · rw [near_self ha hm c, equalB_self, h]; rfl
  · simp only [Bool.false_or, Bool.false_and, Bool.and_false, Bool.false_eq_true, if_false, if_true]
    rw [equalB_self, h]; rfl
theorem nothing_sub_inf {a : Int} (ha : U64 a) (h : mag a = 9218868437227405312) : subZ a a = 9221120237041090560 := by
  obtain ⟨e1, e2⟩ := neg_parts ha (inf_nan h)
  have e3 : infB (negZ a) = true := by unfold infB; rw [e1]; exact decide_eq_true h
  unfold subZ addZ addBad
  rw [inf_inf h, e3, e2]
  cases belowB a <;> simp
theorem addZ_finite {a b : Int} (ha : mag a < 9218868437227405312) (hb : mag b < 9218868437227405312) : addZ a b = nearZ (belowB a && belowB b) (SV a + SV b) := by
  unfold addZ addBad
  rw [fin_nan ha, fin_nan hb, fin_inf ha, fin_inf hb]; simp
theorem mulZ_finite {a b : Int} (ha : mag a < 9218868437227405312) (hb : mag b < 9218868437227405312) : mulZ a b = sgn (belowB a ^^ belowB b) + (rung 1074 (MZ a * MZ b) : Nat) := by
  unfold mulZ mulBad; rw [fin_nan ha, fin_nan hb, fin_inf ha, fin_inf hb]; simp
theorem subZ_finite {a b : Int} (hu : U64 b) (ha : mag a < 9218868437227405312) (hb : mag b < 9218868437227405312) : subZ a b = nearZ (belowB a && !belowB b) (SV a - SV b) := by
  obtain ⟨e1, e2⟩ := neg_parts hu (fin_nan hb)
  unfold subZ
  rw [addZ_finite ha (by omega), SV_neg hu (fin_nan hb), e2, Int.sub_eq_add_neg]
theorem nothing_sub {a : Int} (ha : U64 a) (h : mag a < 9218868437227405312) : subZ a a = 0 := by
  rw [subZ_finite ha h h, Int.sub_self]
  unfold nearZ
  rw [if_pos rfl]
  cases belowB a <;> rfl

/-! Order. -/
theorem sv_sz {a : Int} (ha : U64 a) : sv a = sz (belowB a) (mag a).toNat := by
  obtain ⟨h0, h1⟩ := ha
  unfold sv belowB mag sz
  by_cases c : 9223372036854775808 ≤ a
  · rw [if_pos c, decide_eq_true c, if_pos rfl, if_pos c]; omega
  · rw [if_neg c, decide_eq_false c, if_neg c]; simp; omega
theorem SV_mono {a b : Int} (ha : U64 a) (hb : U64 b) (h : sv a ≤ sv b) : SV a ≤ SV b := by
  rw [sv_sz ha, sv_sz hb] at h
  have k := cmp_sz (belowB b) (belowB a) (mag b).toNat (mag a).toNat
  unfold SV MZ
  generalize sz (belowB a) (mag a).toNat = x at *
  generalize sz (belowB b) (mag b).toNat = y at *
  generalize sz (belowB a) (M (mag a).toNat) = X at *
  generalize sz (belowB b) (M (mag b).toNat) = Y at *
  rcases Int.lt_or_le Y X with q | q
  · exfalso
    have e1 : (compare Y X == .lt) = true := by rw [cmp_lt]; exact decide_eq_true q
    rw [k, cmp_lt] at e1
    have := of_decide_eq_true e1
    omega
  · exact q
theorem nearZ_sv (z : Bool) (T : Int) : sv (nearZ z T) = sz (decide (T < 0)) (rung 0 T.natAbs) := by
  have h := nearZ_u64 z T
  have hr := rung_le 0 T.natAbs
  by_cases c : T = 0
  · subst c
    unfold nearZ
    rw [if_pos rfl, Int.natAbs_zero, rung_tiny (by simp), sz_nought]
    cases z <;> decide
  · have e : nearZ z T = sgn (decide (T < 0)) + (rung 0 T.natAbs : Nat) := by unfold nearZ; rw [if_neg c]
    obtain ⟨w1, w2, w3⟩ := SV_word (s := decide (T < 0)) hr
    rw [sv_sz h, e, w2, w3, Int.toNat_natCast]
theorem near_mono {S T : Int} (h : S ≤ T) : sz (decide (S < 0)) (rung 0 S.natAbs) ≤ sz (decide (T < 0)) (rung 0 T.natAbs) := by
  by_cases c1 : S < 0
  · by_cases c2 : T < 0
    · have := rung_mono 0 (show T.natAbs ≤ S.natAbs by omega)
      rw [decide_eq_true c1, decide_eq_true c2]
      unfold sz
      simp only [if_true]
      omega
    · rw [decide_eq_true c1, decide_eq_false c2]
      unfold sz
      simp only [if_true, Bool.false_eq_true, if_false]
      omega
  · have c2 : ¬ T < 0 := by omega
    have := rung_mono 0 (show S.natAbs ≤ T.natAbs by omega)
    rw [decide_eq_false c1, decide_eq_false c2]
    unfold sz
    simp only [Bool.false_eq_true, if_false]
    omega
theorem rises_add {a b c : Int} (ha : U64 a) (hb : U64 b) (fa : mag a < 9218868437227405312) (fb : mag b < 9218868437227405312) (fc : mag c < 9218868437227405312) (h : sv a ≤ sv b) : lessB (addZ b c) (addZ a c) = false := by
  have h1 := SV_mono ha hb h
  rw [addZ_finite fb fc, addZ_finite fa fc]
  unfold lessB
  rw [nearZ_nan, nearZ_nan, nearZ_sv, nearZ_sv]
  have := near_mono (show SV a + SV c ≤ SV b + SV c by omega)
  simp only [Bool.not_false, Bool.true_and]
  exact decide_eq_false (by omega)
theorem word_sv {s : Bool} {r : Nat} (h : r ≤ 9218868437227405312) : sv (sgn s + (r : Int)) = sz s r ∧ nanB (sgn s + (r : Int)) = false := by
  obtain ⟨w1, w2, w3⟩ := SV_word (s := s) h
  have hu : U64 (sgn s + (r : Int)) := by unfold U64 sgn; cases s <;> simp <;> omega
  refine ⟨?_, ?_⟩
  · rw [sv_sz hu, w2, w3, Int.toNat_natCast]
  · unfold nanB; rw [w2]; exact decide_eq_false (by omega)
theorem rises_mul {a b d : Int} (ha : U64 a) (hb : U64 b) (fa : mag a < 9218868437227405312) (fb : mag b < 9218868437227405312) (fd : mag d < 9218868437227405312) (hd : belowB d = false) (h : sv a ≤ sv b) : lessB (mulZ b d) (mulZ a d) = false := by
  have h1 := SV_mono ha hb h
  rw [mulZ_finite fb fd, mulZ_finite fa fd, hd, Bool.xor_false, Bool.xor_false]
  obtain ⟨p1, p2⟩ := word_sv (s := belowB b) (rung_le 1074 (MZ b * MZ d))
  obtain ⟨q1, q2⟩ := word_sv (s := belowB a) (rung_le 1074 (MZ a * MZ d))
  unfold lessB
  rw [p1, p2, q1, q2]
  simp only [Bool.not_false, Bool.true_and]
  refine decide_eq_false ?_
  unfold SV at h1
  have z0 : rung 1074 (0 * MZ d) = 0 := by rw [Nat.zero_mul]; exact rung_tiny (Nat.zero_le _)
  cases sa : belowB a <;> cases sb : belowB b
  · rw [sa, sb] at h1
    unfold sz at h1 ⊢
    simp only [Bool.false_eq_true, if_false] at h1 ⊢
    have := rung_mono 1074 (Nat.mul_le_mul_right (MZ d) (show MZ a ≤ MZ b by omega))
    omega
  · rw [sa, sb] at h1
    unfold sz at h1 ⊢
    simp only [Bool.false_eq_true, if_false, if_true] at h1 ⊢
    have e1 : MZ a = 0 := by omega
    have e2 : MZ b = 0 := by omega
    rw [e1, e2, z0]
    decide
  · unfold sz
    simp only [Bool.false_eq_true, if_false, if_true]
    omega
  · rw [sa, sb] at h1
    unfold sz at h1 ⊢
    simp only [if_true] at h1 ⊢
    have := rung_mono 1074 (Nat.mul_le_mul_right (MZ d) (show MZ b ≤ MZ a by omega))
    omega

/-! Whole numbers. -/
def wholeN (n : Nat) : Nat := rung 0 (n * 2 ^ OP)
theorem whole_rep {n : Nat} (h : n < 9007199254740992) : Rep (n * 2 ^ OP) := by
  have h1 := OP_eq
  have h2 := TP_eq
  refine rep_lt h (Nat.lt_of_lt_of_le (scaled_lt (L := 53) (by omega)) (Nat.pow_le_pow_right (by decide) (by omega)))
theorem whole_parts {n : Nat} (h : n < 9007199254740992) : mag (wholeN n : Nat) < 9218868437227405312 ∧ SV (wholeN n : Nat) = ((n * 2 ^ OP : Nat) : Int) ∧ belowB (wholeN n : Nat) = false ∧ MZ (wholeN n : Nat) = n * 2 ^ OP ∧ U64 (wholeN n : Nat) := by
  obtain ⟨h1, h2⟩ := (whole_rep h).rung
  obtain ⟨w1, w2, w3⟩ := SV_word (s := false) (rung_le 0 (n * 2 ^ OP))
  have e : sgn false + ((rung 0 (n * 2 ^ OP) : Nat) : Int) = ((wholeN n : Nat) : Int) := by unfold sgn wholeN; simp
  rw [e] at w1 w2 w3
  have hz : MZ (wholeN n : Nat) = n * 2 ^ OP := by unfold MZ; rw [w2, Int.toNat_natCast, h2]
  refine ⟨by omega, ?_, w3, hz, ?_⟩
  · rw [w1, h2]; rfl
  · unfold U64 wholeN; omega
theorem near_whole (n : Nat) : nearZ false ((n * 2 ^ OP : Nat) : Int) = (wholeN n : Nat) := by
  unfold nearZ wholeN
  by_cases c : ((n * 2 ^ OP : Nat) : Int) = 0
  · rw [if_pos c]
    have e : n * 2 ^ OP = 0 := by omega
    rw [e, rung_tiny (by simp)]; rfl
  · rw [if_neg c, decide_eq_false (by omega), Int.natAbs_natCast]
    unfold sgn; simp
theorem exact_add {x y : Nat} (hx : x < 67108864) (hy : y < 67108864) : addZ (wholeN x : Nat) (wholeN y : Nat) = (wholeN (x + y) : Nat) := by
  obtain ⟨a1, a2, a3, a4, a5⟩ := whole_parts (show x < 9007199254740992 by omega)
  obtain ⟨b1, b2, b3, b4, b5⟩ := whole_parts (show y < 9007199254740992 by omega)
  rw [addZ_finite a1 b1, a2, b2, a3, b3, ← near_whole, Nat.add_mul, Int.natCast_add]
  rfl
theorem exact_sub {x y : Nat} (hx : x < 67108864) (hy : y < 67108864) : subZ (wholeN (x + y) : Nat) (wholeN y : Nat) = (wholeN x : Nat) := by
  obtain ⟨a1, a2, a3, a4, a5⟩ := whole_parts (show x + y < 9007199254740992 by omega)
  obtain ⟨b1, b2, b3, b4, b5⟩ := whole_parts (show y < 9007199254740992 by omega)
  rw [subZ_finite b5 a1 b1, a2, b2, a3, b3, ← near_whole, Nat.add_mul, Int.natCast_add, Int.add_sub_cancel]
  rfl
theorem exact_mul {x y : Nat} (hx : x < 67108864) (hy : y < 67108864) : mulZ (wholeN x : Nat) (wholeN y : Nat) = (wholeN (x * y) : Nat) := by
  obtain ⟨a1, a2, a3, a4, a5⟩ := whole_parts (show x < 9007199254740992 by omega)
  obtain ⟨b1, b2, b3, b4, b5⟩ := whole_parts (show y < 9007199254740992 by omega)
  have e : x * 2 ^ OP * (y * 2 ^ OP) = x * y * 2 ^ OP * 2 ^ OP := by grind
  rw [mulZ_finite a1 b1, a3, b3, a4, b4, e, rung_units]
  unfold sgn wholeN
  simp

/-! Powers of two. -/
theorem two_parts (k : Nat) (hk : k < 100) : mag ((1023 + (k : Int)) * 4503599627370496) < 9218868437227405312 ∧ belowB ((1023 + (k : Int)) * 4503599627370496) = false ∧ MZ ((1023 + (k : Int)) * 4503599627370496) = 2 ^ k * 2 ^ OP := by
  have e : mag ((1023 + (k : Int)) * 4503599627370496) = (1023 + (k : Int)) * 4503599627370496 := by unfold mag; rw [if_neg (by omega)]
  refine ⟨by rw [e]; omega, decide_eq_false (by omega), ?_⟩
  unfold MZ
  rw [e, show ((1023 + (k : Int)) * 4503599627370496).toNat = (1022 + k) * 4503599627370496 + 4503599627370496 by omega, M_pow, ← Nat.pow_add]
  congr 1
  have := OP_eq
  omega
theorem scales_mul {a : Int} (ha : mag a < 9218868437227405312) (k : Nat) (hk : k < 100) : mulZ a ((1023 + (k : Int)) * 4503599627370496) = sgn (belowB a) + (rung 0 (MZ a * 2 ^ k) : Nat) := by
  obtain ⟨t1, t2, t3⟩ := two_parts k hk
  rw [mulZ_finite ha t1, t2, t3, Bool.xor_false, ← Nat.mul_assoc, rung_units]
theorem scales_add {a : Int} (hu : U64 a) (ha : mag a < 9218868437227405312) (h0 : mag a ≠ 0) : addZ a a = sgn (belowB a) + (rung 0 (2 * MZ a) : Nat) := by
  have hz : MZ a ≠ 0 := fun k => h0 ((MZ_0 hu).1 k)
  rw [addZ_finite ha ha]
  unfold nearZ SV sz
  cases belowB a
  · simp only [Bool.false_eq_true, if_false]
    rw [if_neg (by omega), decide_eq_false (by omega), show ((MZ a : Int) + (MZ a : Int)).natAbs = 2 * MZ a by omega]
  · simp only [if_true]
    rw [if_neg (by omega), decide_eq_true (by omega), show (-(MZ a : Int) + -(MZ a : Int)).natAbs = 2 * MZ a by omega]

/-! What a sum lacks. -/
theorem loses {a b : Int} (ha : U64 a) (hb : U64 b) (fa : mag a < 9218868437227405312) (fb : mag b < 9218868437227405312) (hle : mag b ≤ mag a) (hs : mag (addZ a b) < 9218868437227405312) :
    mag (subZ b (subZ (addZ a b) a)) < 9218868437227405312 ∧ SV (addZ a b) + SV (subZ b (subZ (addZ a b) a)) = SV a + SV b := by
  have hsu := addZ_u64 ha hb
  have es := addZ_finite fa fb
  have ma := mag_range ha
  have mb := mag_range hb
  obtain ⟨n1, n2⟩ := SV_near2 (belowB a && belowB b) (SV a + SV b)
  rw [← es] at n1 n2
  -- the sum seen with the first one's sign
  have key : RepI (SV (addZ a b) - SV a) ∧ RepI (SV b - (SV (addZ a b) - SV a)) := by
    obtain ⟨V, hV⟩ : ∃ V : Nat, V = (SV a + SV b).natAbs := ⟨_, rfl⟩
    have hM : M (mag b).toNat ≤ M (mag a).toNat := by
      rcases Nat.lt_or_ge (M (mag a).toNat) (M (mag b).toNat) with k | k
      · have := M_lt_iff.1 k; omega
      · exact k
    have f := fast2sum (mag a).toNat (mag b).toNat (by omega) (by omega) (belowB a ^^ belowB b) V
    have hfin : rung 0 V < 9218868437227405312 := by rw [hV]; omega
    rw [← hV] at n1
    have hz : V = 0 → M (rung 0 V) = 0 := by intro k; rw [k, rung_tiny (by simp), M_zero]
    unfold SV at hV n1 ⊢
    unfold MZ at hV n1 ⊢
    have n1' : sz (belowB (addZ a b)) (M (mag (addZ a b)).toNat) = sz (decide (sz (belowB a) (M (mag a).toNat) + sz (belowB b) (M (mag b).toNat) < 0)) (M (rung 0 V)) := n1
    rw [n1']
    generalize M (mag a).toNat = x at *
    generalize M (mag b).toNat = y at *
    generalize M (rung 0 V) = S at *
    clear n1 n1' n2 es hs hsu
    generalize belowB a = sa at *
    generalize belowB b = sb at *
    cases sa <;> cases sb
    · have g := f (by unfold sz at hV ⊢; simp at hV ⊢; omega) hfin
      unfold sz at g hV ⊢
      simp only [Bool.false_eq_true, if_false, Bool.xor_false] at g hV ⊢
      rw [decide_eq_false (show ¬ (x : Int) + (y : Int) < 0 by omega)]
      exact g
    · have g := f (by unfold sz at hV ⊢; simp at hV ⊢; omega) hfin
      unfold sz at g hV ⊢
      simp only [Bool.false_eq_true, if_false, if_true, Bool.false_xor] at g hV ⊢
      rw [decide_eq_false (show ¬ (x : Int) + -(y : Int) < 0 by omega)]
      exact g
    · have g := f (by unfold sz at hV ⊢; simp at hV ⊢; omega) hfin
      unfold sz at g hV ⊢
      simp only [Bool.false_eq_true, if_false, if_true, Bool.xor_false] at g hV ⊢
      obtain ⟨g1, g2⟩ := g
      by_cases c : -(x : Int) + (y : Int) < 0
      · rw [decide_eq_true c]
        simp only [if_true]
        refine ⟨?_, ?_⟩
        · have := g1.neg; rw [show -((S : Int) - (x : Int)) = -(S : Int) - -(x : Int) by omega] at this; exact this
        · have := g2.neg; rw [show -(-(y : Int) - ((S : Int) - (x : Int))) = (y : Int) - (-(S : Int) - -(x : Int)) by omega] at this; exact this
      · have hS0 : S = 0 := hz (by omega)
        rw [decide_eq_false c]
        simp only [Bool.false_eq_true, if_false]
        refine ⟨?_, ?_⟩
        · have := g1.neg; rw [show -((S : Int) - (x : Int)) = (S : Int) - -(x : Int) by omega] at this; exact this
        · have := g2.neg; rw [show -(-(y : Int) - ((S : Int) - (x : Int))) = (y : Int) - ((S : Int) - -(x : Int)) by omega] at this; exact this
    · have g := f (by unfold sz at hV ⊢; simp at hV ⊢; omega) hfin
      unfold sz at g hV ⊢
      simp only [Bool.false_eq_true, if_false, if_true, Bool.xor_self] at g hV ⊢
      obtain ⟨g1, g2⟩ := g
      by_cases c : -(x : Int) + -(y : Int) < 0
      · rw [decide_eq_true c]
        simp only [if_true]
        refine ⟨?_, ?_⟩
        · have := g1.neg; rw [show -((S : Int) - (x : Int)) = -(S : Int) - -(x : Int) by omega] at this; exact this
        · have := g2.neg; rw [show -((y : Int) - ((S : Int) - (x : Int))) = -(y : Int) - (-(S : Int) - -(x : Int)) by omega] at this; exact this
      · have hS0 : S = 0 := hz (by omega)
        rw [decide_eq_false c]
        simp only [Bool.false_eq_true, if_false]
        refine ⟨?_, ?_⟩
        · have := g1.neg; rw [show -((S : Int) - (x : Int)) = (S : Int) - -(x : Int) by omega] at this; exact this
        · have := g2.neg; rw [show -((y : Int) - ((S : Int) - (x : Int))) = -(y : Int) - ((S : Int) - -(x : Int)) by omega] at this; exact this
  obtain ⟨k1, k2⟩ := key
  obtain ⟨d1, d2⟩ := SV_near (belowB (addZ a b) && !belowB a) k1
  rw [← subZ_finite ha hs fa] at d1 d2
  have du : U64 (subZ (addZ a b) a) := addZ_u64 hsu (negZ_u64 ha)
  rw [← d1] at k2
  obtain ⟨e1, e2⟩ := SV_near (belowB b && !belowB (subZ (addZ a b) a)) k2
  rw [← subZ_finite du fb d2] at e1 e2
  refine ⟨e2, ?_⟩
  rw [e1, d1]
  omega

end Go.Proofs.YthmocdabakkfhaaGreatDoor

/-
  Layer 4: the whole numbers about a number: plain mathematics.
-/
namespace Go.Proofs.YthmocdabakkfhaaGreatDoor
set_option maxRecDepth 100000
open Go.RowKit Flo

/-- Units in 1. -/
def UN : Nat := 2 ^ OP
theorem UN_pos : 0 < UN := Nat.two_pow_pos _
theorem UN_eq : UN = 2 ^ OP := rfl

/-- Whether the whole number farther from 0 is taken; how: 0 toward 0, 1 down, 2 up, 3 the nearest. -/
def farB (u how : Nat) (neg : Bool) (V : Nat) : Bool := match how with
  | 1 => decide (V % u ≠ 0) && neg
  | 2 => decide (V % u ≠ 0) && !neg
  | 3 => decide (V % u ≠ 0) && (decide (0 < cmpZ (2 * (V % u)) u) || (cmpZ (2 * (V % u)) u == 0 && V / u % 2 == 1))
  | _ => false
def wcut (u how : Nat) (neg : Bool) (V : Nat) : Nat := V / u + (farB u how neg V).toNat

theorem far_exact {u how V : Nat} (neg : Bool) (h : V % u = 0) : farB u how neg V = false := by
  unfold farB; rw [h]; split <;> simp
theorem wcut_exact {u how V : Nat} (neg : Bool) (h : V % u = 0) : wcut u how neg V = V / u := by
  unfold wcut; rw [far_exact neg h]; rfl
theorem far_three {u V : Nat} (hu : 0 < u) (neg : Bool) : farB u 3 neg V = decide (u < 2 * (V % u) ∨ (u = 2 * (V % u) ∧ V / u % 2 = 1)) := by
  show (decide (V % u ≠ 0) && (decide (0 < cmpZ (2 * (V % u)) u) || (cmpZ (2 * (V % u)) u == 0 && V / u % 2 == 1))) = _
  generalize V % u = r
  generalize V / u % 2 = p
  unfold cmpZ
  by_cases c1 : 2 * r < u
  · rw [if_pos c1, decide_eq_false (p := u < 2 * r ∨ _) (by omega)]; simp
  · rw [if_neg c1]
    by_cases c2 : 2 * r = u
    · rw [if_pos c2]
      by_cases c3 : p = 1
      · rw [decide_eq_true (p := u < 2 * r ∨ _) (by omega), decide_eq_true (p := r ≠ 0) (by omega), c3]; decide
      · rw [decide_eq_false (p := u < 2 * r ∨ _) (by omega), beq_false_of_ne c3]; simp
    · rw [if_neg c2, decide_eq_true (p := u < 2 * r ∨ _) (by omega), decide_eq_true (p := r ≠ 0) (by omega)]; simp
theorem far_mono {u how V W : Nat} (neg : Bool) (hu : 0 < u) (hq : V / u = W / u) (hr : V % u ≤ W % u) (h : farB u how neg V = true) : farB u how neg W = true := by
  match how with
  | 0 => exact h
  | 1 =>
    have h' : (decide (V % u ≠ 0) && neg) = true := h
    show (decide (W % u ≠ 0) && neg) = true
    simp only [Bool.and_eq_true, decide_eq_true_eq] at h' ⊢
    exact ⟨by omega, h'.2⟩
  | 2 =>
    have h' : (decide (V % u ≠ 0) && !neg) = true := h
    show (decide (W % u ≠ 0) && !neg) = true
    simp only [Bool.and_eq_true, decide_eq_true_eq] at h' ⊢
    exact ⟨by omega, h'.2⟩
  | 3 =>
    rw [far_three hu] at h ⊢
    have h' := of_decide_eq_true h
    rw [← hq]
    apply decide_eq_true
    omega
  | _ + 4 => exact h
theorem wcut_mono {u how V W : Nat} (neg : Bool) (hu : 0 < u) (h : V ≤ W) : wcut u how neg V ≤ wcut u how neg W := by
  unfold wcut
  have hq : V / u ≤ W / u := Nat.div_le_div_right h
  have b1 : (farB u how neg V).toNat ≤ 1 := Bool.toNat_le _
  rcases Nat.lt_or_eq_of_le hq with c | c
  · omega
  · have hr : V % u ≤ W % u := by
      have e1 := Nat.div_add_mod V u
      have e2 := Nat.div_add_mod W u
      rw [c] at e1
      omega
    cases hf : farB u how neg V
    · rw [c]; simp
    · rw [far_mono neg hu c hr hf, c]; exact Nat.le_refl _
theorem wcut_le (u how : Nat) (neg : Bool) (V : Nat) : wcut u how neg V ≤ V / u + 1 := by
  unfold wcut
  have b1 : (farB u how neg V).toNat ≤ 1 := Bool.toNat_le _
  omega

theorem wcut_rep {r how : Nat} (neg : Bool) (h : r < 9218868437227405312) : Rep (wcut UN how neg (M r) * UN) := by
  by_cases c : M r % UN = 0
  · rw [wcut_exact neg c]
    have := Nat.div_add_mod (M r) UN
    rw [c, Nat.add_zero, Nat.mul_comm] at this
    rw [this]
    exact ⟨r, h, rfl⟩
  · obtain ⟨e, q, _⟩ := M_parts r
    have hl : pl r < OP := by
      apply Classical.byContradiction; intro k
      apply c
      rw [e, UN_eq, pow_split (show OP ≤ pl r by omega), ← Nat.mul_assoc]
      exact Nat.mul_mod_left _ _
    have hd : M r / UN < 4503599627370496 := by
      rw [e, UN_eq, pow_split (show pl r ≤ OP by omega), Nat.mul_div_mul_right _ _ (Nat.two_pow_pos _)]
      have h2 : 2 ^ 1 ≤ 2 ^ (OP - pl r) := Nat.pow_le_pow_right (by decide) (by omega)
      exact Nat.lt_of_le_of_lt (Nat.div_le_div_left h2 (by decide)) (by omega)
    have hw := wcut_le UN how neg (M r)
    have h3 : wcut UN how neg (M r) ≤ 2 ^ 53 := by omega
    have h4 : wcut UN how neg (M r) * 2 ^ OP < 2 ^ TP := by
      have h5 : (2 : Nat) ^ 53 * 2 ^ OP < 2 ^ TP := by
        rw [← Nat.pow_add]
        exact Nat.pow_lt_pow_right (by decide) (by rw [OP_eq, TP_eq]; decide)
      exact Nat.lt_of_le_of_lt (Nat.mul_le_mul_right _ h3) h5
    exact rep_of (by omega) h4

def wholeZ (how : Nat) (a : Int) : Int := if nanB a then 9221120237041090560 else if infB a then a else sgn (belowB a) + (rung 0 (wcut UN how (belowB a) (MZ a) * UN) : Nat)

theorem wholeZ_nan {how : Nat} {a : Int} (h : nanB a = true) : wholeZ how a = 9221120237041090560 := by unfold wholeZ; rw [if_pos h]
theorem wholeZ_inf {how : Nat} {a : Int} (h : infB a = true) : wholeZ how a = a := by
  have hn : nanB a = false := inf_nan (of_decide_eq_true h)
  unfold wholeZ; rw [hn, h]; simp only [Bool.false_eq_true, if_false, if_true]
theorem wholeZ_fin {how : Nat} {a : Int} (h : mag a < 9218868437227405312) : wholeZ how a = sgn (belowB a) + (rung 0 (wcut UN how (belowB a) (MZ a) * UN) : Nat) := by
  unfold wholeZ; rw [fin_nan h, fin_inf h]
  generalize rung 0 (wcut UN how (belowB a) (MZ a) * UN) = R
  simp only [Bool.false_eq_true, if_false]
theorem wholeZ_u64 {how : Nat} {a : Int} (ha : U64 a) : U64 (wholeZ how a) := by
  unfold wholeZ
  have hr := rung_le 0 (wcut UN how (belowB a) (MZ a) * UN)
  generalize rung 0 (wcut UN how (belowB a) (MZ a) * UN) = R at *
  split
  · exact ⟨by decide, by decide⟩
  · split
    · exact ha
    · unfold U64 sgn; cases belowB a <;> simp <;> omega

/-- A word with a sign and a rung that is a number. -/
theorem word_parts (s : Bool) {v : Nat} (h : Rep v) : mag (sgn s + (rung 0 v : Nat)) < 9218868437227405312 ∧ belowB (sgn s + (rung 0 v : Nat)) = s ∧ MZ (sgn s + (rung 0 v : Nat)) = v ∧ SV (sgn s + (rung 0 v : Nat)) = sz s v := by
  obtain ⟨h1, h2⟩ := h.rung
  obtain ⟨w1, w2, w3⟩ := SV_word (s := s) (r := rung 0 v) (by omega)
  refine ⟨by rw [w2]; omega, w3, ?_, by rw [w1, h2]⟩
  unfold MZ
  rw [w2, Int.toNat_natCast, h2]

theorem mag_nat {a : Int} (ha : U64 a) (h : mag a < 9218868437227405312) : (mag a).toNat < 9218868437227405312 := by have := (mag_range ha).1; omega
theorem wh_rep {how : Nat} {a : Int} (neg : Bool) (ha : U64 a) (h : mag a < 9218868437227405312) : Rep (wcut UN how neg (MZ a) * UN) := wcut_rep neg (mag_nat ha h)
theorem wh_parts {how : Nat} {a : Int} (ha : U64 a) (h : mag a < 9218868437227405312) : mag (wholeZ how a) < 9218868437227405312 ∧ belowB (wholeZ how a) = belowB a ∧ MZ (wholeZ how a) = wcut UN how (belowB a) (MZ a) * UN ∧ SV (wholeZ how a) = sz (belowB a) (wcut UN how (belowB a) (MZ a) * UN) := by
  rw [wholeZ_fin h]
  exact word_parts _ (wh_rep _ ha h)

/-- A whole number stays what it is. -/
theorem whole_stays {how : Nat} {a : Int} (ha : U64 a) (h : mag a < 9218868437227405312) (hw : MZ a % UN = 0) : wholeZ how a = a := by
  rw [wholeZ_fin h, wcut_exact _ hw]
  have e : MZ a / UN * UN = MZ a := by
    have := Nat.div_add_mod (MZ a) UN
    rw [hw, Nat.add_zero, Nat.mul_comm] at this
    exact this
  rw [e, rung_MZ ha (by omega)]
  exact (word_again ha).symm
theorem whole_twice {how how' : Nat} {a : Int} (ha : U64 a) : wholeZ how' (wholeZ how a) = wholeZ how a := by
  rcases kindsZ a with k | k | k
  · obtain ⟨p1, p2, p3, p4⟩ := wh_parts (how := how) ha k
    exact whole_stays (wholeZ_u64 ha) p1 (by rw [p3]; exact Nat.mul_mod_left _ _)
  · rw [wholeZ_inf (inf_inf k), wholeZ_inf (inf_inf k)]
  · rw [wholeZ_nan (nan_nan k)]
    exact wholeZ_nan (by decide)

/-- Whether a number is whole. -/
def isZ (a : Int) : Bool := decide (mag a < 9218868437227405312) && decide (MZ a % UN = 0)
theorem is_whole {how : Nat} {a : Int} (ha : U64 a) : isZ (wholeZ how a) = decide (mag (wholeZ how a) < 9218868437227405312) := by
  unfold isZ
  rcases kindsZ a with k | k | k
  · obtain ⟨p1, p2, p3, p4⟩ := wh_parts (how := how) ha k
    rw [p3, decide_eq_true p1, decide_eq_true (Nat.mul_mod_left _ _)]; rfl
  · rw [wholeZ_inf (inf_inf k), decide_eq_false (by omega)]; rfl
  · rw [wholeZ_nan (nan_nan k), decide_eq_false (by decide)]; rfl

end Go.Proofs.YthmocdabakkfhaaGreatDoor

/-
  The reference's halves: the whole part of a number, whether there is a rest, how it stands to a half.
-/
namespace Go.Proofs.YthmocdabakkfhaaGreatDoor
set_option maxRecDepth 100000
open Go.RowKit Dg Flo

theorem cmp_scale {n m c : Nat} (hc : 0 < c) : cmpZ (n * c) (m * c) = cmpZ n m := by
  unfold cmpZ
  by_cases h1 : n < m
  · rw [if_pos h1, if_pos (Nat.mul_lt_mul_of_pos_right h1 hc)]
  · rw [if_neg h1, if_neg (by have := Nat.mul_le_mul_right c (Nat.le_of_not_lt h1); omega)]
    by_cases h2 : n = m
    · rw [h2]; simp
    · rw [if_neg h2, if_neg (by intro h; exact h2 (Nat.mul_right_cancel hc h))]

theorem down_nat (v : Value) (n l k W : Nat) (K : Int) (lost : Bool) (w : World) (hK : K = (k : Int)) (hW : n / 2 ^ k = W) (hl' : decide (n % 2 ^ k ≠ 0) = lost) (hD : D w v n l) (hl : l ≤ 268435456) (hk : k ≤ 1073741824) :
    Calls Tryz.prog 84 #[v, .int .i64 K] w fun e w' => ∃ v', e = .returned (.tuple #[v', .bool lost]) ∧ D w' v' W (dlen W) ∧ Below w.heap.size w w' := by
  rw [hK, ← hW, ← hl']; exact down_any v n l k w hD hl hk

end Go.Proofs.YthmocdabakkfhaaGreatDoor

/-
  The reference's Is, round, Trunc, Floor, Ceil, Near.
-/
namespace Go.Proofs.YthmocdabakkfhaaGreatDoor
set_option maxRecDepth 100000
open Go.RowKit Dg Flo

theorem div_small {a : Int} (ha : U64 a) (h : mag a < 9218868437227405312) : MZ a / UN < 2 ^ (TP - OP) := by
  have h1 : MZ a < 2 ^ TP := M_lt (mag_nat ha h)
  have h2 : OP ≤ TP := by rw [OP_eq, TP_eq]; decide
  rw [Nat.div_lt_iff_lt_mul UN_pos, UN_eq, ← Nat.pow_add, Nat.sub_add_cancel h2]
  exact h1
theorem dlen_whole {a : Int} (ha : U64 a) (h : mag a < 9218868437227405312) : dlen (MZ a / UN) ≤ 1001 := dlen_pow (div_small ha h) (by rw [OP_eq, TP_eq]; decide)
theorem dlen_whole1 {a : Int} (ha : U64 a) (h : mag a < 9218868437227405312) : dlen (MZ a / UN + 1) ≤ 1048576 := by
  have h1 := div_small ha h
  have h2 : MZ a / UN + 1 < 2 ^ (TP - OP + 1) := by
    rw [Nat.pow_succ]
    have := Nat.two_pow_pos (TP - OP)
    omega
  exact Nat.le_trans (dlen_pow h2 (k := 1001) (by rw [OP_eq, TP_eq]; decide)) (by decide)
theorem round_un (v : Value) (N l : Nat) (neg : Bool) (w : World) (hD : D w v N l) (hl : l ≤ 1048576) :
    Calls Tryz.prog 70 #[.bool neg, .int .i64 0, v, .bool false] w fun e w' => e = .returned (.int .u64 (sgn neg + (rung 0 (N * UN) : Nat))) ∧ Below w.heap.size w w' := by
  have h := round_one v N l 0 neg w hD hl (by decide) (by decide)
  have e : N * 2 ^ ((0 : Int) + 1074).toNat = N * UN := by
    have ex : ((0 : Int) + 1074).toNat = OP := rfl
    rw [ex, UN_eq]
  rw [e] at h
  exact h
theorem bit_zero (v : Value) (N l : Nat) (w : World) (hD : D w v N l) : Calls Tryz.prog 90 #[v, .int .i64 0] w fun e w' => e = .returned (.int .u64 ((N % 2 : Nat) : Int)) ∧ w' = w := by
  have h := bit_any v N l 0 w hD (by decide) (by decide)
  rw [show (0 : Int).toNat = 0 from rfl, Nat.pow_zero, Nat.div_one] at h
  exact h

end Go.Proofs.YthmocdabakkfhaaGreatDoor
