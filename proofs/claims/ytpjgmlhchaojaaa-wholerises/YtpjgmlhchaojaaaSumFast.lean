/-
  Plain mathematics: what a sum lacks is a number, and so is what the sum is more than the greater one.
-/
import Derived.Test.YtpjgmlhchaojaaaSumRep
namespace Go.Proofs.Ytpjgmlhchaojaaa.Flo
open Go.Proofs.Ytpjgmlhchaojaaa

def RepI (z : Int) : Prop := Rep z.natAbs
theorem RepI.neg {z : Int} (h : RepI z) : RepI (-z) := by unfold RepI; rw [Int.natAbs_neg]; exact h
theorem repI_mul {c : Int} {d : Nat} (h : c.natAbs ≤ 9007199254740992) (hv : (c * ((2 ^ d : Nat) : Int)).natAbs < 2 ^ TP) : RepI (c * ((2 ^ d : Nat) : Int)) := by
  unfold RepI
  rw [natAbs_scale] at hv ⊢
  exact rep_of h hv
theorem repI_M {r : Nat} (h : r < 9218868437227405312) : RepI (M r) := ⟨r, h, by simp⟩
theorem repI_sz {s : Bool} {r : Nat} (h : r < 9218868437227405312) : RepI (sz s (M r)) := by
  unfold sz; cases s
  · exact repI_M h
  · exact (repI_M h).neg

theorem pow_split {a b : Nat} (h : a ≤ b) : 2 ^ b = 2 ^ (b - a) * 2 ^ a := by rw [← Nat.pow_add]; congr 1; omega

/-- A multiple of P that is not greater than 2^53 times it. -/
theorem small_mul {c P : Int} (hP : 0 < P) (h : (c * P).natAbs ≤ 9007199254740992 * P.natAbs) : c.natAbs ≤ 9007199254740992 := by
  rw [Int.natAbs_mul] at h
  exact Nat.le_of_mul_le_mul_right h (by omega)

theorem fast2sum (r u : Nat) (hr : r < 9218868437227405312) (hu : u ≤ r) (neg : Bool) (V : Nat) (hV : (V : Int) = (M r : Int) + sz neg (M u)) (hfin : rung 0 V < 9218868437227405312) :
    RepI ((M (rung 0 V) : Int) - (M r : Int)) ∧ RepI (sz neg (M u) - ((M (rung 0 V) : Int) - (M r : Int))) := by
  have hS := M_rung hfin
  have hSt := M_lt hfin
  have hxt := M_lt hr
  obtain ⟨x1, x2, x3⟩ := M_parts r
  obtain ⟨y1, y2, y3⟩ := M_parts u
  have hjk := pl_mono hu
  obtain ⟨a1, a2, a3⟩ := lowest_spec 0 V
  obtain ⟨e, g1, g2, g3⟩ := rne_near V (lowest 0 V)
  have hBr : RepI (sz neg (M u)) := repI_sz (Nat.lt_of_le_of_lt hu hr)
  have hyx : M u ≤ M r := by
    rcases Nat.lt_or_ge (M r) (M u) with k | k
    · have := M_lt_iff.1 k; omega
    · exact k
  have hBx : (sz neg (M u)).natAbs = M u := by unfold sz; cases neg <;> simp
  obtain ⟨bq, hbq⟩ : ∃ c : Int, sz neg (M u) = c * ((2 ^ pl u : Nat) : Int) ∧ c.natAbs = pq u := by
    refine ⟨sz neg (pq u), ?_, by unfold sz; cases neg <;> simp⟩
    rw [y1]; unfold sz
    cases neg
    · simp
    · simp only [if_true]; push_cast; rw [Int.neg_mul]
  rw [hS] at hSt ⊢
  clear hS hfin
  generalize lowest 0 V = d at *
  generalize rne V d = q at *
  have hxI : (M r : Int) = (pq r : Int) * ((2 ^ pl r : Nat) : Int) := by rw [x1]; push_cast; rfl
  have hyI : M u < 9007199254740992 * 2 ^ pl u := by rw [y1]; exact Nat.mul_lt_mul_of_pos_right y2 (Nat.two_pow_pos _)
  have hxI2 : M r ≤ 9007199254740991 * 2 ^ pl r := by rw [x1]; exact Nat.mul_le_mul_right _ (by omega)
  generalize hB : sz neg (M u) = B at *
  generalize M r = x at *
  generalize M u = y at *
  generalize pq r = n at *
  generalize pl r = k at *
  generalize pl u = j at *
  have hSI : ((q * 2 ^ d : Nat) : Int) = (q : Int) * ((2 ^ d : Nat) : Int) := by push_cast; rfl
  rw [hSI]
  have hSt2 : ((q : Int) * ((2 ^ d : Nat) : Int)) < ((2 ^ TP : Nat) : Int) := by rw [← hSI]; omega
  have hSn : 0 ≤ ((q : Int) * ((2 ^ d : Nat) : Int)) := by rw [← hSI]; omega
  have pd := Nat.two_pow_pos d
  have pj := Nat.two_pow_pos j
  have pk := Nat.two_pow_pos k
  clear hSI hSt a1 x1 y1 hB
  rcases Nat.lt_or_ge j d with c1 | c1
  · -- something may fall out
    have hV52 := a3 (by omega)
    rcases Nat.lt_or_ge k d with c2 | c2
    · have hd : d = k + 1 := by
        rcases Nat.lt_or_ge (k + 1) d with c3 | c3
        · exfalso
          have h1 : 2 ^ (k + 54) ≤ 2 ^ (d + 52) := Nat.pow_le_pow_right (by decide) (by omega)
          have h2 : 2 ^ (k + 54) = 18014398509481984 * 2 ^ k := by rw [Nat.add_comm, Nat.pow_add]
          omega
        · omega
      subst hd
      have h2 : 2 ^ (k + 1 + 52) = 9007199254740992 * 2 ^ k := by rw [show k + 1 + 52 = 53 + k by omega, Nat.pow_add]
      have h3 : 2 ^ (k + 1) = 2 * 2 ^ k := Nat.pow_succ'
      have q1 : (q : Int) * ((2 ^ (k + 1) : Nat) : Int) = (2 * (q : Int)) * ((2 ^ k : Nat) : Int) := by rw [h3]; push_cast; grind
      have hjk2 : 2 ^ k = 2 ^ (k - j) * 2 ^ j := pow_split hjk
      have f1 : (q : Int) * ((2 ^ (k + 1) : Nat) : Int) - (x : Int) = (2 * (q : Int) - (n : Int)) * ((2 ^ k : Nat) : Int) := by rw [q1, hxI, Int.sub_mul]
      have f2 : B - ((q : Int) * ((2 ^ (k + 1) : Nat) : Int) - (x : Int)) = (bq - (2 * (q : Int) - (n : Int)) * ((2 ^ (k - j) : Nat) : Int)) * ((2 ^ j : Nat) : Int) := by
        rw [f1, hbq.1, hjk2, Int.sub_mul]; push_cast; grind
      constructor
      · have bd : ((q : Int) * ((2 ^ (k + 1) : Nat) : Int) - (x : Int)).natAbs ≤ 9007199254740992 * ((2 ^ k : Nat) : Int).natAbs := by
          simp only [Int.natAbs_natCast]
          omega
        have bt : ((q : Int) * ((2 ^ (k + 1) : Nat) : Int) - (x : Int)).natAbs < 2 ^ TP := by omega
        rw [f1] at bd bt ⊢
        exact repI_mul (small_mul (by omega) bd) bt
      · have bd : (B - ((q : Int) * ((2 ^ (k + 1) : Nat) : Int) - (x : Int))).natAbs ≤ y := by omega
        have bd2 : (B - ((q : Int) * ((2 ^ (k + 1) : Nat) : Int) - (x : Int))).natAbs ≤ 9007199254740992 * ((2 ^ j : Nat) : Int).natAbs := by
          simp only [Int.natAbs_natCast]
          omega
        have bt : (B - ((q : Int) * ((2 ^ (k + 1) : Nat) : Int) - (x : Int))).natAbs < 2 ^ TP := by omega
        rw [f2] at bd2 bt ⊢
        exact repI_mul (small_mul (by omega) bd2) bt
    · have hkd : 2 ^ k = 2 ^ (k - d) * 2 ^ d := pow_split c2
      have hdj : 2 ^ d = 2 ^ (d - j) * 2 ^ j := pow_split (by omega)
      have hx2 : (x : Int) = ((n : Int) * ((2 ^ (k - d) : Nat) : Int)) * ((2 ^ d : Nat) : Int) := by rw [hxI, hkd]; push_cast; grind
      have f1 : (q : Int) * ((2 ^ d : Nat) : Int) - (x : Int) = ((q : Int) - (n : Int) * ((2 ^ (k - d) : Nat) : Int)) * ((2 ^ d : Nat) : Int) := by rw [Int.sub_mul, ← hx2]
      have f2 : B - ((q : Int) * ((2 ^ d : Nat) : Int) - (x : Int)) = (bq - ((q : Int) - (n : Int) * ((2 ^ (k - d) : Nat) : Int)) * ((2 ^ (d - j) : Nat) : Int)) * ((2 ^ j : Nat) : Int) := by
        rw [f1, hbq.1]; rw [Int.sub_mul bq]
        congr 1
        rw [hdj]; push_cast; grind
      have nl := near_least (c := (n : Int) * ((2 ^ (k - d) : Nat) : Int)) (by omega) g1 g2 g3
      rw [← hx2] at nl
      have hd2 : 2 * 2 ^ j ≤ 2 ^ d := by rw [← Nat.pow_succ']; exact Nat.pow_le_pow_right (by decide) c1
      constructor
      · have bd : ((q : Int) * ((2 ^ d : Nat) : Int) - (x : Int)).natAbs ≤ 9007199254740992 * ((2 ^ d : Nat) : Int).natAbs := by
          simp only [Int.natAbs_natCast]
          omega
        have bt : ((q : Int) * ((2 ^ d : Nat) : Int) - (x : Int)).natAbs < 2 ^ TP := by omega
        rw [f1] at bd bt ⊢
        exact repI_mul (small_mul (by omega) bd) bt
      · have bd : (B - ((q : Int) * ((2 ^ d : Nat) : Int) - (x : Int))).natAbs ≤ y := by omega
        have bd2 : (B - ((q : Int) * ((2 ^ d : Nat) : Int) - (x : Int))).natAbs ≤ 9007199254740992 * ((2 ^ j : Nat) : Int).natAbs := by
          simp only [Int.natAbs_natCast]
          omega
        have bt : (B - ((q : Int) * ((2 ^ d : Nat) : Int) - (x : Int))).natAbs < 2 ^ TP := by omega
        rw [f2] at bd2 bt ⊢
        exact repI_mul (small_mul (by omega) bd2) bt
  · -- nothing falls out
    have hkd : 2 ^ k = 2 ^ (k - d) * 2 ^ d := pow_split (by omega)
    have hjd : 2 ^ j = 2 ^ (j - d) * 2 ^ d := pow_split c1
    have hx2 : (x : Int) = ((n : Int) * ((2 ^ (k - d) : Nat) : Int)) * ((2 ^ d : Nat) : Int) := by rw [hxI, hkd]; push_cast; grind
    have hB2 : B = (bq * ((2 ^ (j - d) : Nat) : Int)) * ((2 ^ d : Nat) : Int) := by rw [hbq.1, hjd]; push_cast; grind
    have nl := near_least (c := (n : Int) * ((2 ^ (k - d) : Nat) : Int) + bq * ((2 ^ (j - d) : Nat) : Int)) (by omega) g1 g2 g3
    rw [Int.add_mul, ← hx2, ← hB2] at nl
    have he : e = 0 := by omega
    have hSx : (q : Int) * ((2 ^ d : Nat) : Int) - (x : Int) = B := by omega
    rw [hSx]
    refine ⟨hBr, ?_⟩
    rw [Int.sub_self]
    exact rep_zero

theorem SV_word {s : Bool} {r : Nat} (h : r ≤ 9218868437227405312) : SV (sgn s + (r : Int)) = sz s (M r) ∧ mag (sgn s + (r : Int)) = (r : Int) ∧ belowB (sgn s + (r : Int)) = s := by
  have h1 : mag (sgn s + (r : Int)) = (r : Int) := by
    unfold mag sgn; cases s
    · simp only [Bool.false_eq_true, if_false]; rw [if_neg (by omega)]; omega
    · simp only [if_true]; rw [if_pos (by omega)]; omega
  have h2 : belowB (sgn s + (r : Int)) = s := by
    unfold belowB sgn; cases s
    · simp only [Bool.false_eq_true, if_false]; exact decide_eq_false (by omega)
    · simp only [if_true]; exact decide_eq_true (by omega)
  refine ⟨?_, h1, h2⟩
  unfold SV MZ
  rw [h1, h2, Int.toNat_natCast]
theorem sz_self (T : Int) : sz (decide (T < 0)) T.natAbs = T := by
  unfold sz
  by_cases h : T < 0
  · rw [decide_eq_true h, if_pos rfl]; omega
  · rw [decide_eq_false h]; simp; omega
theorem sz_nought (s : Bool) : sz s 0 = 0 := by unfold sz; cases s <;> simp
/-- What is made of a sum that is a number. -/
theorem SV_near (z : Bool) {T : Int} (h : RepI T) : SV (nearZ z T) = T ∧ mag (nearZ z T) < 9218868437227405312 := by
  obtain ⟨h1, h2⟩ := Rep.rung h
  unfold nearZ
  by_cases c : T = 0
  · rw [if_pos c]
    obtain ⟨w1, w2, w3⟩ := SV_word (s := z) (r := 0) (by omega)
    rw [show sgn z + ((0 : Nat) : Int) = sgn z by omega, M_zero] at w1
    rw [show sgn z + ((0 : Nat) : Int) = sgn z by omega] at w2
    rw [w1, w2, sz_nought, c]
    exact ⟨rfl, by decide⟩
  · rw [if_neg c]
    obtain ⟨w1, w2, w3⟩ := SV_word (s := decide (T < 0)) (r := rung 0 T.natAbs) (by omega)
    rw [w1, w2, h2, sz_self]
    exact ⟨rfl, by omega⟩
/-- What is made of any sum. -/
theorem SV_near2 (z : Bool) (T : Int) : SV (nearZ z T) = sz (decide (T < 0)) (M (rung 0 T.natAbs)) ∧ mag (nearZ z T) = (rung 0 T.natAbs : Nat) := by
  unfold nearZ
  by_cases c : T = 0
  · subst c
    rw [if_pos rfl]
    obtain ⟨w1, w2, w3⟩ := SV_word (s := z) (r := 0) (by omega)
    rw [show sgn z + ((0 : Nat) : Int) = sgn z by omega, M_zero] at w1
    rw [show sgn z + ((0 : Nat) : Int) = sgn z by omega] at w2
    rw [w1, w2, sz_nought, Int.natAbs_zero, rung_tiny (by simp), M_zero, sz_nought]
    exact ⟨rfl, rfl⟩
  · rw [if_neg c]
    obtain ⟨w1, w2, w3⟩ := SV_word (s := decide (T < 0)) (r := rung 0 T.natAbs) (rung_le _ _)
    exact ⟨w1, w2⟩

end Go.Proofs.Ytpjgmlhchaojaaa.Flo
