/-
  Plain mathematics: what the reference's Round reckons is the nearest rung.
-/
import Derived.Test.YteihehpgegkcpaaFloRung
import Derived.Test.YteihehpgegkcpaaDigUp
namespace Go.Proofs.Yteihehpgegkcpaa
open Go.RowKit Dg Flo

/-- Two bits below the last one that counts, and whether anything is below these. -/
def rX (N : Nat) (drop : Int) : Nat := if 2 ≤ drop then N / 2 ^ (drop - 2).toNat else N * 2 ^ (2 - drop).toNat
def rLost (N : Nat) (drop : Int) (more : Bool) : Bool := if 2 ≤ drop then more || decide (N % 2 ^ (drop - 2).toNat ≠ 0) else more
def rUp (X : Nat) (lost : Bool) : Bool := decide (2 < X % 4 ∨ (X % 4 = 2 ∧ (lost = true ∨ X / 4 % 2 = 1)))
def rQ (X : Nat) (lost : Bool) : Nat := X / 4 + (rUp X lost).toNat

theorem ite_iff {A B : Prop} [Decidable A] [Decidable B] (h : A ↔ B) : (decide A).toNat = if B then 1 else 0 := by
  by_cases c : A
  · rw [decide_eq_true c, if_pos (h.1 c)]; rfl
  · rw [decide_eq_false c, if_neg (fun k => c (h.2 k))]; rfl

theorem rQ_down {N k : Nat} {more : Bool} : rQ (N / 2 ^ k) (more || decide (N % 2 ^ k ≠ 0)) = rne (2 * N + more.toNat) (k + 3) := by
  have hp : 0 < 2 ^ k := Nat.two_pow_pos k
  have hdm := Nat.div_add_mod N (2 ^ k)
  have hlt : N % 2 ^ k < 2 ^ k := Nat.mod_lt _ hp
  have e8 : 2 ^ (k + 3) = 8 * 2 ^ k := by rw [Nat.pow_add]; omega
  have hm : more.toNat ≤ 1 := by cases more <;> simp
  have hm1 : more.toNat = 0 ↔ more = false := by cases more <;> simp
  unfold rQ rUp rne
  rw [e8]
  generalize N / 2 ^ k = X at *
  generalize N % 2 ^ k = R at *
  generalize 2 ^ k = P at *
  have hM : 2 * N + more.toNat = 8 * P * (X / 4) + (2 * P * (X % 4) + (2 * R + more.toNat)) := by
    have hx := Nat.div_add_mod X 4
    have : P * X = 4 * P * (X / 4) + P * (X % 4) := by
      calc P * X = P * (4 * (X / 4) + X % 4) := by rw [hx]
        _ = _ := by rw [Nat.mul_add]; grind
    grind
  have hs : 2 * P * (X % 4) + (2 * R + more.toNat) < 8 * P := by
    have h3 : X % 4 ≤ 3 := by omega
    have : 2 * P * (X % 4) ≤ 2 * P * 3 := Nat.mul_le_mul_left _ h3
    omega
  have q1 : (2 * N + more.toNat) / (8 * P) = X / 4 := by
    rw [hM, Nat.mul_add_div (by omega), Nat.div_eq_of_lt hs, Nat.add_zero]
  have q2 : (2 * N + more.toNat) % (8 * P) = 2 * P * (X % 4) + (2 * R + more.toNat) := by
    rw [hM, Nat.mul_add_mod, Nat.mod_eq_of_lt hs]
  rw [q1, q2]
  congr 1
  have hlost : (more || decide (R ≠ 0)) = true ↔ 0 < 2 * R + more.toNat := by
    cases more <;> simp <;> omega
  refine ite_iff ?_
  rw [hlost]
  have h4 : X % 4 = 0 ∨ X % 4 = 1 ∨ X % 4 = 2 ∨ X % 4 = 3 := by omega
  have hs2 : 2 * R + more.toNat < 2 * P := by omega
  generalize X / 4 % 2 = odd
  generalize 2 * R + more.toNat = s at *
  clear hM q1 q2 hdm e8
  rcases h4 with h | h | h | h <;> rw [h] <;> omega

theorem rQ_one {N : Nat} {more : Bool} : rQ (N * 2) more = rne (2 * N + more.toNat) 2 := by
  unfold rQ rUp rne
  have hm : more.toNat ≤ 1 := by cases more <;> simp
  have hm1 : more = true ↔ more.toNat = 1 := by cases more <;> simp
  have q1 : (2 * N + more.toNat) / 2 ^ 2 = N * 2 / 4 := by omega
  have q2 : (2 * N + more.toNat) % 2 ^ 2 = N * 2 % 4 + more.toNat := by omega
  rw [q1, q2]
  congr 1
  refine ite_iff ?_
  rw [hm1]
  have : N * 2 % 4 = 0 ∨ N * 2 % 4 = 2 := by omega
  rcases this with h | h <;> rw [h] <;> omega
theorem rQ_up {N k : Nat} : rQ (N * 2 ^ (k + 2)) false = N * 2 ^ k := by
  have e : N * 2 ^ (k + 2) = 4 * (N * 2 ^ k) := by rw [Nat.pow_add]; grind
  unfold rQ rUp
  rw [e]
  have h1 : 4 * (N * 2 ^ k) % 4 = 0 := by omega
  have h2 : 4 * (N * 2 ^ k) / 4 = N * 2 ^ k := by omega
  rw [h1, h2]
  simp

/-- What the reference's Round comes to: the rung of the number, or a little more. -/
theorem round_rung (N n g : Nat) (exp drop : Int) (more : Bool) (h1 : 2 ^ n ≤ 2 * N) (h2 : 2 * N < 2 ^ (n + 1)) (hd : drop = max ((n : Int) - 53) (-1074 - exp)) (hg : 0 ≤ exp + 1073 + g) (hmore : more = true → 54 ≤ n) :
    rung g ((2 * N + more.toNat) * 2 ^ (exp + 1073 + g).toNat) = min ((exp + drop + 1074).toNat * 4503599627370496 + rQ (rX N drop) (rLost N drop more)) 9218868437227405312 ∧
      rQ (rX N drop) (rLost N drop more) ≤ 9007199254740992 ∧ (-1074 < exp + drop → 4503599627370496 ≤ rQ (rX N drop) (rLost N drop more)) ∧ rX N drop < 36028797018963968 := by
  have hm : more.toNat ≤ 1 := by cases more <;> simp
  have b1 : 2 ^ n ≤ 2 * N + more.toNat := by omega
  have b2 : 2 * N + more.toNat < 2 ^ (n + 1) := by
    have : 2 ^ (n + 1) = 2 * 2 ^ n := Nat.pow_succ'
    omega
  obtain ⟨E, hE⟩ := Int.eq_ofNat_of_zero_le hg
  rw [hE, Int.toNat_natCast]
  have hlow : lowest g ((2 * N + more.toNat) * 2 ^ E) = (exp + drop + 1074 + g).toNat := by
    by_cases c : -1074 - exp ≤ (n : Int) - 53
    · rw [low_b b1 b2 (by omega)]; omega
    · rw [low_a b2 (by omega)]; omega
  have hq : rQ (rX N drop) (rLost N drop more) = rne ((2 * N + more.toNat) * 2 ^ E) (exp + drop + 1074 + g).toNat := by
    unfold rX rLost
    by_cases c : 2 ≤ drop
    · rw [if_pos c, if_pos c, rne_down (by omega), show (exp + drop + 1074 + (g : Int)).toNat - E = (drop - 2).toNat + 3 by omega, rQ_down]
    · rw [if_neg c, if_neg c]
      by_cases c1 : drop = 1
      · rw [show (2 - drop).toNat = 1 by omega, Nat.pow_one, rQ_one, rne_down (by omega), show (exp + drop + 1074 + (g : Int)).toNat - E = 2 by omega]
      · have hf : more = false := by
          cases more
          · rfl
          · have := hmore rfl; omega
        rw [hf]
        rw [show (2 - drop).toNat = (-drop).toNat + 2 by omega, rQ_up, Bool.toNat_false, Nat.add_zero]
        by_cases c2 : drop = 0
        · rw [rne_down (by omega), show (exp + drop + 1074 + (g : Int)).toNat - E = 1 by omega, c2]
          have := rne_exact N 1
          rw [Nat.mul_comm] at this
          simp only [Nat.pow_one] at this
          rw [this]; simp
        · obtain ⟨j, hj⟩ : ∃ j, (-drop).toNat = j + 1 := ⟨(-drop).toNat - 1, by omega⟩
          rw [rne_up (by omega), show E - (exp + drop + 1074 + (g : Int)).toNat = j by omega, hj, Nat.pow_succ']
          grind
  refine ⟨?_, ?_, ?_, ?_⟩
  · unfold rung
    rw [hlow, hq, show (exp + drop + 1074 + (g : Int)).toNat - g = (exp + drop + 1074).toNat by omega]
  · rw [hq]
    have hs := (lowest_spec g ((2 * N + more.toNat) * 2 ^ E)).2.1
    rw [hlow] at hs
    exact rne_le hs
  · intro hc
    rw [hq]
    have hs := (lowest_spec g ((2 * N + more.toNat) * 2 ^ E)).2.2
    rw [hlow] at hs
    exact rne_ge (hs (by omega))
  · unfold rX
    have hN : N < 2 ^ n := by have : 2 ^ (n + 1) = 2 * 2 ^ n := Nat.pow_succ'; omega
    by_cases c : 2 ≤ drop
    · rw [if_pos c]
      refine (Nat.div_lt_iff_lt_mul (Nat.two_pow_pos _)).2 ?_
      rw [show (36028797018963968 : Nat) = 2 ^ 55 from by decide, ← Nat.pow_add]
      exact Nat.lt_of_lt_of_le hN (Nat.pow_le_pow_right (by decide) (by omega))
    · rw [if_neg c, show (36028797018963968 : Nat) = 2 ^ 55 from by decide]
      refine Nat.lt_of_lt_of_le (scaled_lt hN) (Nat.pow_le_pow_right (by decide) (by omega))

end Go.Proofs.Yteihehpgegkcpaa
