/-
  Layer 16: numbers are taken until one is not beyond the last: this ends, since the state 0 comes, which tells 0. Both Belows, walked.
-/
import Derived.Test.YteihehpgegkcpaaRdWalk
namespace Go.Proofs.Yteihehpgegkcpaa
open Go.RowKit

/-- How many steps lead from the state a to the state 0. -/
def rdz (a : Int) : Nat := ((-a * 17428512612931826493) % 18446744073709551616).toNat
theorem rdz_eq (a : Int) : ((rdz a : Nat) : Int) = (-a * 17428512612931826493) % 18446744073709551616 := Int.toNat_of_nonneg (Int.emod_nonneg _ (by decide))
theorem neg_mul_mod (x d M : Int) : (-(x % M) * d) % M = (-x * d) % M := by
  have e : -(x % M) * d = -x * d + M * (x / M * d) := by
    rw [Int.emod_def, Int.neg_sub, Int.sub_mul, Int.neg_mul, Int.mul_assoc]; omega
  rw [e, Int.add_mul_emod_self_left]
theorem rdz_zero (a : Int) (ha : In64 a) (h : rdz a = 0) : a = 0 := by
  have h1 := rdz_eq a
  rw [h] at h1
  have h2 : (-a * 17428512612931826493 % 18446744073709551616 * 11400714819323198485) % 18446744073709551616 = (-a) % 18446744073709551616 := by
    rw [Int.mul_emod, Int.emod_emod_of_dvd _ (Int.dvd_refl _), ← Int.mul_emod, Int.mul_assoc, Int.mul_emod, show (17428512612931826493 * 11400714819323198485 : Int) % 18446744073709551616 = 1 by decide, Int.mul_one, Int.emod_emod_of_dvd _ (Int.dvd_refl _)]
  rw [← h1] at h2
  have h3 := ha.1; have h4 := ha.2
  clear h1 h
  have h5 : (-a) % 18446744073709551616 = 0 := h2.symm
  clear h2
  omega
theorem rdz_step (a : Int) (ha : In64 a) (h0 : a ≠ 0) : rdz a = rdz (rst a) + 1 := by
  have h1 := rdz_eq a
  have h2 := rdz_eq (rst a)
  have h4 : rdz a ≠ 0 := fun h => h0 (rdz_zero a ha h)
  have h3 : (-(rst a) * 17428512612931826493) % 18446744073709551616 = (-a * 17428512612931826493 - 1) % 18446744073709551616 := by
    unfold rst
    rw [wrap64, neg_mul_mod]
    have e : -(a + 11400714819323198485) * 17428512612931826493 = (-a * 17428512612931826493 - 1) + 18446744073709551616 * (-10771413168148108919) := by
      rw [Int.neg_add, Int.add_mul, show (-11400714819323198485 * 17428512612931826493 : Int) = -1 + 18446744073709551616 * (-10771413168148108919) by decide]
      generalize -a * 17428512612931826493 = q
      omega
    rw [e, Int.add_mul_emod_self_left]
  rw [h3] at h2
  generalize -a * 17428512612931826493 = q at *
  clear h3
  omega

def rtake (last : Int) : Nat → Int → Int
  | 0, a => a
  | k + 1, a => if rmix a ≤ last then a else rtake last k (rst a)
/-- The first state from a on whose number is not beyond the last. -/
def rfin (last a : Int) : Int := rtake last (rdz a) a
theorem rfin_stop {last a : Int} (h : rmix a ≤ last) : rfin last a = a := by
  unfold rfin
  cases rdz a with
  | zero => rfl
  | succ k => rw [rtake, if_pos h]
theorem rfin_go {last a : Int} (ha : In64 a) (hl : 0 ≤ last) (h : ¬ rmix a ≤ last) : rfin last a = rfin last (rst a) ∧ rdz (rst a) < rdz a := by
  have h0 : a ≠ 0 := fun e => h (by rw [e, mix_zero]; exact hl)
  have h1 := rdz_step a ha h0
  constructor
  · unfold rfin
    rw [h1, rtake, if_neg h]
  · omega

/-- One less than the greatest product of n that is at most 2^64. -/
def rlast (n : Int) : Int := 18446744073709551615 - 18446744073709551616 % n
theorem rlast_in {n : Int} (h1 : 1 ≤ n) (h2 : n < 18446744073709551616) : 0 ≤ rlast n ∧ rlast n ≤ 18446744073709551615 := by
  have h3 := Int.emod_nonneg 18446744073709551616 (b := n) (by omega)
  have h4 := Int.emod_lt_of_pos 18446744073709551616 (b := n) (by omega)
  unfold rlast; omega
theorem neg_mod {n : Int} : (18446744073709551616 - n) % n = 18446744073709551616 % n := Int.sub_emod_right _ _
theorem lastTaken_any (n : Int) (w : World) (h1 : 1 ≤ n) (h2 : n < 18446744073709551616) : Calls Try.prog 20 #[.int .u64 n] w fun e w' => e = .returned (.int .u64 (rlast n)) ∧ w' = w := by
  have H : IntKind.u64.wrap (18446744073709551615 - (IntKind.u64.wrap (-n)).tmod n) = rlast n := by
    have h3 : IntKind.u64.wrap (-n) = 18446744073709551616 - n := by rw [wrap64]; omega
    have := rlast_in h1 h2
    rw [h3, Int.tmod_eq_emod_of_nonneg (by omega), neg_mod, wrap64]
    unfold rlast at *
    omega
  have h0 : n ≠ 0 := by omega
  rw [← H]
  clear H
  go_enter Try.func20, Try.ntmps20
  go_wp2
  go_ret
  exact ⟨rfl, rfl⟩

/-- What Below tells: the state, and the number. -/
def rbS (s n : Int) : Int := if n = 0 then s else rfin (rlast n) (rst s)
def rbX (s n : Int) : Int := if n = 0 then 0 else rmix (rfin (rlast n) (rst s)) % n

theorem below_any (s n : Int) (w : World) (hn : In64 n) : Calls Try.prog 11 #[.int .u64 s, .int .u64 n] w fun e w' => e = .returned (.tuple #[.int .u64 (rbS s n), .int .u64 (rbX s n)]) ∧ Below w.heap.size w w' := by
  by_cases h0 : n = 0
  · have e1 : rbS s n = s := if_pos h0
    have e2 : rbX s n = 0 := if_pos h0
    rw [e1, e2]
    clear e1 e2
    subst h0
    go_enter Try.func11, Try.ntmps11
    go_wp2
    go_ret2
    exact ⟨rfl, Below.refl _ _⟩
  · have e1 : rbS s n = rfin (rlast n) (rst s) := if_neg h0
    have e2 : rbX s n = (rmix (rfin (rlast n) (rst s))).tmod n := by
      rw [Int.tmod_eq_emod_of_nonneg (in_mix _).1]; exact if_neg h0
    rw [e1, e2]
    clear e1 e2
    have hl : Calls Try.prog 20 #[.int .u64 n] w fun e w' => e = .returned (.int .u64 (rlast n)) ∧ w' = w := lastTaken_any n w (by have := hn.1; omega) hn.2
    have HL : Hid (0 ≤ rlast n) := (rlast_in (by have := hn.1; omega) hn.2).1
    clear hn
    generalize rlast n = L at *
    obtain ⟨F, hF⟩ : ∃ F, F = rfin L (rst s) := ⟨_, rfl⟩
    rw [← hF]
    have HF : Hid (F = rfin L (rst s)) := hF
    clear hF
    go_enter Try.func11, Try.ntmps11
    go_wp2_with fail
    refine hl.mono ?_
    rintro e w' ⟨rfl, rfl⟩
    go_wp2_with fail
    refine (next_any _ _).mono ?_
    rintro e w' ⟨rfl, rfl⟩
    go_wp2_with fail
    go_loopw [0, 7] (fun t0 t7 wr => ∃ a : Int, Hid (In64 a) ∧ t0 = .int .u64 a ∧ t7 = .int .u64 (rmix a) ∧ Hid (F = rfin L a) ∧ wr = w') (fun t0 _ _ => rdz (intOf t0))
    case atStart => exact ⟨rst s, in_st s, rfl, rfl, HF, rfl⟩
    case round =>
      obtain ⟨a, HA, rfl, rfl, HG, rfl⟩ := hrel
      by_cases hx : rmix a ≤ L
      · have hx2 : ¬ L < rmix a := by omega
        have e : F = a := by rw [HG.out, rfin_stop hx]
        subst e
        go_wp2_with fail
        go_region
        go_wp2
        go_ret2
        exact ⟨rfl, (Below.refl _ _).drew⟩
      · have HX : Hid (¬ rmix a ≤ L) := hx
        have hx2 : L < rmix a := by omega
        clear hx
        go_wp2_with fail
        refine (next_any _ _).mono ?_
        rintro e w' ⟨rfl, rfl⟩
        go_wp2_with fail
        have g := rfin_go HA.out HL.out (by have := HX.out; omega)
        exact ⟨⟨rst a, in_st a, rfl, rfl, by rw [HG.out]; exact g.1, trivial⟩, by simpa [intOf] using g.2⟩

theorem rlast_ref {n : Int} (h1 : 1 ≤ n) (h2 : n < 18446744073709551616) : rlast n = if (18446744073709551615 : Int) % n = n - 1 then 18446744073709551615 else 18446744073709551615 - 18446744073709551615 % n - 1 := by
  have h3 := Int.emod_nonneg 18446744073709551615 (b := n) (by omega)
  have h4 := Int.emod_lt_of_pos 18446744073709551615 (b := n) (by omega)
  have e : (18446744073709551616 : Int) % n = (18446744073709551615 % n + 1) % n := by
    rw [Int.emod_add_emod]
    rfl
  unfold rlast
  rw [e]
  split
  · rename_i h
    rw [h, show n - 1 + 1 = n by omega, Int.emod_self]; rfl
  · rw [Int.emod_eq_of_lt (by omega) (by omega)]; omega

theorem rbelow_any (s n : Int) (w : World) (hn : In64 n) : Calls Try.prog 12 #[.int .u64 s, .int .u64 n] w fun e w' => e = .returned (.tuple #[.int .u64 (rbS s n), .int .u64 (rbX s n)]) ∧ Below w.heap.size w w' := by
  by_cases h0 : n = 0
  · have e1 : rbS s n = s := if_pos h0
    have e2 : rbX s n = 0 := if_pos h0
    rw [e1, e2]
    clear e1 e2
    subst h0
    go_enter Try.func12, Try.ntmps12
    go_wp2
    go_ret2
    exact ⟨rfl, Below.refl _ _⟩
  · have e1 : rbS s n = rfin (rlast n) (rst s) := if_neg h0
    have e2 : rbX s n = (rmix (rfin (rlast n) (rst s))).tmod n := by
      rw [Int.tmod_eq_emod_of_nonneg (in_mix _).1]; exact if_neg h0
    rw [e1, e2]
    clear e1 e2
    have h1 : 1 ≤ n := by have := hn.1; omega
    have HL : Hid (0 ≤ rlast n) := (rlast_in h1 hn.2).1
    have HR : Hid (rlast n = if (18446744073709551615 : Int) % n = n - 1 then 18446744073709551615 else 18446744073709551615 - 18446744073709551615 % n - 1) := rlast_ref h1 hn.2
    have HN : Hid (1 ≤ n ∧ n < 18446744073709551616) := ⟨h1, hn.2⟩
    have m1 : (18446744073709551615 : Int).tmod n = 18446744073709551615 % n := Int.tmod_eq_emod_of_nonneg (by decide)
    have m2 : IntKind.u64.wrap (n - 1) = n - 1 := by rw [wrap64]; have := hn.2; omega
    have h3 := Int.emod_nonneg 18446744073709551615 (b := n) (by omega)
    have h4 := Int.emod_lt_of_pos 18446744073709551615 (b := n) (by omega)
    have H3 : Hid (0 ≤ (18446744073709551615 : Int) % n ∧ (18446744073709551615 : Int) % n < n) := ⟨h3, h4⟩
    clear hn h1 h3 h4
    obtain ⟨F, hF⟩ : ∃ F, F = rfin (rlast n) (rst s) := ⟨_, rfl⟩
    rw [← hF]
    have HF : Hid (F = rfin (rlast n) (rst s)) := hF
    clear hF
    generalize rlast n = L at *
    go_enter Try.func12, Try.ntmps12
    go_wp2_with fail
    · rename_i h9 h
      rw [h9, h]
      clear h9
      have hq : ¬ (18446744073709551615 : Int) % n = n - 1 := by simpa using h
      have hq2 := HR.out
      rw [if_neg hq] at hq2
      have e : IntKind.u64.wrap (IntKind.u64.wrap (18446744073709551615 - 18446744073709551615 % n) - 1) = L := by
        rw [wrap64, wrap64, hq2]
        have := H3.out; have := HN.out; omega
      rw [e]
      clear e hq hq2 h m1 m2 HR
      go_loopw [0] (fun t0 wr => ∃ a : Int, t0 = .int .u64 a ∧ Hid (F = rfin L (rst a)) ∧ wr = w) (fun t0 _ => rdz (rst (intOf t0)))
      case atStart => exact ⟨s, rfl, HF, rfl⟩
      case round =>
        obtain ⟨a, rfl, HG, rfl⟩ := hrel
        by_cases hx : rmix (rst a) ≤ L
        · have HX : Hid (rmix (rst a) ≤ L) := hx
          have e : F = rst a := by rw [HG.out, rfin_stop hx]
          subst e
          go_wp2_with fail
          refine (rnext_any _ _).mono ?_
          rintro e w' ⟨rfl, rfl⟩
          go_wp2_with fail
          go_region
          go_wp2
          go_ret2
          exact ⟨rfl, (Below.refl _ _).drew⟩
        · have HX : Hid (¬ rmix (rst a) ≤ L) := hx
          go_wp2_with fail
          refine (rnext_any _ _).mono ?_
          rintro e w' ⟨rfl, rfl⟩
          go_wp2_with fail
          have g := rfin_go (in_st a) HL.out (by have := HX.out; omega)
          exact ⟨⟨rst a, rfl, by rw [HG.out]; exact g.1, trivial⟩, by simpa [intOf] using g.2⟩
    · rename_i h9 h
      rw [h9, h]
      clear h9
      have hq : (18446744073709551615 : Int) % n = n - 1 := by simpa using h
      have hq2 := HR.out
      rw [if_pos hq] at hq2
      subst hq2
      clear hq h m1 m2 HR
      go_loopw [0] (fun t0 wr => ∃ a : Int, t0 = .int .u64 a ∧ Hid (F = rfin 18446744073709551615 (rst a)) ∧ wr = w) (fun t0 _ => rdz (rst (intOf t0)))
      case atStart => exact ⟨s, rfl, HF, rfl⟩
      case round =>
        obtain ⟨a, rfl, HG, rfl⟩ := hrel
        by_cases hx : rmix (rst a) ≤ 18446744073709551615
        · have HX : Hid (rmix (rst a) ≤ 18446744073709551615) := hx
          have e : F = rst a := by rw [HG.out, rfin_stop hx]
          subst e
          go_wp2_with fail
          refine (rnext_any _ _).mono ?_
          rintro e w' ⟨rfl, rfl⟩
          go_wp2_with fail
          go_region
          go_wp2
          go_ret2
          exact ⟨rfl, (Below.refl _ _).drew⟩
        · have HX : Hid (¬ rmix (rst a) ≤ 18446744073709551615) := hx
          go_wp2_with fail
          refine (rnext_any _ _).mono ?_
          rintro e w' ⟨rfl, rfl⟩
          go_wp2_with fail
          have g := rfin_go (in_st a) HL.out (by have := HX.out; omega)
          exact ⟨⟨rst a, rfl, by rw [HG.out]; exact g.1, trivial⟩, by simpa [intOf] using g.2⟩
end Go.Proofs.Yteihehpgegkcpaa
