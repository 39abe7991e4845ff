/-
  The reference of layer 3: Sqrt.
-/
import Derived.Test.YtpgjibfggagbmaaQuoRem
namespace Go.Proofs.Ytpgjibfggagbmaa
open Go.RowKit Dg Flo

theorem root_step {N X j : Nat} (h2 : N < (X + 2 ^ (j + 1)) * (X + 2 ^ (j + 1))) (c : (X + 2 ^ j) * (X + 2 ^ j) ≤ N) : (X + 2 ^ j) * (X + 2 ^ j) ≤ N ∧ N < (X + 2 ^ j + 2 ^ j) * (X + 2 ^ j + 2 ^ j) := by
  refine ⟨c, ?_⟩
  have e : X + 2 ^ j + 2 ^ j = X + 2 ^ (j + 1) := by rw [Nat.pow_succ]; omega
  rw [e]; exact h2
theorem root_start (N L : Nat) (h : N < 2 ^ L) : N < (0 + 2 ^ (L / 2 + 1 + 1)) * (0 + 2 ^ (L / 2 + 1 + 1)) := by
  rw [Nat.zero_add, ← Nat.pow_add]
  exact Nat.lt_of_lt_of_le h (Nat.pow_le_pow_right (by decide) (by omega))
theorem root_small {N X L : Nat} (h1 : X * X ≤ N) (h : N < 2 ^ (2 * L)) : X < 2 ^ L := by
  have e : 2 ^ (2 * L) = 2 ^ L * 2 ^ L := by rw [← Nat.pow_add]; congr 1; omega
  rw [e] at h
  exact sq_lt (Nat.lt_of_le_of_lt h1 h)

theorem dlen_sq {Y L k : Nat} (h : Y < 2 ^ L) (hk : L + L ≤ 16 * k) : dlen (Y * Y) ≤ k := by
  refine dlen_pow (K := L + L) ?_ hk
  rw [Nat.pow_add]
  exact Nat.mul_lt_mul_of_lt_of_le h (Nat.le_of_lt h) (Nat.two_pow_pos _)

/-- A root that the reference rounds. -/
theorem round_root (v : Value) (f X c l : Nat) (e e' : Int) (w : World) (hD : D w v X l) (hl : l ≤ 1048576) (hf0 : f ≠ 0) (hX : IsRoot (f * 2 ^ c) X) (hc : 128 ≤ c) (hc2 : c ≤ 129) (hce : e' - 128 = e - (c : Int)) (hpar : (e - (c : Int)) % 2 = 0)
    (e1 : -1074 ≤ e) (e2 : e ≤ 971) (more : Bool) (hm : more = decide (X * X ≠ f * 2 ^ c)) :
    Calls Try.prog 31 #[.bool false, .int .i64 ((e' - 128) / 2), v, .bool more] w fun e'' w' => e'' = .returned (.int .u64 (rootR (f * 2 ^ (e + 1074).toNat) : Nat)) ∧ Below w.heap.size w w' := by
  have hq : 9007199254740992 ≤ X := by
    refine root_ge hX (k := 53) ?_
    have h1 := Nat.le_mul_of_pos_left (2 ^ c) (show 0 < f by omega)
    exact Nat.le_trans (Nat.pow_le_pow_right (by decide) (by omega)) h1
  have k := round_any v X l 1200 ((e' - 128) / 2) more false w hD hl (by omega) (by omega) (by omega) (fun _ => hq)
  have hs : 2 * X + more.toNat = stickR (f * 2 ^ c) X := by
    unfold stickR
    rw [hm]
    by_cases h : X * X = f * 2 ^ c
    · rw [if_pos h, decide_eq_false (by simpa using h)]; rfl
    · rw [if_neg h, decide_eq_true h]; rfl
  rw [hs, root_at (E := ((e' - 128) / 2 + 1073 + ((1200 : Nat) : Int)).toNat) (i := (e + 1074).toNat) hf0 hX hq (by omega) (by omega)] at k
  have e0 : sgn false = 0 := rfl
  rw [e0, Int.zero_add] at k
  exact k

set_option maxHeartbeats 4000000 in
theorem refSqrt_fin (a E : Int) (f c : Nat) (w : World) (ha : U64 a) (a1 : (kindZ a == 4) = false) (a2 : (kindZ a == 3) = false) (a3 : (kindZ a == 0) = false)
    (p1 : belowB a = false) (p2 : pexp a = E) (p3 : pfrac a = (f : Int)) (hf : f < 9007199254740992) (hf0 : f ≠ 0) (hE1 : -1074 ≤ E) (hE2 : E ≤ 971)
    (hc : (E % 2 = 0 ∧ c = 128) ∨ (E % 2 = 1 ∧ c = 129)) :
    Calls Try.prog 20 #[.int .u64 a] w fun e w' => e = .returned (.int .u64 (rootR (f * 2 ^ (E + 1074).toNat) : Nat)) ∧ Below w.heap.size w w' := by
  obtain ⟨i0, hi, hz0, hz1, hz2⟩ := info_parts infoU
  have P1 := fun w => refParts_any a w ha
  rw [p1, p2, p3] at P1
  have N1 := fun w => refNeg_any a w ha
  rw [p1] at N1
  have HP1 : Hid _ := P1
  have HN1 : Hid _ := N1
  obtain ⟨E', hE'⟩ : ∃ E' : Int, E' - 128 = E - (c : Int) := ⟨E - (c : Int) + 128, by omega⟩
  have HR : Hid (∀ v X l w (x : Int) (more : Bool), IsRoot (f * 2 ^ c) X → x = (E' - 128) / 2 → more = decide (X * X ≠ f * 2 ^ c) → D w v X l → l ≤ 1048576 → Calls Try.prog 31 #[.bool false, .int .i64 x, v, .bool more] w fun e'' w' => e'' = .returned (.int .u64 (rootR (f * 2 ^ (E + 1074).toNat) : Nat)) ∧ Below w.heap.size w w') := by
    intro v X l w x more hX hx hm hD hl
    rw [hx]
    exact round_root v f X c l E E' w hD hl hf0 hX (by omega) (by omega) hE' (by omega) hE1 hE2 more hm
  generalize ((rootR (f * 2 ^ (E + 1074).toNat) : Nat) : Int) = R at *
  clear P1 N1 p1 p2 p3
  have hN : f * 2 ^ c < 2 ^ (2 * 91) := Nat.lt_of_lt_of_le (scaled_lt (L := 53) (by omega)) (Nat.pow_le_pow_right (by decide) (by omega))
  have l3 : dlen (f * 2 ^ c) ≤ 1001 := dlen_pow hN (by omega)
  have HLen : Hid (∀ v w, D w v (f * 2 ^ c) (dlen (f * 2 ^ c)) → Calls Try.prog 38 #[v] w fun e w' => e = .returned (.int .i64 (blen (f * 2 ^ c) : Nat)) ∧ w' = w) := fun v w h => len_any v _ _ w h (by omega)
  have hbl : blen (f * 2 ^ c) ≤ 182 := blen_le (by rw [show (182 : Nat) = 2 * 91 from rfl]; exact hN)
  have hS0 := root_start (f * 2 ^ c) (blen (f * 2 ^ c)) (blen_lt _)
  obtain ⟨b2, hb2'⟩ : ∃ b2 : Nat, b2 = blen (f * 2 ^ c) / 2 := ⟨_, rfl⟩
  rw [← hb2'] at hS0
  have hbd : ((blen (f * 2 ^ c) : Nat) : Int) / 2 = (b2 : Int) := by omega
  have hb2l : b2 ≤ 100 := by omega
  obtain ⟨N, hNN⟩ : ∃ N, N = f * 2 ^ c := ⟨_, rfl⟩
  have HNN : Hid (f * 2 ^ c = N) := hNN.symm
  rw [← hNN] at hS0 hN l3 HLen HR hbd
  generalize blen N = bl at *
  have HS0 : Hid _ := hS0
  obtain ⟨Z, hZ⟩ : ∃ Z : Int, Z = (E' - 128) / 2 := ⟨_, rfl⟩
  rw [← hZ] at HR
  have zb : -4000 ≤ Z ∧ Z ≤ 4000 := by omega
  clear hS0 hb2' hNN hbl
  rcases hc with ⟨par, rfl⟩ | ⟨par, rfl⟩
  · have hp : Int.tmod E 2 = 0 := Int.tmod_eq_zero_of_dvd (Int.dvd_of_emod_eq_zero par)
    have hq : Int.tdiv (E - 128) 2 = Z := by
      rw [Int.tdiv_eq_ediv_of_dvd (Int.dvd_of_emod_eq_zero (by omega)), hZ]
      congr 1; omega
    clear hZ hE' par
    go_enter Try.func20, Try.ntmps20
    go_wp2_with fail
    refine (refKind_any _ _ ha).mono ?_
    rintro e w' ⟨rfl, hw'⟩
    rw [hw']
    clear hw' w'
    go_wp2_with fail
    refine (HN1.out _).mono ?_
    rintro e w' ⟨rfl, hw'⟩
    rw [hw']
    clear hw' w'
    go_wp2_with fail
    refine (HP1.out _).mono ?_
    rintro e w' ⟨rfl, hw'⟩
    rw [hw']
    clear hw' w'
    go_wp2_with fail
    refine (digits_any f _ (by omega)).mono ?_
    rintro e w1 ⟨v1, rfl, hd1, hb1⟩
    go_wp2_with fail
    refine (up_nat _ f 4 128 _ _ (by rfl) hd1 (by decide) (by decide)).mono ?_
    rintro e w2 ⟨v2, rfl, hd2, hb2⟩
    replace hb2 := hb1.trans (hb2.mono hb1.size)
    clear hd1 hb1
    rw [HNN.out] at hd2
    have hA : Below w2.heap.size w2 (w2.alloc (.cells #[] 22)) := (Below.refl _ _).alloc (Nat.le_refl _) _
    have hx0 := D_empty w2
    have hdA := hd2.below hA
    go_wp2_with fail
    generalize w2.alloc (.cells #[] 22) = w3 at *
    refine (HLen.out _ _ hdA).mono ?_
    rintro e w' ⟨rfl, hw'⟩
    rw [hw']
    clear hw' w'
    go_wp2_with fail
    go_loopw [8, 9] (fun xv t wr => ∃ (j : Nat) (i : Int) (X : Nat), i = (j : Int) - 1 ∧ j ≤ 200 ∧ t = .int .i64 i ∧ D wr xv X (dlen X) ∧ X * X ≤ N ∧ N < (X + 2 ^ j) * (X + 2 ^ j) ∧ Below w2.heap.size w2 wr) (fun _ t _ => (intOf t + 1).toNat)
    case atStart => exact ⟨b2 + 2, _, 0, rfl, by omega, by go_num, hx0, by simp, HS0.out, hA⟩
    case round =>
      obtain ⟨j, i, X, hi', hj, rfl, hDx, hX1, hX2, hbel⟩ := hrel
      have hdr := hd2.below hbel
      have hXs : X < 2 ^ 91 := root_small hX1 hN
      have hXl : dlen X ≤ 1001 := dlen_pow hXs (by omega)
      clear hdA hx0 hA
      cases j with
      | zero =>
        obtain rfl : i = -1 := by omega
        have hroot : Hid (IsRoot N X) := ⟨hX1, by rw [Nat.pow_zero] at hX2; exact hX2⟩
        have hXX : dlen (X * X) ≤ 1001 := Nat.le_trans (dlen_mono hX1) l3
        obtain ⟨m, hm⟩ : ∃ m : Bool, m = decide (X * X ≠ N) := ⟨_, rfl⟩
        have hcz : (cmpZ (X * X) N != 0) = m := by
          rw [hm]; unfold cmpZ
          by_cases q : X * X = N
          · rw [q, if_neg (by omega), if_pos rfl]; simp
          · rw [if_pos (by omega), decide_eq_true q]; rfl
        have HM : Hid (m = decide (X * X ≠ N)) := hm
        have HC : Hid ((cmpZ (X * X) N != 0) = m) := hcz
        clear hX1 hX2 hi' hm hcz hXs
        go_wp2_with fail
        refine (prod_any _ _ _ _ _ _ _ hDx hDx (by omega) (by omega)).mono ?_
        rintro e w5 ⟨v5, rfl, hd5, hb5⟩
        have hdr5 := hdr.below hb5
        have hDx5 := hDx.below hb5
        replace hb5 := hbel.trans (hb5.mono hbel.size)
        go_wp2_with fail
        refine (cmp_any _ _ _ _ _ _ _ hd5 hdr5 (by omega) (by omega)).mono ?_
        rintro e w' ⟨rfl, hw'⟩
        rw [hw']
        clear hw' w'
        have hcz := HC.out
        generalize cmpZ (X * X) N = C at *
        clear HC hd5 hdr5 hdr hDx
        go_wp2_with fail
        refine (HR.out _ X _ _ _ _ hroot.out (by first | rfl | (unfold wrap64; omega)) HM.out hDx5 (by omega)).mono ?_
        rintro e w6 ⟨rfl, hb6⟩
        go_wp2
        go_ret
        exact ⟨rfl, hb2.trans ((hb5.trans (hb6.mono hb5.size)).mono hb2.size)⟩
      | succ t =>
        obtain rfl : i = (t : Int) := by omega
        obtain ⟨Y, hY⟩ : ∃ Y, Y = X + 1 * 2 ^ t := ⟨_, rfl⟩
        have ht : 2 ^ t ≤ 2 ^ 199 := Nat.pow_le_pow_right (by decide) (by omega)
        have hYs : Y < 2 ^ 200 := by
          have : 2 ^ 91 ≤ 2 ^ 199 := Nat.pow_le_pow_right (by decide) (by decide)
          have : 2 ^ 200 = 2 * 2 ^ 199 := Nat.pow_succ'
          rw [hY, Nat.one_mul]
          generalize 2 ^ 200 = a1 at *
          generalize 2 ^ 199 = a2 at *
          generalize 2 ^ 91 = a3 at *
          omega
        have hYl : dlen Y ≤ 1001 := dlen_pow hYs (by omega)
        have hYY : dlen (Y * Y) ≤ 1001 := dlen_sq hYs (by omega)
        have h1l : dlen (1 * 2 ^ t) ≤ 1001 := dlen_pow (K := 200) (by rw [Nat.one_mul]; exact Nat.pow_lt_pow_right (by decide) (by omega)) (by omega)
        have E1 : Hid (Y * Y ≤ N → Y * Y ≤ N ∧ N < (Y + 2 ^ t) * (Y + 2 ^ t)) := by
          intro q
          have e : Y = X + 2 ^ t := by rw [hY, Nat.one_mul]
          rw [e] at q ⊢
          exact root_step hX2 q
        have E2 : Hid (¬ Y * Y ≤ N → X * X ≤ N ∧ N < (X + 2 ^ t) * (X + 2 ^ t)) := by
          intro q
          have e : Y = X + 2 ^ t := by rw [hY, Nat.one_mul]
          rw [e] at q
          exact ⟨hX1, by omega⟩
        have HY : Hid (Y = X + 1 * 2 ^ t) := hY
        clear hX1 hX2 hi' ht hYs hY hXs
        have ho := D_one wr 1 (by decide)
        have hB : Below wr.heap.size wr (wr.alloc (.cells #[.int .u64 ((1 : Nat) : Int)] 22)) := (Below.refl _ _).alloc (Nat.le_refl _) _
        have hDx4 := hDx.below hB
        have hdr4 := hdr.below hB
        have hbel4 := hbel.trans (hB.mono hbel.size)
        clear hB hDx hdr hbel
        go_wp2_with fail
        generalize wr.alloc (.cells #[.int .u64 ((1 : Nat) : Int)] 22) = w4 at *
        refine (up_nat _ 1 1 t _ _ (by rfl) ho (by decide) (by omega)).mono ?_
        rintro e w5 ⟨v5, rfl, hd5, hb5⟩
        have hDx5 := hDx4.below hb5
        have hdr5 := hdr4.below hb5
        have hbel5 := hbel4.trans (hb5.mono hbel4.size)
        clear hDx4 hdr4 hbel4 ho hb5
        go_wp2_with fail
        refine (sum_any _ _ _ _ _ _ _ hDx5 hd5 (by omega) (by omega)).mono ?_
        rintro e w6 ⟨v6, rfl, hd6, hb6⟩
        rw [← HY.out] at hd6
        have hDx6 := hDx5.below hb6
        have hdr6 := hdr5.below hb6
        have hbel6 := hbel5.trans (hb6.mono hbel5.size)
        clear hDx5 hdr5 hbel5 hd5 hb6 HY
        go_wp2_with fail
        refine (prod_any _ _ _ _ _ _ _ hd6 hd6 (by omega) (by omega)).mono ?_
        rintro e w7 ⟨v7, rfl, hd7, hb7⟩
        have hDx7 := hDx6.below hb7
        have hdr7 := hdr6.below hb7
        have hd8 := hd6.below hb7
        have hbel7 := hbel6.trans (hb7.mono hbel6.size)
        clear hDx6 hdr6 hbel6 hd6 hb7
        go_wp2_with fail
        refine (cmp_any _ _ _ _ _ _ _ hd7 hdr7 (by omega) (by omega)).mono ?_
        rintro e w' ⟨rfl, hw'⟩
        rw [hw']
        clear hw' w'
        by_cases q : Y * Y ≤ N
        · have hcz : decide (cmpZ (Y * Y) N ≤ 0) = true := by
            unfold cmpZ
            by_cases q2 : Y * Y < N
            · rw [if_pos q2]; decide
            · rw [if_neg q2, if_pos (by omega)]; decide
          generalize cmpZ (Y * Y) N = C at *
          have hE := E1.out q
          have HE : Hid _ := hE
          clear hE E1 E2 q hd7 hdr7 hDx7
          go_wp2
          go_roundw
          case rel => exact ⟨t, _, Y, rfl, by omega, by go_num, hd8, HE.out.1, HE.out.2, hbel7⟩
          case measure => simp [intOf]
        · have hcz : decide (cmpZ (Y * Y) N ≤ 0) = false := by
            unfold cmpZ
            rw [if_neg (by omega), if_neg (by omega)]; decide
          generalize cmpZ (Y * Y) N = C at *
          have hE := E2.out q
          have HE : Hid _ := hE
          clear hE E1 E2 q hd7 hdr7 hd8
          go_wp2
          go_roundw
          case rel => exact ⟨t, _, X, rfl, by omega, by go_num, hDx7, HE.out.1, HE.out.2, hbel7⟩
          case measure => simp [intOf]
  · have hp : (Int.tmod E 2 != 0) = true := by
      rw [bne_iff_ne]
      intro k
      have := Int.emod_eq_zero_of_dvd (Int.dvd_of_tmod_eq_zero k)
      omega
    have hq1 : Int.tdiv (E - 129) 2 = Z := by
      rw [Int.tdiv_eq_ediv_of_dvd (Int.dvd_of_emod_eq_zero (by omega)), hZ]
      congr 1; omega
    have hq2 : Int.tdiv (E - 1 - 128) 2 = Z := by rw [← hq1]; congr 1; omega
    clear hZ hE' par
    go_enter Try.func20, Try.ntmps20
    go_wp2_with fail
    refine (refKind_any _ _ ha).mono ?_
    rintro e w' ⟨rfl, hw'⟩
    rw [hw']
    clear hw' w'
    go_wp2_with fail
    refine (HN1.out _).mono ?_
    rintro e w' ⟨rfl, hw'⟩
    rw [hw']
    clear hw' w'
    go_wp2_with fail
    refine (HP1.out _).mono ?_
    rintro e w' ⟨rfl, hw'⟩
    rw [hw']
    clear hw' w'
    go_wp2_with fail
    refine (digits_any f _ (by omega)).mono ?_
    rintro e w1 ⟨v1, rfl, hd1, hb1⟩
    go_wp2_with fail
    refine (up_nat _ f 4 128 _ _ (by rfl) hd1 (by decide) (by decide)).mono ?_
    rintro e w2' ⟨v2', rfl, hd2', hb2'⟩
    replace hb2' := hb1.trans (hb2'.mono hb1.size)
    clear hd1 hb1
    have hlx : dlen (f * 2 ^ 128) ≤ 1001 := dlen_pow (scaled_lt (L := 53) (E := 128) (by omega)) (by omega)
    go_wp2_with fail
    refine (up_nat _ (f * 2 ^ 128) _ 1 _ _ (by rfl) hd2' (by omega) (by decide)).mono ?_
    rintro e w2 ⟨v2, rfl, hd2, hb2⟩
    replace hb2 := hb2'.trans (hb2.mono hb2'.size)
    have hpw : f * 2 ^ 128 * 2 ^ 1 = f * 2 ^ 129 := by rw [Nat.mul_assoc, ← Nat.pow_add]
    rw [hpw] at hd2
    clear hd2' hb2' hlx hpw
    rw [HNN.out] at hd2
    have hA : Below w2.heap.size w2 (w2.alloc (.cells #[] 22)) := (Below.refl _ _).alloc (Nat.le_refl _) _
    have hx0 := D_empty w2
    have hdA := hd2.below hA
    go_wp2_with fail
    generalize w2.alloc (.cells #[] 22) = w3 at *
    refine (HLen.out _ _ hdA).mono ?_
    rintro e w' ⟨rfl, hw'⟩
    rw [hw']
    clear hw' w'
    go_wp2_with fail
    go_loopw [8, 9] (fun xv t wr => ∃ (j : Nat) (i : Int) (X : Nat), i = (j : Int) - 1 ∧ j ≤ 200 ∧ t = .int .i64 i ∧ D wr xv X (dlen X) ∧ X * X ≤ N ∧ N < (X + 2 ^ j) * (X + 2 ^ j) ∧ Below w2.heap.size w2 wr) (fun _ t _ => (intOf t + 1).toNat)
    case atStart => exact ⟨b2 + 2, _, 0, rfl, by omega, by go_num, hx0, by simp, HS0.out, hA⟩
    case round =>
      obtain ⟨j, i, X, hi', hj, rfl, hDx, hX1, hX2, hbel⟩ := hrel
      have hdr := hd2.below hbel
      have hXs : X < 2 ^ 91 := root_small hX1 hN
      have hXl : dlen X ≤ 1001 := dlen_pow hXs (by omega)
      clear hdA hx0 hA
      cases j with
      | zero =>
        obtain rfl : i = -1 := by omega
        have hroot : Hid (IsRoot N X) := ⟨hX1, by rw [Nat.pow_zero] at hX2; exact hX2⟩
        have hXX : dlen (X * X) ≤ 1001 := Nat.le_trans (dlen_mono hX1) l3
        obtain ⟨m, hm⟩ : ∃ m : Bool, m = decide (X * X ≠ N) := ⟨_, rfl⟩
        have hcz : (cmpZ (X * X) N != 0) = m := by
          rw [hm]; unfold cmpZ
          by_cases q : X * X = N
          · rw [q, if_neg (by omega), if_pos rfl]; simp
          · rw [if_pos (by omega), decide_eq_true q]; rfl
        have HM : Hid (m = decide (X * X ≠ N)) := hm
        have HC : Hid ((cmpZ (X * X) N != 0) = m) := hcz
        clear hX1 hX2 hi' hm hcz hXs
        go_wp2_with fail
        refine (prod_any _ _ _ _ _ _ _ hDx hDx (by omega) (by omega)).mono ?_
        rintro e w5 ⟨v5, rfl, hd5, hb5⟩
        have hdr5 := hdr.below hb5
        have hDx5 := hDx.below hb5
        replace hb5 := hbel.trans (hb5.mono hbel.size)
        go_wp2_with fail
        refine (cmp_any _ _ _ _ _ _ _ hd5 hdr5 (by omega) (by omega)).mono ?_
        rintro e w' ⟨rfl, hw'⟩
        rw [hw']
        clear hw' w'
        have hcz := HC.out
        generalize cmpZ (X * X) N = C at *
        clear HC hd5 hdr5 hdr hDx
        go_wp2_with fail
        refine (HR.out _ X _ _ _ _ hroot.out (by first | rfl | (unfold wrap64; omega)) HM.out hDx5 (by omega)).mono ?_
        rintro e w6 ⟨rfl, hb6⟩
        go_wp2
        go_ret
        exact ⟨rfl, hb2.trans ((hb5.trans (hb6.mono hb5.size)).mono hb2.size)⟩
      | succ t =>
        obtain rfl : i = (t : Int) := by omega
        obtain ⟨Y, hY⟩ : ∃ Y, Y = X + 1 * 2 ^ t := ⟨_, rfl⟩
        have ht : 2 ^ t ≤ 2 ^ 199 := Nat.pow_le_pow_right (by decide) (by omega)
        have hYs : Y < 2 ^ 200 := by
          have : 2 ^ 91 ≤ 2 ^ 199 := Nat.pow_le_pow_right (by decide) (by decide)
          have : 2 ^ 200 = 2 * 2 ^ 199 := Nat.pow_succ'
          rw [hY, Nat.one_mul]
          generalize 2 ^ 200 = a1 at *
          generalize 2 ^ 199 = a2 at *
          generalize 2 ^ 91 = a3 at *
          omega
        have hYl : dlen Y ≤ 1001 := dlen_pow hYs (by omega)
        have hYY : dlen (Y * Y) ≤ 1001 := dlen_sq hYs (by omega)
        have h1l : dlen (1 * 2 ^ t) ≤ 1001 := dlen_pow (K := 200) (by rw [Nat.one_mul]; exact Nat.pow_lt_pow_right (by decide) (by omega)) (by omega)
        have E1 : Hid (Y * Y ≤ N → Y * Y ≤ N ∧ N < (Y + 2 ^ t) * (Y + 2 ^ t)) := by
          intro q
          have e : Y = X + 2 ^ t := by rw [hY, Nat.one_mul]
          rw [e] at q ⊢
          exact root_step hX2 q
        have E2 : Hid (¬ Y * Y ≤ N → X * X ≤ N ∧ N < (X + 2 ^ t) * (X + 2 ^ t)) := by
          intro q
          have e : Y = X + 2 ^ t := by rw [hY, Nat.one_mul]
          rw [e] at q
          exact ⟨hX1, by omega⟩
        have HY : Hid (Y = X + 1 * 2 ^ t) := hY
        clear hX1 hX2 hi' ht hYs hY hXs
        have ho := D_one wr 1 (by decide)
        have hB : Below wr.heap.size wr (wr.alloc (.cells #[.int .u64 ((1 : Nat) : Int)] 22)) := (Below.refl _ _).alloc (Nat.le_refl _) _
        have hDx4 := hDx.below hB
        have hdr4 := hdr.below hB
        have hbel4 := hbel.trans (hB.mono hbel.size)
        clear hB hDx hdr hbel
        go_wp2_with fail
        generalize wr.alloc (.cells #[.int .u64 ((1 : Nat) : Int)] 22) = w4 at *
        refine (up_nat _ 1 1 t _ _ (by rfl) ho (by decide) (by omega)).mono ?_
        rintro e w5 ⟨v5, rfl, hd5, hb5⟩
        have hDx5 := hDx4.below hb5
        have hdr5 := hdr4.below hb5
        have hbel5 := hbel4.trans (hb5.mono hbel4.size)
        clear hDx4 hdr4 hbel4 ho hb5
        go_wp2_with fail
        refine (sum_any _ _ _ _ _ _ _ hDx5 hd5 (by omega) (by omega)).mono ?_
        rintro e w6 ⟨v6, rfl, hd6, hb6⟩
        rw [← HY.out] at hd6
        have hDx6 := hDx5.below hb6
        have hdr6 := hdr5.below hb6
        have hbel6 := hbel5.trans (hb6.mono hbel5.size)
        clear hDx5 hdr5 hbel5 hd5 hb6 HY
        go_wp2_with fail
        refine (prod_any _ _ _ _ _ _ _ hd6 hd6 (by omega) (by omega)).mono ?_
        rintro e w7 ⟨v7, rfl, hd7, hb7⟩
        have hDx7 := hDx6.below hb7
        have hdr7 := hdr6.below hb7
        have hd8 := hd6.below hb7
        have hbel7 := hbel6.trans (hb7.mono hbel6.size)
        clear hDx6 hdr6 hbel6 hd6 hb7
        go_wp2_with fail
        refine (cmp_any _ _ _ _ _ _ _ hd7 hdr7 (by omega) (by omega)).mono ?_
        rintro e w' ⟨rfl, hw'⟩
        rw [hw']
        clear hw' w'
        by_cases q : Y * Y ≤ N
        · have hcz : decide (cmpZ (Y * Y) N ≤ 0) = true := by
            unfold cmpZ
            by_cases q2 : Y * Y < N
            · rw [if_pos q2]; decide
            · rw [if_neg q2, if_pos (by omega)]; decide
          generalize cmpZ (Y * Y) N = C at *
          have hE := E1.out q
          have HE : Hid _ := hE
          clear hE E1 E2 q hd7 hdr7 hDx7
          go_wp2
          go_roundw
          case rel => exact ⟨t, _, Y, rfl, by omega, by go_num, hd8, HE.out.1, HE.out.2, hbel7⟩
          case measure => simp [intOf]
        · have hcz : decide (cmpZ (Y * Y) N ≤ 0) = false := by
            unfold cmpZ
            rw [if_neg (by omega), if_neg (by omega)]; decide
          generalize cmpZ (Y * Y) N = C at *
          have hE := E2.out q
          have HE : Hid _ := hE
          clear hE E1 E2 q hd7 hdr7 hd8
          go_wp2
          go_roundw
          case rel => exact ⟨t, _, X, rfl, by omega, by go_num, hDx7, HE.out.1, HE.out.2, hbel7⟩
          case measure => simp [intOf]


theorem rootZ_bad {a : Int} (h : rootBad a = true) : rootZ a = 9221120237041090560 := by unfold rootZ; rw [if_pos h]
theorem rootZ_self {a : Int} (h : rootBad a = false) (h2 : mag a = 9218868437227405312 ∨ mag a = 0) : rootZ a = a := by
  unfold rootZ
  rw [h]
  rcases h2 with k | k
  · rw [inf_inf k]; simp only [Bool.true_or, Bool.false_eq_true, if_false, if_true]
  · rw [decide_eq_true k]; simp only [Bool.or_true, Bool.false_eq_true, if_false, if_true]
theorem rootZ_fin {a : Int} (hm : mag a < 9218868437227405312) (h0 : mag a ≠ 0) (hb : belowB a = false) : rootZ a = (rootR (MZ a) : Nat) := by
  unfold rootZ rootBad
  rw [fin_nan hm, hb, fin_inf hm, decide_eq_false h0]
  generalize rootR (MZ a) = R
  simp
theorem rootZ_u64 {a : Int} (ha : U64 a) : U64 (rootZ a) := by
  unfold rootZ
  split
  · exact ⟨by decide, by decide⟩
  · split
    · exact ha
    · have : rootR (MZ a) ≤ 9218868437227405312 := rung_le _ _
      generalize rootR (MZ a) = R at *
      unfold U64; omega

set_option maxHeartbeats 2000000 in
theorem refSqrt_any (a : Int) (w : World) (ha : U64 a) :
    Calls Try.prog 20 #[.int .u64 a] w fun e w' => e = .returned (.int .u64 (rootZ a)) ∧ Below w.heap.size w w' := by
  by_cases fin : mag a < 9218868437227405312 ∧ mag a ≠ 0 ∧ belowB a = false
  · obtain ⟨ka, za, ba⟩ := fin
    obtain ⟨a1, a2⟩ := kind_lt3 ha ka
    obtain ⟨f, f1, f2, f3, f4, f5⟩ := parts_fin ha ka
    obtain ⟨c, hc⟩ : ∃ c : Nat, (pexp a % 2 = 0 ∧ c = 128) ∨ (pexp a % 2 = 1 ∧ c = 129) := by
      rcases (show pexp a % 2 = 0 ∨ pexp a % 2 = 1 by omega) with k | k
      · exact ⟨128, Or.inl ⟨k, rfl⟩⟩
      · exact ⟨129, Or.inr ⟨k, rfl⟩⟩
    have k := refSqrt_fin a (pexp a) f c w ha a1 a2 (kind_z0 za) ba rfl f1 f2 (fin_pos ha ka za f5) f3 f4 hc
    rw [f5, ← rootZ_fin ka za ba] at k
    exact k
  · obtain ⟨R, hR⟩ : ∃ R, R = rootZ a := ⟨_, rfl⟩
    rw [← hR]
    have HN1 : Hid (∀ w, _) := fun w => refNeg_any a w ha
    have HN : Hid (∀ w, R = 9221120237041090560 → Calls Try.prog 22 #[] w fun e w' => e = .returned (.int .u64 R) ∧ w' = w) := by
      intro w h2; rw [h2]; exact refNan_any w
    have cs : (kindZ a = 4 ∧ R = 9221120237041090560) ∨ (((kindZ a == 4) = false ∧ (kindZ a != 0) = true) ∧ belowB a = true ∧ R = 9221120237041090560) ∨ (kindZ a = 0 ∧ R = a) ∨ (kindZ a = 3 ∧ belowB a = false ∧ R = a) := by
      rw [hR]
      rcases kindsZ a with ka | ka | ka
      · by_cases za : mag a = 0
        · exact Or.inr (Or.inr (Or.inl ⟨kind_zero0 za, rootZ_self (by unfold rootBad; rw [fin_nan ka, decide_eq_false (show ¬ mag a ≠ 0 by omega)]; simp) (Or.inr za)⟩))
        · have bt : belowB a = true := by
            cases hb : belowB a
            · exact absurd ⟨ka, za, hb⟩ fin
            · rfl
          exact Or.inr (Or.inl ⟨⟨(kind_lt3 ha ka).1, by rw [bne, kind_z0 za]; rfl⟩, bt, rootZ_bad (by unfold rootBad; rw [bt, decide_eq_true za]; simp)⟩)
      · cases hb : belowB a
        · exact Or.inr (Or.inr (Or.inr ⟨kind_inf ka, rfl, rootZ_self (by unfold rootBad; rw [inf_nan ka, hb]; rfl) (Or.inl ka)⟩))
        · exact Or.inr (Or.inl ⟨⟨by rw [kind_inf ka]; decide, by rw [kind_inf ka]; decide⟩, rfl, rootZ_bad (by unfold rootBad; rw [hb, decide_eq_true (show mag a ≠ 0 by omega)]; simp)⟩)
      · exact Or.inl ⟨kind_nan4 ka, rootZ_bad (by unfold rootBad; rw [nan_nan ka]; rfl)⟩
    clear hR fin
    rcases cs with ⟨c1, r⟩ | ⟨⟨c1, c2⟩, c3, r⟩ | ⟨c1, r⟩ | ⟨c1, c2, r⟩
    · have Hr : Hid _ := r
      clear r
      go_enter Try.func20, Try.ntmps20
      go_wp2_with (first | (go_at_call 16; refine (refKind_any _ _ (by assumption)).mono ?_; rintro e w' ⟨rfl, rfl⟩) | (go_at_call 18; refine (HN1.out _).mono ?_; rintro e w' ⟨rfl, rfl⟩) | (go_at_call 22; refine (HN.out _ Hr.out).mono ?_; rintro e w' ⟨rfl, rfl⟩))
      go_ret
      exact ⟨rfl, Below.refl _ _⟩
    · have Hr : Hid _ := r
      clear r
      go_enter Try.func20, Try.ntmps20
      go_wp2_with (first | (go_at_call 16; refine (refKind_any _ _ (by assumption)).mono ?_; rintro e w' ⟨rfl, rfl⟩) | (go_at_call 18; refine (HN1.out _).mono ?_; rintro e w' ⟨rfl, rfl⟩) | (go_at_call 22; refine (HN.out _ Hr.out).mono ?_; rintro e w' ⟨rfl, rfl⟩))
      go_ret
      exact ⟨rfl, Below.refl _ _⟩
    · subst r
      clear HN
      cases hb : belowB R
      all_goals
        go_enter Try.func20, Try.ntmps20
        go_wp2_with (first | (go_at_call 16; refine (refKind_any _ _ (by assumption)).mono ?_; rintro e w' ⟨rfl, rfl⟩) | (go_at_call 18; refine (HN1.out _).mono ?_; rintro e w' ⟨rfl, rfl⟩))
        go_ret
        exact ⟨rfl, Below.refl _ _⟩
    · subst r
      clear HN
      go_enter Try.func20, Try.ntmps20
      go_wp2_with (first | (go_at_call 16; refine (refKind_any _ _ (by assumption)).mono ?_; rintro e w' ⟨rfl, rfl⟩) | (go_at_call 18; refine (HN1.out _).mono ?_; rintro e w' ⟨rfl, rfl⟩))
      go_ret
      exact ⟨rfl, Below.refl _ _⟩

end Go.Proofs.Ytpgjibfggagbmaa
