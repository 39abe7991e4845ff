/-
  The statement SumLoses.
-/
import Derived.Test.YtjfgijdojenjnaaSumRises
import Derived.Test.YtjfgijdojenjnaaSumRef2
namespace Go.Proofs.Ytjfgijdojenjnaa
open Go.RowKit Dg Flo

theorem kindv3 {a : Int} (hm : mag a < 9218868437227405312) (h0 : 0 ≤ mag a) : (kindZ a == 3) = false := by
  have := of_decide_eq_false (kindge_fin hm h0)
  rw [beq_eq_false_iff_ne]; omega
theorem add_mag {a b : Int} (fa : mag a < 9218868437227405312) (fb : mag b < 9218868437227405312) : mag (addZ a b) ≤ 9218868437227405312 := by
  rw [addZ_finite fa fb, (SV_near2 _ _).2]
  have := rung_le 0 (SV a + SV b).natAbs
  omega
theorem cmp_self (n : Nat) : cmpZ n n = 0 := by unfold cmpZ; rw [if_neg (by omega), if_pos rfl]

/-- Two ways to write one number. -/
theorem two_ways {n1 n2 : Bool} {N1 N2 i j c1 c2 c : Nat} {T : Int} (h1 : sz n1 (N1 * 2 ^ c1) = T) (h2 : sz n2 (N2 * 2 ^ c2) = T) (e1 : c1 = i + c) (e2 : c2 = j + c) :
    (N1 = 0 → N2 = 0) ∧ (N1 ≠ 0 → n1 = n2) ∧ N1 * 2 ^ i = N2 * 2 ^ j := by
  have p1 : 0 < 2 ^ c1 := Nat.two_pow_pos _
  have p2 : 0 < 2 ^ c2 := Nat.two_pow_pos _
  have a1 : N1 * 2 ^ c1 = T.natAbs := by rw [← h1, sz_abs]
  have a2 : N2 * 2 ^ c2 = T.natAbs := by rw [← h2, sz_abs]
  refine ⟨?_, ?_, ?_⟩
  · intro h
    rw [h, Nat.zero_mul] at a1
    rw [← a1] at a2
    rcases Nat.mul_eq_zero.1 a2 with k | k
    · exact k
    · omega
  · intro h
    have hz : N1 * 2 ^ c1 ≠ 0 := Nat.mul_ne_zero h (by omega)
    have hz2 : N2 * 2 ^ c2 ≠ 0 := by rw [a2, ← a1]; exact hz
    have q1 := sz_neg (s := n1) hz
    have q2 := sz_neg (s := n2) hz2
    rw [h1] at q1
    rw [h2] at q2
    rw [← q1, ← q2]
  · have : N1 * 2 ^ i * 2 ^ c = N2 * 2 ^ j * 2 ^ c := by
      rw [Nat.mul_assoc, ← Nat.pow_add, ← e1, Nat.mul_assoc, ← Nat.pow_add, ← e2, a1, a2]
    exact Nat.eq_of_mul_eq_mul_right (Nat.two_pow_pos c) this

theorem dlen_scaled {N l i : Nat} (h : N < 65536 ^ l) (hl : l ≤ 1048576) (hi : i ≤ 4096) : dlen (N * 2 ^ i) ≤ 1048832 := by
  rw [pow16] at h
  have := dlen_pow (k := l + 256) (scaled_lt (E := i) h) (by omega)
  omega

set_option maxHeartbeats 4000000 in
set_option maxRecDepth 100000 in
theorem loses_walk (a b p q s d r e g T : Int) (w : World) (ha : U64 a) (hb : U64 b) (ka : decide (3 ≤ kindZ a) = false) (kb : decide (3 ≤ kindZ b) = false)
    (hpq : (lessB (mag a) (mag b) = true ∧ p = b ∧ q = a) ∨ (lessB (mag a) (mag b) = false ∧ p = a ∧ q = b)) (hs : U64 s) (ks : (kindZ s == 3) = false)
    (A : Hid (∀ w, Calls Try.prog 9 #[.int .u64 p, .int .u64 q] w fun e w' => e = .returned (.int .u64 s) ∧ Below w.heap.size w w'))
    (S1 : Hid (∀ w, Calls Try.prog 11 #[.int .u64 s, .int .u64 p] w fun e w' => e = .returned (.int .u64 d) ∧ Below w.heap.size w w'))
    (S2 : Hid (∀ w, Calls Try.prog 11 #[.int .u64 q, .int .u64 d] w fun e w' => e = .returned (.int .u64 r) ∧ Below w.heap.size w w'))
    (e1 : -1074 ≤ e) (e2 : e ≤ 971) (g1 : -1074 ≤ g) (g2 : g ≤ 971)
    (E1 : Hid (∀ w, Calls Try.prog 20 #[.int .u64 p, .int .u64 q] w fun e' w' => ∃ (v : Value) (N l : Nat) (ng : Bool), e' = .returned (.tuple #[.bool ng, .int .i64 e, v]) ∧ D w' v N l ∧ l ≤ 1048576 ∧ Below w.heap.size w w' ∧ sz ng (N * 2 ^ (e + 1074).toNat) = T))
    (E2 : Hid (∀ w, Calls Try.prog 20 #[.int .u64 s, .int .u64 r] w fun e' w' => ∃ (v : Value) (N l : Nat) (ng : Bool), e' = .returned (.tuple #[.bool ng, .int .i64 g, v]) ∧ D w' v N l ∧ l ≤ 1048576 ∧ Below w.heap.size w w' ∧ sz ng (N * 2 ^ (g + 1074).toNat) = T)) :
    Calls Try.prog 6 #[.int .u64 a, .int .u64 b] w fun e w' => e = .returned (.bool true) ∧ Below w.heap.size w w' := by
  have n1 := andNot_sign a ha
  have n2 := andNot_sign b hb
  have HL : Hid (∀ w, _) := fun w => refLess_any (mag a) (mag b) w (mag_u64 ha) (mag_u64 hb)
  generalize mag a = ma at *
  generalize mag b = mb at *
  obtain ⟨low, hlow⟩ : ∃ low, low = min e g := ⟨_, rfl⟩
  obtain ⟨i, hi⟩ : ∃ i : Nat, e - low = (i : Int) := ⟨(e - low).toNat, by omega⟩
  obtain ⟨j, hj⟩ : ∃ j : Nat, g - low = (j : Int) := ⟨(g - low).toNat, by omega⟩
  have i1 : i ≤ 2045 := by omega
  have j1 : j ≤ 2045 := by omega
  have c1 : (e + 1074).toNat = i + (low + 1074).toNat := by omega
  have c2 : (g + 1074).toNat = j + (low + 1074).toNat := by omega
  have HI : Hid (e - low = (i : Int)) := hi
  have HJ : Hid (g - low = (j : Int)) := hj
  have C1 : Hid ((e + 1074).toNat = i + (low + 1074).toNat) := c1
  have C2 : Hid ((g + 1074).toNat = j + (low + 1074).toNat) := c2
  have cs : (g < e ∧ low = g) ∨ (¬ g < e ∧ low = e) := by omega
  clear hi hj c1 c2 hlow
  rcases hpq with ⟨hl, rfl, rfl⟩ | ⟨hl, rfl, rfl⟩
  all_goals
    rcases cs with ⟨c, rfl⟩ | ⟨c, rfl⟩
    all_goals
      go_enter Try.func6, Try.ntmps6
      go_wp2_with (go_at_call 18; refine (refKind_any _ _ (by assumption)).mono ?_; rintro e w' ⟨rfl, rfl⟩)
      refine (HL.out _).mono ?_
      rintro e' w' ⟨rfl, rfl⟩
      go_wp2_with fail
      refine (A.out _).mono ?_
      rintro e' w1 ⟨rfl, hb1⟩
      go_wp2_with fail
      refine (refKind_any _ _ hs).mono ?_
      rintro e' w1' ⟨rfl, hw'⟩
      rw [hw']
      clear hw' w1'
      go_wp2_with fail
      refine (S1.out _).mono ?_
      rintro e' w2 ⟨rfl, hb2⟩
      replace hb2 := hb1.trans (hb2.mono hb1.size)
      go_wp2_with fail
      refine (S2.out _).mono ?_
      rintro e' w3 ⟨rfl, hb3⟩
      replace hb3 := hb2.trans (hb3.mono hb2.size)
      go_wp2_with fail
      refine (E1.out _).mono ?_
      rintro e' w4 ⟨v1, N1, l1, ng1, rfl, hd1, hl1, hb4, hT1⟩
      replace hb4 := hb3.trans (hb4.mono hb3.size)
      have T1 : Hid _ := hT1
      clear hT1
      go_wp2_with fail
      refine (E2.out _).mono ?_
      rintro e' w5 ⟨v2, N2, l2, ng2, rfl, hd2, hl2, hb5, hT2⟩
      have T2 : Hid _ := hT2
      clear hT2
      have hd3 := hd1.below hb5
      replace hb5 := hb4.trans (hb5.mono hb4.size)
      have TW := two_ways T1.out T2.out C1.out C2.out
      have TH : Hid _ := TW
      clear TW hd1 hb1 hb2 hb3 hb4 T1 T2
      go_wp2_with fail
      refine (trim_any _ N1 l1 _ hd3 (by omega)).mono ?_
      rintro e' w6 ⟨v6, rfl, hd6, hb6⟩
      have hd4 := hd2.below hb6
      have hd5 := hd3.below hb6
      replace hb6 := hb5.trans (hb6.mono hb5.size)
      obtain ⟨g6, cap6, rfl, -, -, -, -⟩ := hd6.shape
      clear hd2 hd3 hb5 hd6
      by_cases hz : N1 = 0
      · have hz2 : N2 = 0 := (TH.out).1 hz
        have dz1 : dlen N1 = 0 := by rw [hz]; rfl
        clear TH
        rw [dz1]
        go_wp2_with fail
        refine (trim_any _ N2 l2 _ hd4 (by omega)).mono ?_
        rintro e' w7 ⟨v7, rfl, hd7, hb7⟩
        obtain ⟨g7, cap7, rfl, -, -, -, -⟩ := hd7.shape
        have dz2 : dlen N2 = 0 := by rw [hz2]; rfl
        rw [dz2]
        replace hb7 := hb6.trans (hb7.mono hb6.size)
        clear hd4 hd5 hd7 hb6 hz hz2 dz1 dz2
        go_wp2_with fail
        refine (sumLives_any _).mono ?_
        rintro e' w8 ⟨rfl, hb8⟩
        go_wp2
        go_ret
        exact ⟨rfl, hb7.trans (hb8.mono hb7.size)⟩
      · have dz1 : (((dlen N1 : Nat) : Int) == 0) = false := by
          rw [beq_eq_false_iff_ne]
          unfold dlen
          rw [if_neg hz]
          omega
        obtain rfl : ng1 = ng2 := (TH.out).2.1 hz
        have ht := (TH.out).2.2
        have s1 := dlen_scaled (i := i) hd5.lt hl1 (by omega)
        have s2 := dlen_scaled (i := j) hd4.lt hl2 (by omega)
        generalize dlen N1 = n1 at *
        have HT : Hid _ := ht
        have s1' : Hid _ := s1
        have s2' : Hid _ := s2
        clear TH hz ht s1 s2
        cases ng1
        all_goals
          go_wp2_with fail
          refine (up_nat _ N1 l1 i _ _ (by have := HI.out; omega) hd5 (by omega) (by omega)).mono ?_
          rintro e' w7 ⟨v7, rfl, hd7, hb7⟩
          have hd8 := hd4.below hb7
          replace hb7 := hb6.trans (hb7.mono hb6.size)
          go_wp2_with fail
          refine (up_nat _ N2 l2 j _ _ (by have := HJ.out; omega) hd8 (by omega) (by omega)).mono ?_
          rintro e' w8 ⟨v8, rfl, hd9, hb8⟩
          have hd10 := hd7.below hb8
          replace hb8 := hb7.trans (hb8.mono hb7.size)
          go_wp2_with fail
          refine (cmp_any _ _ _ _ _ _ _ hd10 hd9 (by have := s1'.out; omega) (by have := s2'.out; omega)).mono ?_
          rintro e' w9 ⟨rfl, hw9⟩
          rw [hw9, HT.out, cmp_self]
          clear hw9 w9
          clear hd4 hd5 hd7 hd8 hd9 hd10 hb7 hb6
          go_wp2_with fail
          refine (sumLives_any _).mono ?_
          rintro e' w10 ⟨rfl, hb10⟩
          go_wp2
          go_ret
          exact ⟨rfl, hb8.trans (hb10.mono hb8.size)⟩

end Go.Proofs.Ytjfgijdojenjnaa
