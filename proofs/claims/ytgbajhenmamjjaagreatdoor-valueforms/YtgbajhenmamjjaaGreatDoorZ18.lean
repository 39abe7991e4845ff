/-
  Ps2
-/
import Derived.Test.YtgbajhenmamjjaaGreatDoorZ17

/-
  The landed shortest, walked for any number.
-/
namespace Go.Proofs.YtgbajhenmamjjaaGreatDoor
set_option maxRecDepth 100000
open Go.RowKit Pt

set_option maxHeartbeats 4000000 in
theorem shortest_dg (exp : Int) (f l a c n K up down bl : Nat) (ed : Bool) (DS : List Nat) (w : World) (hf : f < 18446744073709551616) (h1 : -1074 ≤ exp) (h2 : exp ≤ 971) (hbl : (bl = 1 ∧ f = 4503599627370496 ∧ -1074 < exp) ∨ (bl = 2 ∧ ¬ (f = 4503599627370496 ∧ -1074 < exp))) (HE : Hid (((f : Int) % 2 == 0) = ed))
    (hl : Lib.bitLen f = l) (hl2 : l ≤ 64) (hu : (up : Int) = max (exp - 2) 0) (hd : (down : Int) = max (-(exp - 2)) 0) (place : Int) (hpl : place = (exp + l - 1) * 1233 / 4096 - 1) (ha : (a : Int) = max (-place) 0) (hc : (c : Int) = max place 0) (hn : n ≤ 1000) (hK : K ≤ 100000)
    (HK : Hid (f * 2 ^ (up + 2) * 10 ^ a < 2 ^ K ∧ bl * 2 ^ up * 10 ^ a < 2 ^ K ∧ 2 * 2 ^ up * 10 ^ a < 2 ^ K ∧ 1 * 2 ^ down * 10 ^ c < 2 ^ K ∧ 1 * 2 ^ down * 10 ^ c * 10 ^ n * 10 < 2 ^ K))
    (HN : Hid (f * 2 ^ (up + 2) * 10 ^ a < 10 * (1 * 2 ^ down * 10 ^ c * 10 ^ n) ∧ ∀ j, j < n → 10 * (1 * 2 ^ down * 10 ^ c * 10 ^ j) ≤ f * 2 ^ (up + 2) * 10 ^ a))
    (D0 : Nat) (HD0 : Hid (DS[0]? = some D0)) (hD0 : D0 ≤ 9) (HDS : Hid (∀ j, DS.getD j 0 ≤ 9)) (hDSl : 0 < DS.length) (hDSm : DS.length ≤ 100) (HD : Hid (digF (1 * 2 ^ down * 10 ^ c * 10 ^ n) ed 20 (f * 2 ^ (up + 2) * 10 ^ a) (bl * 2 ^ up * 10 ^ a) (2 * 2 ^ up * 10 ^ a) = some DS)) :
    Calls Tryz.prog 32 #[.int .i64 exp, .int .u64 f] w fun e w' => e = .returned (.tuple #[.string (Txt.bs (dtx DS)), .int .i64 (place + n)]) ∧ Below w.heap.size w w' := by
  have HP : Hid (f * 2 ^ (up + 2) < 2 ^ (64 + (up + 2)) ∧ 1 * 2 ^ down < 2 ^ (1 + down) ∧ bl * 2 ^ up < 2 ^ (2 + up) ∧ 2 * 2 ^ up < 2 ^ (2 + up)) := by
    have hb4 : bl < 2 ^ 2 := by omega
    refine ⟨by rw [Nat.pow_add 2 64]; exact Nat.mul_lt_mul_of_pos_right (by omega) (Nat.two_pow_pos _), by rw [Nat.pow_add 2 1]; exact Nat.mul_lt_mul_of_pos_right (by decide) (Nat.two_pow_pos down), by rw [Nat.pow_add 2 2]; exact Nat.mul_lt_mul_of_pos_right hb4 (Nat.two_pow_pos up), by rw [Nat.pow_add 2 2]; exact Nat.mul_lt_mul_of_pos_right (by decide) (Nat.two_pow_pos up)⟩
  have HR : Hid (∀ w, Calls Tryz.prog 41 #[.int .i64 exp, .int .u64 f] w fun e w' => ∃ g0 g1 g2 g3 v0 v1 v2 v3, e = .returned (.agg #[v0, v1, v2, v3, .bool ed]) ∧ PR w' g0 v0 (f * 2 ^ (up + 2)) ∧ PR w' g1 v1 (1 * 2 ^ down) ∧ PR w' g2 v2 (bl * 2 ^ up) ∧ PR w' g3 v3 (2 * 2 ^ up) ∧ (g0 < g1 ∧ g1 < g2 ∧ g2 < g3 ∧ w.heap.size < g0) ∧ Below w.heap.size w w') := fun w =>
    roomOf_any exp f up down bl ed w hf (by omega) (by omega) hbl HE hu hd HP
  have HL : Hid (∀ w, Calls Tryz.prog 43 #[.int .i64 exp, .int .u64 f] w fun e w' => e = .returned (.int .i64 place) ∧ w' = w) := fun w => by rw [hpl]; exact least_any exp f l w hf hl hl2 (by omega) (by omega)
  have hpb : -1000 ≤ place ∧ place ≤ 1000 := by omega
  obtain ⟨hp1, hp2⟩ := hpb
  clear hpl
  go_enter Tryz.func32, Tryz.ntmps32
  go_wp2_with fail
  refine (HR.out _).mono ?_
  rintro e w1 ⟨g0, g1, g2, g3, v0, v1, v2, v3, rfl, p0, p1, p2, p3, hord, hb1'⟩
  obtain ⟨l0, q0, rfl, _⟩ := p0.form
  obtain ⟨l1, q1, rfl, _⟩ := p1.form
  obtain ⟨l2, q2, rfl, _⟩ := p2.form
  obtain ⟨l3, q3, rfl, _⟩ := p3.form
  go_wp2_with fail
  refine (HL.out _).mono ?_
  rintro e w' ⟨rfl, rfl⟩
  go_wp2_with fail
  obtain ⟨wB, hwB⟩ : ∃ wB, wB = w1.alloc (.cells #[.slice (some ⟨g0, 0, none⟩) l0 q0, .slice (some ⟨g1, 0, none⟩) l1 q1, .slice (some ⟨g2, 0, none⟩) l2 q2, .slice (some ⟨g3, 0, none⟩) l3 q3, .bool ed] 61) := ⟨_, rfl⟩
  obtain ⟨br, hbr⟩ : ∃ br, br = w1.heap.size := ⟨_, rfl⟩
  have hBB : Below w1.heap.size w1 wB := by rw [hwB]; exact (Below.refl _ _).alloc (Nat.le_refl _) _
  have sz1 := hb1'.size
  have szB : wB.heap.size = w1.heap.size + 1 := by rw [hwB]; simp
  have s0 := p0.lt
  have s1 := p1.lt
  have s2 := p2.lt
  have s3 := p3.lt
  have hM : RM wB br g0 g1 g2 g3 (.slice (some ⟨g0, 0, none⟩) l0 q0) (.slice (some ⟨g1, 0, none⟩) l1 q1) (.slice (some ⟨g2, 0, none⟩) l2 q2) (.slice (some ⟨g3, 0, none⟩) l3 q3) (f * 2 ^ (up + 2)) (1 * 2 ^ down) (bl * 2 ^ up) (2 * 2 ^ up) ed := by
    refine ⟨?_, ?_, ?_, ?_, ?_, ?_, p0.below hBB s0, p1.below hBB s1, p2.below hBB s2, p3.below hBB s3⟩
    · rw [hwB, hbr]; simp
    · rw [hwB, hbr]; simp
    · rw [hwB, hbr]; simp
    · rw [hwB, hbr]; simp
    · rw [hwB, hbr]; simp
    · intro i; rw [hwB, hbr]; simp
  have hS : Sep wB (br :: w.heap.size :: g0 :: g1 :: g2 :: g3 :: []) := by
    refine ⟨?_, ?_⟩
    · simp only [List.nodup_cons, List.mem_cons, not_or, List.not_mem_nil]
      refine ⟨⟨by omega, by omega, by omega, by omega, by omega, by simp⟩, ⟨by omega, by omega, by omega, by omega, by simp⟩, ⟨by omega, by omega, by omega, by simp⟩, ⟨by omega, by omega, by simp⟩, ⟨by omega, by simp⟩, by simp, by simp⟩
    · intro x hx
      simp only [List.mem_cons, List.not_mem_nil, or_false] at hx
      omega
  rw [← hwB, ← hbr]
  have hbelB : Below w.heap.size w wB := hb1'.trans (hBB.mono sz1)
  have hord2 : w.heap.size ≤ br ∧ w.heap.size ≤ g0 ∧ w.heap.size ≤ g1 ∧ w.heap.size ≤ g2 ∧ w.heap.size ≤ g3 := by omega
  clear hwB hbr hBB p0 p1 p2 p3
  refine (scale_any br w.heap.size g0 g1 g2 g3 (f * 2 ^ (up + 2)) (1 * 2 ^ down) (bl * 2 ^ up) (2 * 2 ^ up) n a c K w.heap.size _ _ _ _ ed place wB hM hS hord2 (by omega) (by omega) (by omega) ha hc hn hK HK (by have := Nat.two_pow_pos down; omega) HN).mono ?_
  rintro e w2 ⟨rfl, h0, h1', h2', h3, u0, u1, u2, u3, hM2, hS2, hbel2, hg0, hg1, hg2, hg3⟩
  go_wp2_with fail
  refine (digits_any2 br h0 h1' h2' h3 _ _ _ _ 20 K w.heap.size u0 u1 u2 u3 ed DS w2 hM2 HD.out HN.out.1 (by omega) hK (under_le HK.out.2.2.2.2 (Nat.le_refl _)) HK.out.2.1 HK.out.2.2.1 (sep_five hS2) ⟨hord2.1, hg0, hg1, hg2, hg3⟩ (hS2.2 br (by simp))).mono ?_
  rintro e w3 ⟨v3', rfl, hrow, hbel3⟩
  have hlen : 0 < DS.length := hDSl
  obtain ⟨gd, cd, rfl, hgd, hgl⟩ := hrow.form hlen
  have hcm : DS.length ≤ cd ∧ cd ≤ 9223372036854775807 := by
    rcases hrow.2 with ⟨q, _⟩ | ⟨_, _, _, e, _, _, r1, r2, _⟩
    · simp at q
    · simp at e
      unfold maxLen at r2
      omega
  have hc0 : w3.cell? ⟨gd, 0, none⟩ = some (.int .u8 (D0 : Int)) := by
    rw [hrow.cellAt 0 (by omega)]
    unfold c8
    rw [List.getElem?_map, HD0.out]; rfl
  clear hM hS hM2 hS2
  have hbel4 : Below w.heap.size w w3 := hbelB.trans (hbel2.trans hbel3)
  obtain ⟨m, hm⟩ : ∃ m, m = DS.length := ⟨_, rfl⟩
  have HM : Hid (m = DS.length) := hm
  rw [← hm] at hrow hlen hcm hDSm ⊢
  clear hm hDSl HK HN HD HP
  go_wp2_with fail
  go_loopw [26] (fun t wr => ∃ (k : Nat) (rs : List Nat), k ≤ m ∧ t = .int .i64 k ∧ rs.length = m ∧ wr.ownsRow w.heap.size 5 1 (.slice (some ⟨gd, 0, none⟩) m cd) m (c8 rs) ∧ Hid (∀ j, j < k → rs.getD j 0 = DS.getD j 0 + 48) ∧ Hid (∀ j, k ≤ j → rs.getD j 0 = DS.getD j 0) ∧ Below w.heap.size w wr) (fun t _ => m - (intOf t).toNat)
  case atStart => exact ⟨0, DS, Nat.zero_le _, rfl, HM.out.symm, hrow, fun j hj => by omega, fun j _ => rfl, hbel4⟩
  case round =>
    obtain ⟨k, rs, hk, rfl, hrl, hr, HA, HB', hbr'⟩ := hrel
    have HRL : Hid (rs.length = m) := hrl
    by_cases c' : k < m
    · have hd9 := HDS.out k
      have hcell : wr.cell? ⟨gd, k, none⟩ = some (.int .u8 (DS.getD k 0 : Nat)) := by
        rw [hr.cellAt k (by omega), c8_get rs k (by omega), HB'.out k (Nat.le_refl _)]
      have hfr := hr.frozenAt k
      obtain ⟨d, hd'⟩ : ∃ d, d = DS.getD k 0 := ⟨_, rfl⟩
      rw [← hd'] at hd9 hcell
      have HDK : Hid (d = DS.getD k 0) := hd'
      have hst := (hr.stored k (.int .u8 ((d + 48 : Nat) : Int))).1
      rw [c8_set] at hst
      clear hd' hrl
      go_wp2
      go_roundw
      case rel =>
        refine ⟨k + 1, rs.set k (d + 48), by omega, by go_num, by rw [List.length_set]; exact HRL.out, hst, ?_, ?_, hbr'.setCell (p := ⟨gd, k, none⟩) hgd _⟩
        · intro j hj
          by_cases e : j = k
          · subst e; rw [getD_set_same _ _ _ (by rw [HRL.out]; exact c'), HDK.out]
          · rw [pget_set (by omega)]; exact HA.out j (by omega)
        · intro j hj
          rw [pget_set (by omega)]; exact HB'.out j (by omega)
      case measure => simp [intOf]; omega
    · have hke : k = m := by omega
      have hL : (dtx DS).length = m := by unfold dtx; rw [List.length_map]; exact HM.out.symm
      have hcv : (convert 65 9 (.slice (some ⟨gd, 0, none⟩) m cd)).run Tryz.prog wr = .ok (.string (Txt.bs (dtx DS))) wr := by
        have := run_convert_bytes_back (P := Tryz.prog) wr 65 9 5 ⟨gd, 0, none⟩ cd (dtx DS) Tryz.underlying65 Tryz.underlying5 Tryz.underlying9 (by
          intro j hj
          have hjl : j < DS.length := by have := HM.out; omega
          refine hr.cells (g := gd) rfl j _ ?_
          rw [c8_get rs j (by omega), HA.out j (by omega), dtx_get DS j hj (HDS.out j)])
        rw [hL] at this
        exact this
      go_wp2
      go_ret2
      exact ⟨rfl, hbr'⟩


set_option maxHeartbeats 4000000 in
theorem shortest_ten (exp : Int) (f l a c n K up down bl : Nat) (ed : Bool) (w : World) (hf : f < 18446744073709551616) (h1 : -1074 ≤ exp) (h2 : exp ≤ 971) (hbl : (bl = 1 ∧ f = 4503599627370496 ∧ -1074 < exp) ∨ (bl = 2 ∧ ¬ (f = 4503599627370496 ∧ -1074 < exp))) (HE : Hid (((f : Int) % 2 == 0) = ed))
    (hl : Lib.bitLen f = l) (hl2 : l ≤ 64) (hu : (up : Int) = max (exp - 2) 0) (hd : (down : Int) = max (-(exp - 2)) 0) (place : Int) (hpl : place = (exp + l - 1) * 1233 / 4096 - 1) (ha : (a : Int) = max (-place) 0) (hc : (c : Int) = max place 0) (hn : n ≤ 1000) (hK : K ≤ 100000)
    (HK : Hid (f * 2 ^ (up + 2) * 10 ^ a < 2 ^ K ∧ bl * 2 ^ up * 10 ^ a < 2 ^ K ∧ 2 * 2 ^ up * 10 ^ a < 2 ^ K ∧ 1 * 2 ^ down * 10 ^ c < 2 ^ K ∧ 1 * 2 ^ down * 10 ^ c * 10 ^ n * 10 < 2 ^ K))
    (HN : Hid (f * 2 ^ (up + 2) * 10 ^ a < 10 * (1 * 2 ^ down * 10 ^ c * 10 ^ n) ∧ ∀ j, j < n → 10 * (1 * 2 ^ down * 10 ^ c * 10 ^ j) ≤ f * 2 ^ (up + 2) * 10 ^ a))
    (HD : Hid (digF (1 * 2 ^ down * 10 ^ c * 10 ^ n) ed 20 (f * 2 ^ (up + 2) * 10 ^ a) (bl * 2 ^ up * 10 ^ a) (2 * 2 ^ up * 10 ^ a) = some [10])) :
    Calls Tryz.prog 32 #[.int .i64 exp, .int .u64 f] w fun e w' => e = .returned (.tuple #[.string (Txt.bs [49]), .int .i64 (place + n + 1)]) ∧ Below w.heap.size w w' := by
  have HP : Hid (f * 2 ^ (up + 2) < 2 ^ (64 + (up + 2)) ∧ 1 * 2 ^ down < 2 ^ (1 + down) ∧ bl * 2 ^ up < 2 ^ (2 + up) ∧ 2 * 2 ^ up < 2 ^ (2 + up)) := by
    have hb4 : bl < 2 ^ 2 := by omega
    refine ⟨by rw [Nat.pow_add 2 64]; exact Nat.mul_lt_mul_of_pos_right (by omega) (Nat.two_pow_pos _), by rw [Nat.pow_add 2 1]; exact Nat.mul_lt_mul_of_pos_right (by decide) (Nat.two_pow_pos down), by rw [Nat.pow_add 2 2]; exact Nat.mul_lt_mul_of_pos_right hb4 (Nat.two_pow_pos up), by rw [Nat.pow_add 2 2]; exact Nat.mul_lt_mul_of_pos_right (by decide) (Nat.two_pow_pos up)⟩
  have HR : Hid (∀ w, Calls Tryz.prog 41 #[.int .i64 exp, .int .u64 f] w fun e w' => ∃ g0 g1 g2 g3 v0 v1 v2 v3, e = .returned (.agg #[v0, v1, v2, v3, .bool ed]) ∧ PR w' g0 v0 (f * 2 ^ (up + 2)) ∧ PR w' g1 v1 (1 * 2 ^ down) ∧ PR w' g2 v2 (bl * 2 ^ up) ∧ PR w' g3 v3 (2 * 2 ^ up) ∧ (g0 < g1 ∧ g1 < g2 ∧ g2 < g3 ∧ w.heap.size < g0) ∧ Below w.heap.size w w') := fun w =>
    roomOf_any exp f up down bl ed w hf (by omega) (by omega) hbl HE hu hd HP
  have HL : Hid (∀ w, Calls Tryz.prog 43 #[.int .i64 exp, .int .u64 f] w fun e w' => e = .returned (.int .i64 place) ∧ w' = w) := fun w => by rw [hpl]; exact least_any exp f l w hf hl hl2 (by omega) (by omega)
  have hpb : -1000 ≤ place ∧ place ≤ 1000 := by omega
  obtain ⟨hp1, hp2⟩ := hpb
  clear hpl
  go_enter Tryz.func32, Tryz.ntmps32
  go_wp2_with fail
  refine (HR.out _).mono ?_
  rintro e w1 ⟨g0, g1, g2, g3, v0, v1, v2, v3, rfl, p0, p1, p2, p3, hord, hb1'⟩
  obtain ⟨l0, q0, rfl, _⟩ := p0.form
  obtain ⟨l1, q1, rfl, _⟩ := p1.form
  obtain ⟨l2, q2, rfl, _⟩ := p2.form
  obtain ⟨l3, q3, rfl, _⟩ := p3.form
  go_wp2_with fail
  refine (HL.out _).mono ?_
  rintro e w' ⟨rfl, rfl⟩
  go_wp2_with fail
  obtain ⟨wB, hwB⟩ : ∃ wB, wB = w1.alloc (.cells #[.slice (some ⟨g0, 0, none⟩) l0 q0, .slice (some ⟨g1, 0, none⟩) l1 q1, .slice (some ⟨g2, 0, none⟩) l2 q2, .slice (some ⟨g3, 0, none⟩) l3 q3, .bool ed] 61) := ⟨_, rfl⟩
  obtain ⟨br, hbr⟩ : ∃ br, br = w1.heap.size := ⟨_, rfl⟩
  have hBB : Below w1.heap.size w1 wB := by rw [hwB]; exact (Below.refl _ _).alloc (Nat.le_refl _) _
  have sz1 := hb1'.size
  have szB : wB.heap.size = w1.heap.size + 1 := by rw [hwB]; simp
  have s0 := p0.lt
  have s1 := p1.lt
  have s2 := p2.lt
  have s3 := p3.lt
  have hM : RM wB br g0 g1 g2 g3 (.slice (some ⟨g0, 0, none⟩) l0 q0) (.slice (some ⟨g1, 0, none⟩) l1 q1) (.slice (some ⟨g2, 0, none⟩) l2 q2) (.slice (some ⟨g3, 0, none⟩) l3 q3) (f * 2 ^ (up + 2)) (1 * 2 ^ down) (bl * 2 ^ up) (2 * 2 ^ up) ed := by
    refine ⟨?_, ?_, ?_, ?_, ?_, ?_, p0.below hBB s0, p1.below hBB s1, p2.below hBB s2, p3.below hBB s3⟩
    · rw [hwB, hbr]; simp
    · rw [hwB, hbr]; simp
    · rw [hwB, hbr]; simp
    · rw [hwB, hbr]; simp
    · rw [hwB, hbr]; simp
    · intro i; rw [hwB, hbr]; simp
  have hS : Sep wB (br :: w.heap.size :: g0 :: g1 :: g2 :: g3 :: []) := by
    refine ⟨?_, ?_⟩
    · simp only [List.nodup_cons, List.mem_cons, not_or, List.not_mem_nil]
      refine ⟨⟨by omega, by omega, by omega, by omega, by omega, by simp⟩, ⟨by omega, by omega, by omega, by omega, by simp⟩, ⟨by omega, by omega, by omega, by simp⟩, ⟨by omega, by omega, by simp⟩, ⟨by omega, by simp⟩, by simp, by simp⟩
    · intro x hx
      simp only [List.mem_cons, List.not_mem_nil, or_false] at hx
      omega
  rw [← hwB, ← hbr]
  have hbelB : Below w.heap.size w wB := hb1'.trans (hBB.mono sz1)
  have hord2 : w.heap.size ≤ br ∧ w.heap.size ≤ g0 ∧ w.heap.size ≤ g1 ∧ w.heap.size ≤ g2 ∧ w.heap.size ≤ g3 := by omega
  clear hwB hbr hBB p0 p1 p2 p3
  refine (scale_any br w.heap.size g0 g1 g2 g3 (f * 2 ^ (up + 2)) (1 * 2 ^ down) (bl * 2 ^ up) (2 * 2 ^ up) n a c K w.heap.size _ _ _ _ ed place wB hM hS hord2 (by omega) (by omega) (by omega) ha hc hn hK HK (by have := Nat.two_pow_pos down; omega) HN).mono ?_
  rintro e w2 ⟨rfl, h0, h1', h2', h3, u0, u1, u2, u3, hM2, hS2, hbel2, hg0, hg1, hg2, hg3⟩
  go_wp2_with fail
  refine (digits_any2 br h0 h1' h2' h3 _ _ _ _ 20 K w.heap.size u0 u1 u2 u3 ed [10] w2 hM2 HD.out HN.out.1 (by omega) hK (under_le HK.out.2.2.2.2 (Nat.le_refl _)) HK.out.2.1 HK.out.2.2.1 (sep_five hS2) ⟨hord2.1, hg0, hg1, hg2, hg3⟩ (hS2.2 br (by simp))).mono ?_
  rintro e w3 ⟨v3', rfl, hrow, hbel3⟩
  obtain ⟨gd, cd, rfl, hgd, hgl⟩ := hrow.form (by decide : 0 < [10].length)
  have hcm : 1 ≤ cd ∧ cd ≤ 9223372036854775807 := by
    rcases hrow.2 with ⟨q, _⟩ | ⟨_, _, _, e, _, _, r1, r2, _⟩
    · simp at q
    · simp at e
      unfold maxLen at r2
      simp at r1
      omega
  have hc0 : w3.cell? ⟨gd, 0, none⟩ = some (.int .u8 10) := by
    rw [hrow.cellAt 0 (by decide)]
    rfl
  clear hM hS hM2 hS2
  have HB4 : Hid (Below w.heap.size w w3) := hbelB.trans (hbel2.trans hbel3)
  clear HK HN HD HP hrow
  go_wp2
  go_ret2
  exact ⟨rfl, HB4.out⟩

end Go.Proofs.YtgbajhenmamjjaaGreatDoor
