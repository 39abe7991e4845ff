/-
  DecNear2
-/
import Derived.Test.YtfhoimfjfbbhaaaDoorZ10

/-
  The landed nearest and Parse, walked: the rung nearest to what a numeral says.
-/
namespace Go.Proofs.YtfhoimfjfbbhaaaDoor
set_option maxRecDepth 100000
open Go.RowKit Pt Flo Txt

/-- The exponents between which something is left. -/
def tc (x : Int) : Int := min (max x (-800)) 400
theorem dec_clamp {D : Nat} {x : Int} (h0 : D ≠ 0) (hD : D < 10 ^ DG) : decN D (tc x) = decN D x := by
  unfold tc
  by_cases c1 : x ≤ -800
  · rw [show min (max x (-800)) 400 = -800 by omega, dec_tiny hD c1, dec_tiny hD (by omega)]
  · by_cases c2 : 400 ≤ x
    · rw [show min (max x (-800)) 400 = 400 by omega, dec_huge h0 c2, dec_huge h0 (by omega)]
    · rw [show min (max x (-800)) 400 = x by omega]
theorem dec_held {D : Nat} {x E : Int} (hD : D < 10 ^ DG) (h : Held x E) : decN D x = decN D E := by
  by_cases h0 : D = 0
  · subst h0; rw [decN_zero, decN_zero]
  · rcases h with h | h | h
    · rw [h]
    · rw [dec_huge h0 (by omega), dec_huge h0 (by omega)]
    · rw [dec_tiny hD (by omega), dec_tiny hD (by omega)]
theorem decN_parts {D a b : Nat} {t : Int} (ha : (a : Int) = max t 0) (hb : (b : Int) = max (-t) 0) : nearR (D * 10 ^ a) (1 * 10 ^ b) = decN D t := by
  unfold decN
  by_cases c : 0 ≤ t
  · rw [if_pos c, show b = 0 by omega, show t.toNat = a by omega]
  · rw [if_neg c, show a = 0 by omega, show (-t).toNat = b by omega, Nat.pow_zero, Nat.mul_one, Nat.one_mul]
theorem times_dig (c : Int) (m : Nat) (hm : c = (m : Int)) (v : Value) (g n K : Nat) (w : World) (hR : PR w g v n) (hn : n < 2 ^ K) (hK : K ≤ 1000000) (hm2 : m < 10) :
    Calls Tryd.prog 37 #[v, .int .u32 10, .int .u32 c] w fun e w' => ∃ v' g', e = .returned v' ∧ PR w' g' v' (n * 10 + m) ∧ Mv w w' g g' := by
  subst hm
  exact timesAnd_mv v g n 10 m K w hR hn hK (by decide) (by decide) (by omega)
theorem timesTens_at (x : Int) (c : Nat) (hx : x = (c : Int)) (v : Value) (g n K : Nat) (w : World) (hR : PR w g v n) (hn : n * 10 ^ c < 2 ^ K) (hK : K ≤ 1000000) (hc : c ≤ 1000000) :
    Calls Tryd.prog 39 #[v, .int .i64 x] w fun e w' => ∃ v' g', e = .returned v' ∧ PR w' g' v' (n * 10 ^ c) ∧ Mv w w' g g' := by
  subst hx; exact timesTens_any v g n c K w hR hn hK hc
theorem ten_bound {N a K : Nat} (h : N < 10 ^ K) : N * 10 ^ a < 2 ^ (4 * (K + a)) := by
  refine Nat.lt_of_lt_of_le (Nat.mul_lt_mul_of_pos_right h (Nat.pow_pos (by decide))) ?_
  rw [← Nat.pow_add]; exact pow_ten_lt _

set_option maxHeartbeats 4000000 in
theorem nearest_gen (s : ByteArray) (F : Nat → Nat) (V : Nat) (x : Int) (w : World) (hx1 : -41000 ≤ x) (hx2 : x ≤ 41000) (hn : s.size ≤ 400)
    (HG : Hid (∀ k (h : k < s.size), (48 ≤ (s[k].toNat : Int) ∧ (s[k].toNat : Int) ≤ 57) ∧ F (k + 1) = F k * 10 + (s[k].toNat - 48)))
    (HN : Hid (F s.size = V)) (HF0 : Hid (F 0 = 0)) (HB : Hid (∀ k, k ≤ s.size → F k < 10 ^ DG)) :
    Calls Tryd.prog 33 #[.agg #[.string s, .int .i64 x]] w fun e w' => e = .returned (.int .u64 (decN V x : Nat)) ∧ Below w.heap.size w w' := by
  have hDG := DG_eq
  obtain ⟨a, ha⟩ : ∃ a : Nat, (a : Int) = max (tc x) 0 := ⟨(max (tc x) 0).toNat, by omega⟩
  obtain ⟨b, hb⟩ : ∃ b : Nat, (b : Int) = max (-(tc x)) 0 := ⟨(max (-(tc x)) 0).toNat, by omega⟩
  have HR : Hid (V ≠ 0 → V < 10 ^ DG → nearR (V * 10 ^ a) (1 * 10 ^ b) = decN V x) := fun h0 h1 => by rw [decN_parts ha hb, dec_clamp h0 h1]
  have ha2 : a ≤ 400 := by unfold tc at ha; omega
  have hb2 : b ≤ 800 := by unfold tc at hb; omega
  have HAB : Hid ((a : Int) = max (min (max x (-800)) 400) 0 ∧ (b : Int) = max (-(min (max x (-800)) 400)) 0) := ⟨ha, hb⟩
  clear ha hb
  obtain ⟨w1, hw1⟩ : ∃ w1, w1 = w.alloc (.cells #[.string s, .int .i64 x] 52) := ⟨_, rfl⟩
  go_enter Tryd.func33, Tryd.ntmps33
  go_wp2_with fail
  refine (partsOf_any 1 _ (by decide)).mono ?_
  rintro e w2 ⟨v1, rfl, hU, hb2'⟩
  have hsz1 : w1.heap.size = w.heap.size + 1 := by rw [hw1]; simp
  rw [← hw1] at hU hb2'
  have hsz2 : (w1.alloc (.cells #[] 64)).heap.size = w.heap.size + 2 := by simp [hsz1]
  rw [hsz2] at hU hb2'
  have hT := (pr_empty w1).below hb2' (by omega)
  rw [hsz1] at hT
  have hbw : Below (w.heap.size + 1) w1 w2 := ((Below.refl _ _).alloc (by omega) _).trans (hb2'.mono (by omega))
  have hc0 : w1.cell? ⟨w.heap.size, 0, none⟩ = some (.string s) := by rw [hw1]; simp
  have hc1 : w1.cell? ⟨w.heap.size, 1, none⟩ = some (.int .i64 x) := by rw [hw1]; simp
  have hbw1 : Below w.heap.size w w1 := by rw [hw1]; exact (Below.refl _ _).alloc (Nat.le_refl _) _
  obtain ⟨gu, hgu⟩ : ∃ gu, gu = w.heap.size + 2 := ⟨_, rfl⟩
  rw [← hgu] at hU
  have hcz0 : w2.cell? ⟨w.heap.size, 0, none⟩ = some (.string s) := by rw [hbw.cell (by show w.heap.size < _; omega)]; exact hc0
  have hsz3 : w.heap.size + 2 ≤ w2.heap.size := by have := hb2'.size; omega
  clear hb2' hsz2
  go_wp2_with fail
  go_loopw [3, 12] (fun t3 t12 wr => ∃ (k N gt : Nat), k ≤ s.size ∧ t12 = .int .i64 k ∧ PR wr gt t3 N ∧ Hid (N = F k) ∧ PR wr gu v1 1 ∧ gu ≠ gt ∧ Below (w.heap.size + 1) w1 wr ∧ w.heap.size + 1 ≤ gt ∧ w.heap.size + 1 ≤ wr.heap.size) (fun _ t12 _ => s.size - (intOf t12).toNat)
  case atStart => exact ⟨0, 0, w.heap.size + 1, Nat.zero_le _, rfl, hT, HF0.out.symm, hU, by omega, hbw, Nat.le_refl _, by omega⟩
  case round =>
    obtain ⟨k, N, gt, hk, rfl, hRr, HI, hUr, hne, hbr, hgt, hsr⟩ := hrel
    have hcr0 : wr.cell? ⟨w.heap.size, 0, none⟩ = some (.string s) := by rw [hbr.cell (by show w.heap.size < _; omega)]; exact hc0
    have hcr1 : wr.cell? ⟨w.heap.size, 1, none⟩ = some (.int .i64 x) := by rw [hbr.cell (by show w.heap.size < _; omega)]; exact hc1
    have HNB : Hid (N < 10 ^ DG) := by have := HB.out k hk; rw [← HI.out] at this; exact this
    by_cases hlt : k < s.size
    · obtain ⟨⟨g1, g2⟩, g3⟩ := HG.out k hlt
      obtain ⟨d, hd⟩ : ∃ d : Nat, d = s[k].toNat - 48 := ⟨_, rfl⟩
      have HS : Hid (N * 10 + d = F (k + 1)) := by show _ = _; rw [g3, HI.out, hd]
      have HK : Hid (N < 2 ^ (4 * (DG + 0))) := by have := ten_bound (a := 0) HNB.out; rw [Nat.pow_zero, Nat.mul_one] at this; exact this
      clear g3
      go_wp2_with fail
      refine (times_dig _ d (by omega) _ gt N _ _ hRr HK.out (by omega) (by omega)).mono ?_
      rintro e w3 ⟨v3, g3, rfl, hR3, hm3⟩
      have hU3 := hm3.pr hUr hne
      have hne3 := hm3.ne hUr.lt hne
      have hb3 := hbr.trans (hm3.below hsr hgt)
      go_wp2
      go_roundw
      case rel => exact ⟨k + 1, N * 10 + d, g3, by omega, by go_num, hR3, HS, hU3, hne3, hb3, hm3.ge hsr hgt, by have := hb3.size; omega⟩
      case measure => simp [intOf]; omega
    · have hke : k = s.size := by omega
      have HV : Hid (N = V) := by have := HI.out; rw [hke, HN.out] at this; exact this
      obtain ⟨l, cap, hform, hl, hlc, hcm⟩ := hRr.form
      by_cases cN : N = 0
      · have l0 : l = 0 := hl.2 cN
        subst l0
        have HZ : Hid (decN V x = 0) := by show _ = _; rw [← HV.out, cN]; exact decN_zero x
        clear hl
        rw [hform]
        go_wp2
        go_ret
        exact ⟨ret_u64 (by rw [HZ.out]; rfl), hbw1.trans (hbr.mono (by omega))⟩
      · have l0 : 0 < l := by
          rcases Nat.eq_zero_or_pos l with c | c
          · exact absurd (hl.1 c) cN
          · exact c
        have hlz : ((l : Int) == 0) = false := by rw [beq_eq_false_iff_ne]; omega
        have HT1 : Hid (∀ y : Int, y = (a : Int) → Calls Tryd.prog 39 #[.slice (some ⟨gt, 0, none⟩) l cap, .int .i64 y] wr fun e w' => ∃ v' g', e = .returned v' ∧ PR w' g' v' (N * 10 ^ a) ∧ Mv wr w' gt g') := fun y hy => timesTens_at y a hy _ gt N (4 * (DG + a)) wr (by rw [← hform]; exact hRr) (ten_bound HNB.out) (by omega) (by omega)
        have HT2 : Hid (∀ w3, PR w3 gu v1 1 → ∀ y : Int, y = (b : Int) → Calls Tryd.prog 39 #[v1, .int .i64 y] w3 fun e w' => ∃ v' g', e = .returned v' ∧ PR w' g' v' (1 * 10 ^ b) ∧ Mv w3 w' gu g') := fun w3 h y hy => timesTens_at y b hy _ gu 1 (4 * (1 + b)) w3 h (ten_bound (K := 1) (by decide)) (by omega) (by omega)
        have HB1 : Hid (N * 10 ^ a < 2 ^ (4 * (DG + 800)) ∧ 1 * 10 ^ b < 2 ^ (4 * (DG + 800)) ∧ N * 10 ^ a ≠ 0 ∧ 1 * 10 ^ b ≠ 0) := by
          have p1 : 0 < 10 ^ a := Nat.pow_pos (by decide)
          have p2 : 0 < 10 ^ b := Nat.pow_pos (by decide)
          refine ⟨Nat.lt_of_lt_of_le (ten_bound HNB.out) (Nat.pow_le_pow_right (by decide) (by omega)), Nat.lt_of_lt_of_le (ten_bound (K := 1) (by decide)) (Nat.pow_le_pow_right (by decide) (by omega)), Nat.mul_ne_zero cN (by omega), by omega⟩
        have HF : Hid (nearR (N * 10 ^ a) (1 * 10 ^ b) = decN V x) := by
          have := HR.out (by rw [← HV.out]; exact cN) (by rw [← HV.out]; exact HNB.out)
          rw [← HV.out] at this ⊢
          exact this
        have hcs : x < -800 ∨ x = -800 ∨ (-800 < x ∧ x < 0) ∨ x = 0 ∨ (0 < x ∧ x < 400) ∨ x = 400 ∨ 400 < x := by omega
        clear hl hlt
        rw [hform]
        rcases hcs with q1 | q1 | ⟨q1, q2⟩ | q1 | ⟨q1, q2⟩ | q1 | q1
        all_goals
          go_wp2_with fail
          refine (HT1.out _ (by have := HAB.out; omega)).mono ?_
          rintro e w3 ⟨v3, g3, rfl, hR3, hm3⟩
          have hU3 := hm3.pr hUr hne
          have hne3 := hm3.ne hUr.lt hne
          have hb3 := hm3.below hsr hgt
          have hs3 : w.heap.size + 1 ≤ w3.heap.size := by have := hb3.size; omega
          go_wp2_with fail
          refine (HT2.out _ hU3 _ (by have := HAB.out; omega)).mono ?_
          rintro e w4 ⟨v4, g4, rfl, hR4, hm4⟩
          have hT4 := hm4.pr hR3 hne3.symm
          have hne4 := hm4.ne hR3.lt hne3.symm
          have hb4 := hm4.below hs3 (by omega)
          have hs4 : w.heap.size + 1 ≤ w4.heap.size := by have := hb4.size; omega
          go_wp2_with fail
          refine (quotient_any _ _ g3 g4 _ _ (4 * (DG + 800)) (w.heap.size + 1) _ hT4 hR4 hne4.symm HB1.out.2.2.1 HB1.out.2.2.2 HB1.out.1 HB1.out.2.1 (by omega) hs4 (hm3.ge hsr hgt) (hm4.ge hs3 (by omega))).mono ?_
          rintro e w5 ⟨rfl, hb5⟩
          go_wp2
          go_ret
          exact ⟨ret_u64 (by rw [← HF.out, Nat.one_mul]), hbw1.trans ((((hbr.trans hb3).trans hb4).trans hb5).mono (by omega))⟩

end Go.Proofs.YtfhoimfjfbbhaaaDoor
