/-
  Rp4
-/
import Derived.Deep.DeepCutAuto
import Derived.Test.YtgbajhenmamjjaaGreatDoorZ23

/-
  The reference's Shortest, walked.
-/
namespace Go.Proofs.YtgbajhenmamjjaaGreatDoor
set_option maxRecDepth 100000
open Go.RowKit Txt Dg Flo

theorem dq_pos {q : Nat} (h : 1 ≤ q) : dq q = Lib.decDigits q := if_neg (by omega)
theorem dq_facts {q k : Nat} (h : 1 ≤ q) (hk : q ≤ 10 ^ k) : AllD (dq q) ∧ (dq q).length ≤ k + 1 ∧ dv (dq q) 0 = q ∧ 1 ≤ (dq q).length := by
  rw [dq_pos h]
  obtain ⟨s1, s2, s3⟩ := dec_spec q
  have hl : (Lib.decDigits q).length ≤ k + 1 := (dec_length (k + 1) q (by omega)).2 (by rw [Nat.pow_succ]; have := ten_pos k; omega)
  refine ⟨s2, hl, s1, ?_⟩
  have : (Lib.decDigits q).length ≠ 0 := fun e => s3 (List.length_eq_zero_iff.1 e)
  omega
theorem blen_ex {f d ex ey : Nat} (hf : f < 9007199254740992) (hd : d ≤ 2045) (hx : (ex : Int) = max ((d : Int) - 1074) 0) (hy : (ey : Int) = max (-((d : Int) - 1074)) 0) : blen (f * 2 ^ ex) ≤ 1200 ∧ blen (2 ^ ey) ≤ 1200 := by
  constructor
  · refine Nat.le_trans (blen_le (k := 53 + ex) ?_) (by omega)
    rw [Nat.pow_add]
    exact Nat.mul_lt_mul_of_pos_right hf (Nat.two_pow_pos _)
  · refine Nat.le_trans (blen_le (k := ey + 1) (Nat.pow_lt_pow_right (by decide) (by omega))) (by omega)

set_option maxHeartbeats 8000000 in
theorem refShortest_any (A : Int) {f d up down x c n m Q : Nat} {place : Int} (h : Pm f d up down x c n m Q place) (w : World) (ha : U64 A) (h1 : pexp A = (d : Int) - 1074) (h2 : pfrac A = (f : Int)) (h3 : A = ((d * 4503599627370496 + f : Nat) : Int)) :
    Calls Tryz.prog 35 #[.int .u64 A] w fun e w' => e = .returned (.tuple #[.string (bs (tQ Q)), .int .i64 (eQ (place + n) m Q)]) ∧ Below w.heap.size w w' := by
  have hf1 := h.f1
  have hd1 := h.d1
  obtain ⟨ex, hx⟩ : ∃ u : Nat, (u : Int) = max ((d : Int) - 1074) 0 := ⟨(max ((d : Int) - 1074) 0).toNat, by omega⟩
  obtain ⟨ey, hy⟩ : ∃ u : Nat, (u : Int) = max (-((d : Int) - 1074)) 0 := ⟨(max (-((d : Int) - 1074)) 0).toNat, by omega⟩
  have HF := fixed_any A f d ex ey w ha h1 h2 hf1 hd1 hx hy
  have HP : Hid (∀ e, 2 ^ ey * 10 ^ e.toNat ≤ f * 2 ^ ex * 10 ^ (-e).toNat ↔ e ≤ place + n) := pm_least h hx hy
  have hpl := pm_place h
  obtain ⟨bl1, bl2⟩ := blen_ex hf1 hd1 hx hy
  have hm16 := h.m16
  have hyp : 0 < 2 ^ ey := Nat.two_pow_pos ey
  have HSt : Hid (∀ (i : Nat) (k : Int), k = (i : Int) - (place + n) → ∀ (q r y : Nat), q = f * 2 ^ ex * 10 ^ k.toNat / (2 ^ ey * 10 ^ (-k).toNat) → r = f * 2 ^ ex * 10 ^ k.toNat % (2 ^ ey * 10 ^ (-k).toNat) → y = 2 ^ ey * 10 ^ (-k).toNat →
      ∀ lo hi : Bool, lo = decide (decN q (-k) = d * 4503599627370496 + f) → hi = (decide (r ≠ 0) && decide (decN (q + 1) (-k) = d * 4503599627370496 + f)) →
      ((i < m → (if (lo && (!hi || decide (r * 2 < y) || (decide (r * 2 = y) && decide (q % 2 = 0)))) = true then some q else if hi = true then some (q + 1) else none) = none) ∧
       (i = m → (if (lo && (!hi || decide (r * 2 < y) || (decide (r * 2 = y) && decide (q % 2 = 0)))) = true then some q else if hi = true then some (q + 1) else none) = some Q)) ∧ 1 ≤ q ∧ q + 1 ≤ 10 ^ (i + 1)) := by
    intro i k hk q r y hq hr hyy lo hi hlo hhi
    obtain ⟨s1, s2, s3⟩ := pm_step h hx hy i k hk q r y hq hr hyy lo hi hlo hhi
    refine ⟨⟨fun hi' => ?_, fun hi' => ?_⟩, s2, s3⟩
    · rw [← s1]; exact h.go i hi'
    · rw [← s1, hi']; exact h.at'
  have HA : Hid (A = ((d * 4503599627370496 + f : Nat) : Int)) := h3
  have HQ : Hid (∀ q : Nat, q = Q → 1 ≤ q → bs (trimL (dq q)) = bs (tQ Q)) := by
    rintro q rfl hq
    rw [dq_pos hq]; rfl
  have HEQ : Hid (eQ (place + n) m Q = (place + n) + if 10 ^ (m + 1) ≤ Q then 1 else 0) := rfl
  generalize eQ (place + n) m Q = EQ at *
  generalize place + (n : Int) = P at *
  clear h h1 h2 h3 hx hy ha
  generalize hX : f * 2 ^ ex = X at *
  generalize hY : 2 ^ ey = Y at *
  clear hX hY
  obtain ⟨bx, hbx⟩ : ∃ b, blen X = b := ⟨_, rfl⟩
  obtain ⟨bly, hby⟩ : ∃ b, blen Y = b := ⟨_, rfl⟩
  rw [hbx] at bl1
  rw [hby] at bl2
  go_enter Tryz.func35, Tryz.ntmps35
  go_wp2_with fail
  refine HF.mono ?_
  rintro e w1 ⟨v1, v2, l1, l2, rfl, dx, dy, hl1, hl2, hb1⟩
  clear HF
  go_wp2_with fail
  refine (power_any v1 v2 X Y l1 l2 P w1 dx dy hl1 hl2 HP hpl.1 hpl.2 bx bly hbx hby bl1 bl2).mono ?_
  rintro e w2 ⟨rfl, hb2⟩
  have hB2 := hb1.trans (hb2.mono hb1.size)
  have dx2 := dx.below hb2
  have dy2 := dy.below hb2
  clear dx dy hb1 hb2 hbx hby bl1 bl2 HP
  go_wp2_with fail
  go_loopw [7] (fun t wr => ∃ i : Nat, i ≤ m ∧ t = .int .i64 ((i : Int) + 1) ∧ Below w2.heap.size w2 wr) (fun t _ => (20 - intOf t).toNat)
  case atStart => exact ⟨0, Nat.zero_le _, rfl, Below.refl _ _⟩
  case round =>
    obtain ⟨i, him, rfl, hbr⟩ := hrel
    obtain ⟨k, hk⟩ : ∃ k : Int, k = (i : Int) - P := ⟨_, rfl⟩
    have HDo := digitsOf_any v1 v2 X Y l1 l2 i P k wr (dx2.below hbr) (dy2.below hbr) hl1 hl2 hyp hpl.1 hpl.2 (by omega) hk
    obtain ⟨q, hq⟩ : ∃ q, q = X * 10 ^ k.toNat / (Y * 10 ^ (-k).toNat) := ⟨_, rfl⟩
    obtain ⟨r, hr⟩ : ∃ r, r = X * 10 ^ k.toNat % (Y * 10 ^ (-k).toNat) := ⟨_, rfl⟩
    obtain ⟨y, hyy⟩ : ∃ y, y = Y * 10 ^ (-k).toNat := ⟨_, rfl⟩
    obtain ⟨lo, hlo⟩ : ∃ b, b = decide (decN q (-k) = d * 4503599627370496 + f) := ⟨_, rfl⟩
    obtain ⟨h0, hh0⟩ : ∃ b, b = decide (decN (q + 1) (-k) = d * 4503599627370496 + f) := ⟨_, rfl⟩
    obtain ⟨hi, hhi⟩ : ∃ b, b = (decide (r ≠ 0) && h0) := ⟨_, rfl⟩
    have HS := HSt.out i k hk q r y hq hr hyy lo hi hlo (by rw [hhi, hh0])
    obtain ⟨HS1, hq1, hq2⟩ := HS
    have HST : Hid ((i < m → (if (lo && (!hi || decide (r * 2 < y) || (decide (r * 2 = y) && decide (q % 2 = 0)))) = true then some q else if hi = true then some (q + 1) else none) = none) ∧
       (i = m → (if (lo && (!hi || decide (r * 2 < y) || (decide (r * 2 = y) && decide (q % 2 = 0)))) = true then some q else if hi = true then some (q + 1) else none) = some Q)) := HS1
    rw [← hq, ← hr, ← hyy] at HDo
    have Fq := dq_facts (k := i + 1) hq1 (by omega)
    have Fa := dq_facts (q := q + 1) (k := i + 1) (by omega) hq2
    have HLo : Hid ((((decN q (-k) : Nat) : Int) == A) = lo) := by
      show _ = _
      rw [hlo, HA.out, Bool.eq_iff_iff, beq_iff_eq, decide_eq_true_iff]; omega
    have HH0 : Hid ((((decN (q + 1) (-k) : Nat) : Int) == A) = h0) := by
      show _ = _
      rw [hh0, HA.out, Bool.eq_iff_iff, beq_iff_eq, decide_eq_true_iff]; omega
    have HKe : Hid (P - ((i : Int) + 1) + 1 = -k) := by show _ = _; omega
    have hkb : -11000 ≤ -k ∧ -k ≤ 11000 := by omega
    have HHI : Hid (hi = (decide (r ≠ 0) && h0)) := hhi
    have HNq : Hid (∀ w, Calls Tryz.prog 52 #[.agg #[.string (bs (dq q)), .int .i64 (-k)]] w fun e w' => e = .returned (.int .u64 (decN q (-k) : Nat)) ∧ Below w.heap.size w w') := fun w => by
      have := near_any (dq q) (-k) w Fq.1 (by omega) hkb.1 hkb.2
      rw [Fq.2.2.1] at this
      exact this
    have HNa : Hid (∀ w, Calls Tryz.prog 52 #[.agg #[.string (bs (dq (q + 1))), .int .i64 (-k)]] w fun e w' => e = .returned (.int .u64 (decN (q + 1) (-k) : Nat)) ∧ Below w.heap.size w w') := fun w => by
      have := near_any (dq (q + 1)) (-k) w Fa.1 (by omega) hkb.1 hkb.2
      rw [Fa.2.2.1] at this
      exact this
    have hdlq : dlen q ≤ 100 := dlen_ten (n := i + 1) (by omega) (by omega)
    have hdla : dlen (q + 1) ≤ 100 := dlen_ten (n := i + 1) hq2 (by omega)
    generalize hnk : -k = nk at *
    have hry : r < y := by rw [hr, hyy]; exact Nat.mod_lt _ (Nat.mul_pos hyp (ten_pos _))
    clear hq hr hyy hlo hh0 hhi HS1 hk hnk
    generalize decN q nk = Nq at *
    generalize decN (q + 1) nk = Na at *
    go_wp2_with fail
    refine HDo.mono ?_
    rintro e w3 ⟨vq, vr, vy, ly, rfl, dq3, dr3, dy3, hly, hb3⟩
    clear HDo
    have HB3 : Hid (Below w2.heap.size w2 w3) := hbr.trans (hb3.mono hbr.size)
    have hone := D_one w3 1 (by decide)
    have hbo : Below w3.heap.size w3 (w3.alloc (.cells #[.int .u64 1] 22)) := (Below.refl _ _).alloc (Nat.le_refl _) _
    have HSm := sum_new vq (.slice (some ⟨w3.heap.size, 0, none⟩) 1 1) q (dlen q) 1 1 _ (dq3.below hbo) hone (by omega) (by decide)
    go_wp2_with fail
    refine HSm.mono ?_
    rintro e w4 ⟨va, rfl, da4, hb4, _⟩
    have hB34 : Below w3.heap.size w3 w4 := hbo.trans (hb4.mono hbo.size)
    have dq4 := dq3.below hB34
    have dr4 := dr3.below hB34
    have dy4 := dy3.below hB34
    have HB4 : Hid (Below w2.heap.size w2 w4) := HB3.out.trans (hB34.mono HB3.out.size)
    clear HSm hb4 hbo hone dq3 dr3 dy3 hB34 hb3
    go_wp2_with fail
    refine (numeral_any vq q w4 dq4 (by omega) (by omega)).mono ?_
    rintro e w5 ⟨rfl, hb5⟩
    have hz5 := hb5
    go_wp2_with fail
    rw [HKe.out]
    refine (HNq.out _).mono ?_
    rintro e w6 ⟨rfl, hb6⟩
    have hB46 := hb5.trans (hb6.mono hb5.size)
    have hLo := HLo.out
    have dq6 := dq4.below hB46
    have da6 := da4.below hB46
    have dr6 := dr4.below hB46
    have dy6 := dy4.below hB46
    have HB6 : Hid (Below w2.heap.size w2 w6) := HB4.out.trans (hB46.mono HB4.out.size)
    obtain ⟨gr, capr, hvr, hgr, hcr1, hcr2, _⟩ := dr6.shape
    subst hvr
    unfold maxLen at hcr2
    clear hb5 hb6 hB46 hz5 dq4 da4 dr4 dy4 HB4 HB3 hbr
    go_upto_region 8 with fail
    go_cut [13] from 24 to 102 (fun t wc => t = .bool hi ∧ Hid (Below w6.heap.size w6 wc))
    case first =>
      by_cases hr0 : r = 0
      · have hdl : dlen r = 0 := by rw [hr0]; rfl
        have HH : Hid (false = hi) := by show _ = _; rw [HHI.out, decide_eq_false (by simpa using hr0)]; rfl
        clear HST HHI dr6 hr0
        go_wp2_with fail
        go_meet
        exact ⟨by rw [← HH.out], Below.refl _ _⟩
      · have hdl := dlen_ne hr0
        have hhi : h0 = hi := by rw [HHI.out, decide_eq_true hr0, Bool.true_and]
        have hH0 := HH0.out
        rw [hhi] at hH0
        clear hhi HST HHI dr6
        go_wp2_with fail
        refine (numeral_any va (q + 1) w6 da6 (by omega) (by omega)).mono ?_
        rintro e w7 ⟨rfl, hb7⟩
        go_wp2_with fail
        rw [HKe.out]
        refine (HNa.out _).mono ?_
        rintro e w8 ⟨rfl, hb8⟩
        have HB8 : Hid (Below w6.heap.size w6 w8) := hb7.trans (hb8.mono hb7.size)
        clear hb7 hb8
        go_wp2_with fail
        go_meet
        exact ⟨rfl, HB8.out⟩
    case rest =>
      obtain ⟨rfl, HBc⟩ := hcut
      have dqc := dq6.below HBc.out
      have dac := da6.below HBc.out
      have drc := dr6.below HBc.out
      have dyc := dy6.below HBc.out
      have HB2c : Hid (Below w2.heap.size w2 wc) := HB6.out.trans (HBc.out.mono HB6.out.size)
      have hdlr : dlen r ≤ 2000 := by
        have h5 := dlen_mono (n := r) (m := y) (by omega)
        have h6 := dlen_le dyc.lt
        omega
      clear dq6 da6 dr6 dy6 HB6 HBc HHI HH0 HLo hLo hcr1
      go_wp2_with fail
      refine (up_any _ r (dlen r) 1 wc drc (by omega) (by decide)).mono ?_
      rintro e wd ⟨v2r, rfl, d2r, hbd⟩
      rw [Nat.pow_one] at d2r
      have hdl2 : dlen (r * 2) ≤ 536870912 := by
        have h7 : r * 2 < 65536 ^ (ly + 1) := by
          have := dyc.lt
          rw [Nat.pow_succ]; omega
        exact Nat.le_trans (dlen_le h7) (by omega)
      go_wp2_with fail
      refine (cmp_any v2r vy (r * 2) _ y ly wd d2r (dyc.below hbd) hdl2 (by omega)).mono ?_
      rintro e we ⟨rfl, hwe⟩
      have dqe := dqc.below hbd
      have dae := dac.below hbd
      rw [← hwe] at dqe dae
      have HBe : Hid (Below w2.heap.size w2 we) := by rw [hwe]; exact HB2c.out.trans (hbd.mono HB2c.out.size)
      obtain ⟨z, hz⟩ : ∃ z, cmpZ (r * 2) y = z := ⟨_, rfl⟩
      rw [hz]
      have hzl := cmp_neg (r * 2) y
      have hze := cmp_zero (r * 2) y
      rw [hz] at hzl hze
      have hzb : -1 ≤ z ∧ z ≤ 1 := by rw [← hz]; unfold cmpZ; split; omega; split <;> omega
      have HDB : Hid (D we vq q (dlen q)) := dqe
      clear dqc dac drc dyc HB2c hbd d2r hwe hz
      cases lo
      · cases hi
        · have him2 : i < m := by
            have h5 := HST.out
            rcases Nat.lt_or_ge i m with e | e
            · exact e
            · have hem : i = m := by omega
              have := h5.2 hem
              simp at this
          clear HST
          go_wp2
          go_roundw
          case rel => exact ⟨i + 1, by omega, by go_num, HBe.out⟩
          case measure => simp [intOf]; omega
        · have hiq : i = m ∧ q + 1 = Q := by
            have h5 := HST.out
            have hne : ¬ i < m := fun e => by have := h5.1 e; simp [Bool.false_and] at this
            have hem : i = m := by omega
            have := h5.2 hem
            simp [Bool.false_and] at this
            exact ⟨hem, this⟩
          have HTx := HQ.out (q + 1) hiq.2 (by omega)
          have HTr := trimT_any (dq (q + 1))
          have HDa : Hid (D we va (q + 1) (dlen (q + 1))) := dae
          have hsz : (bs (dq (q + 1))).size = (dq (q + 1)).length := bs_size _
          have HLn : Hid ((dq (q + 1)).length ≤ i + 1 ↔ q + 1 < 10 ^ (i + 1)) := by
            rw [dq_pos (by omega)]; exact dec_length (i + 1) (q + 1) (by omega)
          have HE : Hid (EQ = P + if 10 ^ (i + 1) ≤ q + 1 then 1 else 0) := by
            show _ = _
            rw [HEQ.out, hiq.1, ← hiq.2]
          clear HST hiq dqe dae
          go_wp2_with fail
          refine (numeral_any va (q + 1) we HDa.out (by omega) (by omega)).mono ?_
          rintro e wf ⟨rfl, hbf⟩
          have HB : Hid (Below w.heap.size w wf) := hB2.trans ((HBe.out.trans (hbf.mono HBe.out.size)).mono hB2.size)
          clear hbf
          by_cases hlen : (dq (q + 1)).length ≤ i + 1
          · have hle : ¬ ((i : Int) + 1 < ((dq (q + 1)).length : Int)) := by omega
            have HE2 : Hid (P = EQ) := by
              show _ = _
              rw [HE.out, if_neg (by have := HLn.out.1 hlen; omega), Int.add_zero]
            clear HE HLn hlen
            generalize hdd : (dq (q + 1)).length = dl at *
            go_wp2_with fail
            refine (HTr wf (by omega) (by omega)).mono ?_
            rintro e w' ⟨rfl, hw⟩
            rw [hw]
            clear hw w'
            go_wp2
            go_ret2
            exact ⟨by rw [← HTx, ← HE2.out]; rfl, HB.out⟩
          · have hle : (i : Int) + 1 < ((dq (q + 1)).length : Int) := by omega
            have HE2 : Hid (P + 1 = EQ) := by
              show _ = _
              rw [HE.out, if_pos (by have := mt HLn.out.2 hlen; omega)]
            clear HE HLn hlen
            generalize hdd : (dq (q + 1)).length = dl at *
            go_wp2_with fail
            refine (HTr wf (by omega) (by omega)).mono ?_
            rintro e w' ⟨rfl, hw⟩
            rw [hw]
            clear hw w'
            go_wp2
            go_ret2
            exact ⟨by rw [← HTx, ← HE2.out]; rfl, HB.out⟩
      · cases hi
        · have hiq : i = m ∧ q = Q := by
            have h5 := HST.out
            have hne : ¬ i < m := fun e => by have := h5.1 e; simp at this
            have hem : i = m := by omega
            have := h5.2 hem
            simp at this
            exact ⟨hem, this⟩
          have HE : Hid (P = EQ) := by
            show _ = _
            rw [HEQ.out, if_neg (by rw [← hiq.1, ← hiq.2]; omega), Int.add_zero]
          have HTx := HQ.out q hiq.2 hq1
          have HTr := trimT_any (dq q)
          have HDq : Hid (D we vq q (dlen q)) := dqe
          clear HST hiq dqe dae
          go_wp2_with fail
          refine (numeral_any vq q we HDq.out (by omega) (by omega)).mono ?_
          rintro e wf ⟨rfl, hbf⟩
          go_wp2_with fail
          refine (HTr wf (by omega) (by omega)).mono ?_
          rintro e w' ⟨rfl, hw⟩
          rw [hw]
          have HB : Hid (Below w.heap.size w wf) := hB2.trans ((HBe.out.trans (hbf.mono HBe.out.size)).mono hB2.size)
          clear hw w' hbf
          go_wp2
          go_ret2
          exact ⟨by rw [← HTx, ← HE.out]; rfl, HB.out⟩
        · rcases Nat.lt_trichotomy (r * 2) y with t | t | t
          · rw [decide_eq_true (show r * 2 < y from t)] at hzl
            rw [decide_eq_false (show ¬ r * 2 = y by omega)] at hze
            have hz1 : z < 0 := by simpa using hzl
            have hiq : i = m ∧ q = Q := by
              have h5 := HST.out
              have hne : ¬ i < m := fun e => by have := h5.1 e; simp [t] at this
              have hem : i = m := by omega
              have := h5.2 hem
              simp [t] at this
              exact ⟨hem, this⟩
            have HE : Hid (P = EQ) := by
              show _ = _
              rw [HEQ.out, if_neg (by rw [← hiq.1, ← hiq.2]; omega), Int.add_zero]
            have HTx := HQ.out q hiq.2 hq1
            have HTr := trimT_any (dq q)
            have HDq : Hid (D we vq q (dlen q)) := dqe
            clear HST hiq dqe dae
            go_wp2_with fail
            refine (numeral_any vq q we HDq.out (by omega) (by omega)).mono ?_
            rintro e wf ⟨rfl, hbf⟩
            go_wp2_with fail
            refine (HTr wf (by omega) (by omega)).mono ?_
            rintro e w' ⟨rfl, hw⟩
            rw [hw]
            have HB : Hid (Below w.heap.size w wf) := hB2.trans ((HBe.out.trans (hbf.mono HBe.out.size)).mono hB2.size)
            clear hw w' hbf
            go_wp2
            go_ret2
            exact ⟨by rw [← HTx, ← HE.out]; rfl, HB.out⟩
          · rw [decide_eq_false (show ¬ r * 2 < y by omega)] at hzl
            rw [decide_eq_true (show r * 2 = y from t)] at hze
            have hz0 : z = 0 := by simpa using hze
            subst hz0
            rcases Nat.mod_two_eq_zero_or_one q with p | p
            · have hbit : q / 2 ^ (0 : Int).toNat % 2 = 0 := by show q / 1 % 2 = 0; rw [Nat.div_one]; exact p
              have hiq : i = m ∧ q = Q := by
                have h5 := HST.out
                have hne : ¬ i < m := fun e => by have := h5.1 e; simp [t, p] at this
                have hem : i = m := by omega
                have := h5.2 hem
                simp [t, p] at this
                exact ⟨hem, this⟩
              have HE : Hid (P = EQ) := by
                show _ = _
                rw [HEQ.out, if_neg (by rw [← hiq.1, ← hiq.2]; omega), Int.add_zero]
              have HTx := HQ.out q hiq.2 hq1
              have HTr := trimT_any (dq q)
              have HDq : Hid (D we vq q (dlen q)) := dqe
              clear HST hiq dqe dae
              go_wp2_with fail
              refine (bit_any vq q (dlen q) 0 we HDB.out (by decide) (by decide)).mono ?_
              rintro e w' ⟨rfl, hw⟩
              rw [hw, hbit]
              clear hw w'
              go_wp2_with fail
              refine (numeral_any vq q we HDq.out (by omega) (by omega)).mono ?_
              rintro e wf ⟨rfl, hbf⟩
              go_wp2_with fail
              refine (HTr wf (by omega) (by omega)).mono ?_
              rintro e w' ⟨rfl, hw⟩
              rw [hw]
              have HB : Hid (Below w.heap.size w wf) := hB2.trans ((HBe.out.trans (hbf.mono HBe.out.size)).mono hB2.size)
              clear hw w' hbf
              go_wp2
              go_ret2
              exact ⟨by rw [← HTx, ← HE.out]; rfl, HB.out⟩
            · have hbit : q / 2 ^ (0 : Int).toNat % 2 = 1 := by show q / 1 % 2 = 1; rw [Nat.div_one]; exact p
              have hiq : i = m ∧ q + 1 = Q := by
                have h5 := HST.out
                have hne : ¬ i < m := fun e => by have := h5.1 e; simp [t, p] at this
                have hem : i = m := by omega
                have := h5.2 hem
                simp [t, p] at this
                exact ⟨hem, this⟩
              have HTx := HQ.out (q + 1) hiq.2 (by omega)
              have HTr := trimT_any (dq (q + 1))
              have HDa : Hid (D we va (q + 1) (dlen (q + 1))) := dae
              have hsz : (bs (dq (q + 1))).size = (dq (q + 1)).length := bs_size _
              have HLn : Hid ((dq (q + 1)).length ≤ i + 1 ↔ q + 1 < 10 ^ (i + 1)) := by
                rw [dq_pos (by omega)]; exact dec_length (i + 1) (q + 1) (by omega)
              have HE : Hid (EQ = P + if 10 ^ (i + 1) ≤ q + 1 then 1 else 0) := by
                show _ = _
                rw [HEQ.out, hiq.1, ← hiq.2]
              clear HST hiq dqe dae
              go_wp2_with fail
              refine (bit_any vq q (dlen q) 0 we HDB.out (by decide) (by decide)).mono ?_
              rintro e w' ⟨rfl, hw⟩
              rw [hw, hbit]
              clear hw w'
              go_wp2_with fail
              refine (numeral_any va (q + 1) we HDa.out (by omega) (by omega)).mono ?_
              rintro e wf ⟨rfl, hbf⟩
              have HB : Hid (Below w.heap.size w wf) := hB2.trans ((HBe.out.trans (hbf.mono HBe.out.size)).mono hB2.size)
              clear hbf
              by_cases hlen : (dq (q + 1)).length ≤ i + 1
              · have hle : ¬ ((i : Int) + 1 < ((dq (q + 1)).length : Int)) := by omega
                have HE2 : Hid (P = EQ) := by
                  show _ = _
                  rw [HE.out, if_neg (by have := HLn.out.1 hlen; omega), Int.add_zero]
                clear HE HLn hlen
                generalize hdd : (dq (q + 1)).length = dl at *
                go_wp2_with fail
                refine (HTr wf (by omega) (by omega)).mono ?_
                rintro e w' ⟨rfl, hw⟩
                rw [hw]
                clear hw w'
                go_wp2
                go_ret2
                exact ⟨by rw [← HTx, ← HE2.out]; rfl, HB.out⟩
              · have hle : (i : Int) + 1 < ((dq (q + 1)).length : Int) := by omega
                have HE2 : Hid (P + 1 = EQ) := by
                  show _ = _
                  rw [HE.out, if_pos (by have := mt HLn.out.2 hlen; omega)]
                clear HE HLn hlen
                generalize hdd : (dq (q + 1)).length = dl at *
                go_wp2_with fail
                refine (HTr wf (by omega) (by omega)).mono ?_
                rintro e w' ⟨rfl, hw⟩
                rw [hw]
                clear hw w'
                go_wp2
                go_ret2
                exact ⟨by rw [← HTx, ← HE2.out]; rfl, HB.out⟩
          · rw [decide_eq_false (show ¬ r * 2 < y by omega)] at hzl
            rw [decide_eq_false (show ¬ r * 2 = y by omega)] at hze
            have hz1 : 0 < z := by
              have h5 : ¬ z < 0 := by simpa using hzl
              have h6 : ¬ z = 0 := by simpa using hze
              omega
            have hnt : ¬ r * 2 < y ∧ ¬ r * 2 = y := by omega
            have hiq : i = m ∧ q + 1 = Q := by
              have h5 := HST.out
              have hne : ¬ i < m := fun e => by have := h5.1 e; simp [hnt.1, hnt.2] at this
              have hem : i = m := by omega
              have := h5.2 hem
              simp [hnt.1, hnt.2] at this
              exact ⟨hem, this⟩
            have HTx := HQ.out (q + 1) hiq.2 (by omega)
            have HTr := trimT_any (dq (q + 1))
            have HDa : Hid (D we va (q + 1) (dlen (q + 1))) := dae
            have hsz : (bs (dq (q + 1))).size = (dq (q + 1)).length := bs_size _
            have HLn : Hid ((dq (q + 1)).length ≤ i + 1 ↔ q + 1 < 10 ^ (i + 1)) := by
              rw [dq_pos (by omega)]; exact dec_length (i + 1) (q + 1) (by omega)
            have HE : Hid (EQ = P + if 10 ^ (i + 1) ≤ q + 1 then 1 else 0) := by
              show _ = _
              rw [HEQ.out, hiq.1, ← hiq.2]
            clear HST hiq dqe dae
            go_wp2_with fail
            refine (numeral_any va (q + 1) we HDa.out (by omega) (by omega)).mono ?_
            rintro e wf ⟨rfl, hbf⟩
            have HB : Hid (Below w.heap.size w wf) := hB2.trans ((HBe.out.trans (hbf.mono HBe.out.size)).mono hB2.size)
            clear hbf
            by_cases hlen : (dq (q + 1)).length ≤ i + 1
            · have hle : ¬ ((i : Int) + 1 < ((dq (q + 1)).length : Int)) := by omega
              have HE2 : Hid (P = EQ) := by
                show _ = _
                rw [HE.out, if_neg (by have := HLn.out.1 hlen; omega), Int.add_zero]
              clear HE HLn hlen
              generalize hdd : (dq (q + 1)).length = dl at *
              go_wp2_with fail
              refine (HTr wf (by omega) (by omega)).mono ?_
              rintro e w' ⟨rfl, hw⟩
              rw [hw]
              clear hw w'
              go_wp2
              go_ret2
              exact ⟨by rw [← HTx, ← HE2.out]; rfl, HB.out⟩
            · have hle : (i : Int) + 1 < ((dq (q + 1)).length : Int) := by omega
              have HE2 : Hid (P + 1 = EQ) := by
                show _ = _
                rw [HE.out, if_pos (by have := mt HLn.out.2 hlen; omega)]
              clear HE HLn hlen
              generalize hdd : (dq (q + 1)).length = dl at *
              go_wp2_with fail
              refine (HTr wf (by omega) (by omega)).mono ?_
              rintro e w' ⟨rfl, hw⟩
              rw [hw]
              clear hw w'
              go_wp2
              go_ret2
              exact ⟨by rw [← HTx, ← HE2.out]; rfl, HB.out⟩

end Go.Proofs.YtgbajhenmamjjaaGreatDoor
