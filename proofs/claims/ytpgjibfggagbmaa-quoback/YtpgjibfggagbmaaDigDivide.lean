/-
  The reference's Divide: quotient and rest, bit by bit.
-/
import Derived.Test.YtpgjibfggagbmaaDigNew
namespace Go.Proofs.Ytpgjibfggagbmaa
open Go.RowKit Dg

theorem Row.below {w w' : World} {B N : Nat} {os : List Nat} (h : Row w B N os) (hb : Below w.heap.size w w') : Row w' B N os := by
  obtain ⟨h1, h2, h3⟩ := h
  refine ⟨h1, h2, h3.1, ?_⟩
  rcases h3.2 with hn | ⟨g, cap, cur, e, h0, hg, rest⟩
  · exact .inl hn
  · refine .inr ⟨g, cap, cur, e, h0, ?_, rest⟩
    rw [hb.block g (Array.getElem?_eq_some_iff.1 hg).1]
    exact hg
/-- A store into another block leaves digits as they were. -/
theorem D.stored {w : World} {v : Value} {n l B j : Nat} (h : D w v n l) (hf : Fresh (B + 1) v) (u : Value) : D (w.setCell ⟨B, j, none⟩ u) v n l := by
  obtain ⟨ds, g, cap, rfl, h2, h3, h4, h5⟩ := h
  refine ⟨ds, g, cap, rfl, h2, h3, h4, h5.1, ?_⟩
  have hg := hf g rfl
  rcases h5.2 with hn | ⟨g', cap', cur, e, h0, hg', rest⟩
  · exact .inl hn
  · refine .inr ⟨g', cap', cur, e, h0, ?_, rest⟩
    have : g' = g := by simp at e; exact e.1.symm
    subst this
    rw [Below.heap_setCell _ _ _ _ (by show g' ≠ B; omega)]
    exact hg'
theorem bit_split (N t : Nat) : N / 2 ^ t = 2 * (N / 2 ^ (t + 1)) + N / 2 ^ t % 2 := by
  rw [Nat.pow_succ, ← Nat.div_div_eq_div_mul]; omega
theorem or_bit {x r : Nat} (h : x % 2 ^ (r + 1) = 0) : x ||| 2 ^ r = x + 2 ^ r := nat_join (r + 1) x (2 ^ r) h (Nat.pow_lt_pow_right (by decide) (by omega))

/-- The digit that a quotient's next bit goes into. -/
theorem quo_digit {os : List Nat} {q t s r : Nat} (hs : Small16 os) (hv : val os = q * 2 ^ (t + 1)) (ht : t = 16 * s + r) (hr : r < 16) (hl : s < os.length) :
    os.getD s 0 ||| 2 ^ r = os.getD s 0 + 2 ^ r ∧ os.getD s 0 + 2 ^ r < 65536 ∧ val (os.set s (os.getD s 0 + 2 ^ r)) = (2 * q + 1) * 2 ^ t := by
  have e0 : os.getD s 0 = dig (val os) s := val_dig os s hs
  have e1 : 2 ^ (t + 1) = 65536 ^ s * 2 ^ (r + 1) := by rw [pow16, ← Nat.pow_add]; congr 1; omega
  have e2 : val os / 65536 ^ s = q * 2 ^ (r + 1) := by
    rw [hv, e1, show q * (65536 ^ s * 2 ^ (r + 1)) = (q * 2 ^ (r + 1)) * 65536 ^ s by grind, Nat.mul_div_cancel _ (Nat.pow_pos (by decide))]
  have e3 : os.getD s 0 % 2 ^ (r + 1) = 0 := by
    rw [e0]; unfold dig
    rw [e2]
    have : (65536 : Nat) = 2 ^ (r + 1) * 2 ^ (15 - r) := by rw [← Nat.pow_add, show r + 1 + (15 - r) = 16 by omega]
    rw [this, Nat.mod_mul_right_mod, Nat.mul_mod_left]
  have h16 : os.getD s 0 < 65536 := by rw [e0]; exact dig_lt _ _
  have e4 : os.getD s 0 + 2 ^ r < 65536 := by
    have : (65536 : Nat) = 2 ^ (r + 1) * 2 ^ (15 - r) := by rw [← Nat.pow_add, show r + 1 + (15 - r) = 16 by omega]
    have hd := Nat.div_add_mod (os.getD s 0) (2 ^ (r + 1))
    rw [e3, Nat.add_zero] at hd
    have hp := Nat.two_pow_pos r
    have e5 : 2 ^ (r + 1) = 2 * 2 ^ r := Nat.pow_succ'
    have hlt : os.getD s 0 / 2 ^ (r + 1) < 2 ^ (15 - r) := by
      rw [Nat.div_lt_iff_lt_mul (Nat.two_pow_pos _), Nat.mul_comm, ← this]; exact h16
    have := Nat.mul_le_mul_left (2 ^ (r + 1)) (show os.getD s 0 / 2 ^ (r + 1) + 1 ≤ 2 ^ (15 - r) by omega)
    rw [Nat.mul_add, Nat.mul_one] at this
    omega
  refine ⟨or_bit e3, e4, ?_⟩
  have h := val_set os s (os.getD s 0 + 2 ^ r) hl
  rw [Nat.add_mul] at h
  have e6 : 2 ^ r * 65536 ^ s = 2 ^ t := by rw [pow16, ← Nat.pow_add]; congr 1; omega
  have e7 : (2 * q + 1) * 2 ^ t = q * 2 ^ (t + 1) + 2 ^ t := by rw [Nat.pow_succ]; grind
  rw [e7, ← hv]
  omega

theorem div_low {q m R b t N V : Nat} (h : N = 2 * (q * m + R) + b) (hv : V = q * 2 ^ (t + 1)) : N = (2 * q) * m + (R * 2 ^ 1 + b) ∧ V = (2 * q) * 2 ^ t := by
  rw [h, hv, Nat.pow_succ]
  constructor <;> grind
theorem div_high {q m R b N : Nat} (h : N = 2 * (q * m + R) + b) (hm : m ≤ R * 2 ^ 1 + b) : N = (2 * q + 1) * m + (R * 2 ^ 1 + b - m) := by
  rw [h, Nat.add_mul, Nat.one_mul, Nat.mul_assoc]
  omega

set_option maxHeartbeats 4000000 in
theorem divide_any (v u : Value) (n la m lb : Nat) (w : World) (hD : D w v n la) (hE : D w u m lb) (hl : la ≤ 1048576) (hk : lb ≤ 1048576) (hm : 0 < m) :
    Calls Try.prog 28 #[v, u] w fun e w' => ∃ v1 v2, e = .returned (.tuple #[v1, v2]) ∧ D w' v1 (n / m) (dlen (n / m)) ∧ D w' v2 (n % m) (dlen (n % m)) ∧ Below w.heap.size w w' := by
  obtain ⟨i0, hi, hz0, hz1, hz2⟩ := info_parts infoU
  have hn := hD.lt
  rw [pow16] at hn
  have hmb := hE.lt
  have hD0 := hD
  obtain ⟨g, cap, rfl, hg, hlc, hcm, -⟩ := hD.shape
  unfold maxLen at hcm
  clear hD
  have HL : Hid (∀ w, D w (.slice (some ⟨g, 0, none⟩) la cap) n la → Calls Try.prog 38 #[.slice (some ⟨g, 0, none⟩) la cap] w fun e w' => e = .returned (.int .i64 (blen n : Nat)) ∧ w' = w) := fun w h => len_any _ n la w h (by omega)
  have hbl : blen n ≤ 16 * la := by
    unfold blen
    split
    · omega
    · rename_i h0
      have := (Nat.log2_lt h0).2 hn
      omega
  have H0 : n / 2 ^ blen n = 0 := Nat.div_eq_of_lt (blen_lt n)
  generalize blen n = bl at *
  have HB : Hid (∀ w t, t < 16 * la → D w (.slice (some ⟨g, 0, none⟩) la cap) n la → Calls Try.prog 45 #[.slice (some ⟨g, 0, none⟩) la cap, .int .i64 (t : Nat)] w fun e w' => e = .returned (.int .u64 (n / 2 ^ t % 2 : Nat)) ∧ w' = w) := by
    intro w t ht h
    have := bit_any (.slice (some ⟨g, 0, none⟩) la cap) n la t w h (by omega) (by omega)
    rw [Int.toNat_natCast] at this
    exact this
  go_enter Try.func28, Try.ntmps28
  go_wp2_with (at_make; refine wpList_make_full _ rfl _ _ 41 rfl w.heap.size 22 i0 (.int .u64 0) 1 Try.underlying41 hi hz0 hz1 _ _ _ _ la rfl rfl (by omega) (by omega) (by rw [hz2]; omega) (by unfold maxLen; omega) (Nat.le_refl _) ?_)
  intro w1 hown1 hgrow1
  have hR := Row.made hown1
  have hb1 : Below w.heap.size w w1 := (Below.refl _ _).grown hgrow1 (Nat.le_refl _) (by simp)
  have hsz1 : w.heap.size < w1.heap.size := (hown1.lt w.heap.size rfl).2
  clear hown1 hgrow1
  have hr0 := D_empty w1
  have hb2 : Below w.heap.size w (w1.alloc (.cells #[] 22)) := hb1.alloc hb1.size _
  have hR2 := hR.below ((Below.refl w1.heap.size w1).alloc (Nat.le_refl _) (.cells #[] 22))
  have hDx := hD0.below hb2
  have hEx := hE.below hb2
  clear hR hb1
  have hrF : Fresh (w.heap.size + 1) (.slice (some ⟨w1.heap.size, 0, none⟩) 0 0) := by
    intro g hg; simp [Value.ownBlock] at hg; omega
  have hsz2 : w.heap.size + 1 ≤ (w1.alloc (.cells #[] 22)).heap.size := by simp; omega
  go_wp2_with fail
  generalize w1.alloc (.cells #[] 22) = w2 at *
  refine (HL.out _ hDx).mono ?_
  rintro e w' ⟨rfl, hw'⟩
  rw [hw']
  clear hw' w'
  go_wp2_with fail
  have HN : Hid (n / 2 ^ bl = 0 * m + 0) := by show n / 2 ^ bl = 0 * m + 0; rw [H0]; omega
  go_loopw [7, 8] (fun rv t wr => ∃ (j : Nat) (i : Int) (os : List Nat) (q R : Nat), i = (j : Int) - 1 ∧ j ≤ bl ∧ t = .int .i64 i ∧ Row wr w.heap.size la os ∧ val os = q * 2 ^ j ∧ n / 2 ^ j = q * m + R ∧ R < m ∧
      D wr rv R (dlen R) ∧ Fresh (w.heap.size + 1) rv ∧ Below w.heap.size w wr ∧ w.heap.size + 1 ≤ wr.heap.size) (fun _ t _ => (intOf t + 1).toNat)
  case atStart => exact ⟨bl, _, List.replicate la 0, 0, 0, rfl, Nat.le_refl _, by go_num, hR2, by rw [val_replicate]; omega, HN.out, hm, hr0, hrF, hb2, hsz2⟩
  case round =>
    obtain ⟨j, i, os, q, R, hi', hj, rfl, hRow, hval, hq, hRm, hDr, hFr, hbel, hszr⟩ := hrel
    have hDv := hD0.below hbel
    have hEv := hE.below hbel
    cases j with
    | zero =>
      obtain rfl : i = -1 := by omega
      have e1 : n / m = q := by
        rw [Nat.pow_zero, Nat.div_one] at hq
        rw [hq, Nat.mul_comm, Nat.mul_add_div hm, Nat.div_eq_of_lt hRm, Nat.add_zero]
      have e2 : n % m = R := by
        rw [Nat.pow_zero, Nat.div_one] at hq
        rw [hq, Nat.mul_comm, Nat.mul_add_mod, Nat.mod_eq_of_lt hRm]
      have hd : D wr (.slice (some ⟨w.heap.size, 0, none⟩) la la) q la := by
        refine ⟨os, w.heap.size, la, rfl, hRow.1, hRow.2.1, ?_, ownsRow_base hRow.2.2⟩
        rw [hval]; simp
      have E1 : Hid (n / m = q) := e1
      have E2 : Hid (n % m = R) := e2
      clear hval hq e1 e2 hRow hi' HN H0
      go_wp2_with fail
      refine (trim_any _ q la _ hd (by omega)).mono ?_
      rintro e w3 ⟨v3, rfl, hd3, hb3⟩
      have hd4 := hDr.below hb3
      go_wp2
      go_ret2
      refine ⟨_, _, rfl, ?_, ?_, hbel.trans (hb3.mono hbel.size)⟩
      · rw [E1.out]; exact hd3
      · rw [E2.out]; exact hd4
    | succ t =>
      obtain rfl : i = (t : Int) := by omega
      obtain ⟨b, hbit⟩ : ∃ b, b = n / 2 ^ t % 2 := ⟨_, rfl⟩
      have b1 : b < 2 := by omega
      have hstep := bit_split n t
      rw [hq, ← hbit] at hstep
      have HBt : Hid (∀ w, D w (.slice (some ⟨g, 0, none⟩) la cap) n la → Calls Try.prog 45 #[.slice (some ⟨g, 0, none⟩) la cap, .int .i64 (t : Nat)] w fun e w' => e = .returned (.int .u64 (b : Nat)) ∧ w' = w) := by
        intro w h
        have := HB.out w t (by omega) h
        rw [← hbit] at this
        exact this
      obtain ⟨R1, hR1⟩ : ∃ R1, R1 = R * 2 ^ 1 + b := ⟨_, rfl⟩
      have hlen : dlen R ≤ lb := dlen_le (Nat.lt_trans hRm hmb)
      have hlen1 : dlen (R * 2 ^ 1) ≤ lb + 1 := dlen_le (by rw [Nat.pow_succ]; omega)
      have hlen2 : dlen R1 ≤ lb + 1 := dlen_le (by rw [Nat.pow_succ]; omega)
      have HQ : Hid (n / 2 ^ t = 2 * (q * m + R) + b) := hstep
      have HV : Hid (val os = q * 2 ^ (t + 1)) := hval
      clear hval hq hstep hbit hi' HN H0
      go_wp2_with fail
      refine (up_any _ R (dlen R) 1 _ hDr (by omega) (by decide)).mono ?_
      rintro e w3 ⟨v3, rfl, hd3, hb3⟩
      have hDv3 := hDv.below hb3
      have hEv3 := hEv.below hb3
      have hRow3 := hRow.below hb3
      have hbel3 := hbel.trans (hb3.mono hbel.size)
      have hsz3 : w.heap.size + 1 ≤ w3.heap.size := Nat.le_trans hszr hb3.size
      clear hDv hEv hRow hbel hszr hDr hb3 hFr
      go_wp2_with fail
      refine (HBt.out _ hDv3).mono ?_
      rintro e w' ⟨rfl, hw'⟩
      rw [hw']
      clear hw' w'
      have ho := D_one w3 b (by omega)
      have hbA : Below w3.heap.size w3 (w3.alloc (.cells #[.int .u64 (b : Int)] 22)) := (Below.refl _ _).alloc (Nat.le_refl _) _
      have hd4 := hd3.below hbA
      have hEv4 := hEv3.below hbA
      have hRow4 := hRow3.below hbA
      have hbel4 := hbel3.trans (hbA.mono hbel3.size)
      have hsz4 : w.heap.size + 1 ≤ (w3.alloc (.cells #[.int .u64 (b : Int)] 22)).heap.size := Nat.le_trans hsz3 hbA.size
      clear hDv3 hEv3 hRow3 hbel3 hsz3 hbA hd3
      go_wp2_with fail
      generalize w3.alloc (.cells #[.int .u64 (b : Int)] 22) = w4 at *
      refine (sum_new _ _ (R * 2 ^ 1) _ b 1 _ hd4 ho (by omega) (by decide)).mono ?_
      rintro e w5 ⟨v5, rfl, hd5, hb5, hf5⟩
      rw [← hR1] at hd5
      replace hf5 := hf5.mono hsz4
      have hEv5 := hEv4.below hb5
      have hRow5 := hRow4.below hb5
      have hbel5 := hbel4.trans (hb5.mono hbel4.size)
      have hsz5 : w.heap.size + 1 ≤ w5.heap.size := Nat.le_trans hsz4 hb5.size
      clear hEv4 hRow4 hbel4 hsz4 hb5 hd4 ho
      go_wp2_with fail
      refine (cmp_any _ _ _ _ _ _ _ hd5 hEv5 (by omega) (by omega)).mono ?_
      rintro e w' ⟨rfl, hw'⟩
      rw [hw']
      clear hw' w'
      obtain ⟨s, hs⟩ : ∃ s : Nat, (t : Int) / 16 = (s : Int) := ⟨t / 16, by omega⟩
      obtain ⟨r, hr⟩ : ∃ r : Nat, (t : Int) % 16 = (r : Int) := ⟨t % 16, by omega⟩
      have r16 : r < 16 := by omega
      have hs1 : s < la := by omega
      by_cases c : m ≤ R1
      · have hc : decide (0 ≤ cmpZ R1 m) = true := by unfold cmpZ; rw [if_neg (by omega)]; split <;> simp
        generalize cmpZ R1 m = C at *
        obtain ⟨k1, k2, k3⟩ := quo_digit (t := t) (s := s) (r := r) (q := q) hRow5.2.1 HV.out (by omega) r16 (by rw [hRow5.1]; exact hs1)
        have k4 := hRow5.cell hs1
        obtain ⟨o, ho⟩ : ∃ o, o = os.getD s 0 := ⟨_, rfl⟩
        rw [← ho] at k1 k2 k3 k4
        obtain ⟨x, hx⟩ : ∃ x, x = 2 ^ r := ⟨_, rfl⟩
        have x1 : x < 65536 := by rw [← hx] at k2; omega
        have hxw : IntKind.u64.wrap (2 ^ r) = (x : Int) := by
          rw [IntKind.wrap_u64, show (2 : Int) ^ r = ((2 ^ r : Nat) : Int) by rw [Int.natCast_pow]; rfl, ← hx]
          omega
        rw [← hx] at k1 k2 k3
        have hor : bits .or .u64 (o : Int) (x : Int) = ((o + x : Nat) : Int) := by rw [u64_or_nat o x (by omega) (by omega), k1]
        obtain ⟨y, hy⟩ : ∃ y, y = o + x := ⟨_, rfl⟩
        rw [← hy] at hor k2 k3
        have e1 := div_high HQ.out (by omega)
        rw [← hR1] at e1
        have E1 : Hid (n / 2 ^ t = (2 * q + 1) * m + (R1 - m)) := e1
        have E2 : Hid (val (os.set s y) = (2 * q + 1) * 2 ^ t) := k3
        have hRm2 : R1 - m < m := by omega
        have ho2 : o < 65536 := by omega
        have HO : Hid (o = os.getD s 0) := ho
        clear e1 k1 k3 HQ HV hR1 HBt hx hy k4 ho
        go_wp2_with fail
        refine (minus_new _ _ _ _ _ _ _ hd5 hEv5 (by omega) c).mono ?_
        rintro e w6 ⟨v6, rfl, hd6, hb6, hf6⟩
        replace hf6 := hf6.mono hsz5
        have hRow6 := hRow5.below hb6
        have hbel6 := hbel5.trans (hb6.mono hbel5.size)
        have hsz6 : w.heap.size + 1 ≤ w6.heap.size := Nat.le_trans hsz5 hb6.size
        have hcell := hRow6.cell hs1
        have hfro := hRow6.frozen s
        rw [← HO.out] at hcell
        clear hEv5 hRow5 hbel5 hsz5 hb6 hd5 hf5 HO
        go_wp2_with fail
        go_roundw
        case rel => exact ⟨t, _, os.set s y, 2 * q + 1, R1 - m, rfl, by omega, by go_num, hRow6.stored k2, E2.out, E1.out, hRm2, hd6.stored hf6 _, hf6, hbel6.setCell (p := ⟨w.heap.size, s, none⟩) (Nat.le_refl _) _, by simpa [World.setCell] using hsz6⟩
        case measure => simp [intOf]
      · have hc : decide (0 ≤ cmpZ R1 m) = false := by unfold cmpZ; rw [if_pos (by omega)]; simp
        generalize cmpZ R1 m = C at *
        obtain ⟨e1, e2⟩ := div_low HQ.out HV.out
        rw [← hR1] at e1
        have E1 : Hid (n / 2 ^ t = (2 * q) * m + R1) := e1
        have E2 : Hid (val os = (2 * q) * 2 ^ t) := e2
        clear e1 e2 HQ HV hR1 HBt
        go_wp2
        go_roundw
        case rel => exact ⟨t, _, os, 2 * q, R1, rfl, by omega, by go_num, hRow5, E2.out, E1.out, by omega, hd5, hf5, hbel5, hsz5⟩
        case measure => simp [intOf]

end Go.Proofs.Ytpgjibfggagbmaa
