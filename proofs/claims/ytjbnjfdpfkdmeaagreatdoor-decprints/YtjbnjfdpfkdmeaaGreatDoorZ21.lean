/-
  Rp1, Rp2, Rp3, Ps4, Ps5
-/
import Derived.Test.YtjbnjfdpfkdmeaaGreatDoorZ20

/-
  The reference's noughts, number, trim and numeral, walked.
-/
namespace Go.Proofs.YtjbnjfdpfkdmeaaGreatDoor
set_option maxRecDepth 100000
open Go.RowKit Txt Dg Flo

/-- One byte as a text. -/
theorem conv_1 (w : World) (d : Nat) : (convert 48 9 (.slice (some ⟨w.heap.size, 0, none⟩) 1 1)).run Tryz.prog (w.alloc (.cells #[.int .u8 (d : Int)] 5)) = .ok (.string (bs [UInt8.ofNat d])) (w.alloc (.cells #[.int .u8 (d : Int)] 5)) := by
  have := run_convert_bytes_arg (P := Tryz.prog) (w.alloc (.cells #[.int .u8 (d : Int)] 5)) 48 5 Tryz.underlying48 Tryz.underlying5 w.heap.size 0 1 1 [(d : Int)] rfl (fun i hi => by
    have : i = 0 := by omega
    subst this
    exact cells_at5 _ _ _ _ rfl) 9 Tryz.underlying9
  rw [this]
  rfl

set_option maxHeartbeats 1000000 in
theorem noughts_any (x : Int) (w : World) (hx : x ≤ 1000) :
    Calls Tryz.prog 14 #[.int .i64 x] w fun e w' => e = .returned (.string (bs (List.replicate x.toNat 48))) ∧ w' = w := by
  have HS : Hid (∀ k, bs (List.replicate k 48) ++ ⟨#[48]⟩ = bs (List.replicate (k + 1) 48)) := fun k => by
    rw [show (⟨#[48]⟩ : ByteArray) = bs [48] from rfl, bs_append, List.replicate_succ']
  go_enter Tryz.func14, Tryz.ntmps14
  go_wp2_with fail
  go_loop [3, 4] (fun s i => ∃ (k : Nat) (t : ByteArray), (k = 0 ∨ (k : Int) ≤ x) ∧ i = .int .i64 k ∧ s = .string t ∧ t.size = k ∧ Hid (t = bs (List.replicate k 48))) (fun _ i => (x - intOf i).toNat)
  case atStart => exact ⟨0, ⟨#[]⟩, Or.inl rfl, rfl, rfl, rfl, rfl⟩
  case round =>
    obtain ⟨k, t, hk, rfl, rfl, hts, HT⟩ := hrel
    have hk1 : k ≤ 1000 := by omega
    by_cases hlt : (k : Int) < x
    · have HT2 : Hid (t ++ ⟨#[48]⟩ = bs (List.replicate (k + 1) 48)) := by show _ = _; rw [HT.out]; exact HS.out k
      have hz : (t ++ ⟨#[48]⟩).size = k + 1 := by rw [ByteArray.size_append, hts]; rfl
      clear HT hk
      go_wp2
      go_round
      case rel => exact ⟨k + 1, _, Or.inr (by omega), by go_num, rfl, hz, HT2⟩
      case measure => simp [intOf]; omega
    · have HT2 : Hid (t = bs (List.replicate x.toNat 48)) := by
        show _ = _
        rw [HT.out]
        congr 2
        omega
      clear HT hk
      go_wp2
      go_ret
      exact ⟨by rw [← HT2.out]; rfl, rfl⟩

set_option maxHeartbeats 1000000 in
theorem number_any : ∀ (n : Nat) (w : World), n ≤ 99999 → Calls Tryz.prog 15 #[.int .i64 n] w fun e w' => e = .returned (.string (bs (Lib.decDigits n))) ∧ Below w.heap.size w w' := by
  intro n
  induction n using Nat.strongRecOn with
  | ind n ih =>
    intro w hn
    obtain ⟨d, hdd⟩ : ∃ d, d = 48 + n % 10 := ⟨_, rfl⟩
    obtain ⟨r, hr⟩ : ∃ r, r = n % 10 := ⟨_, rfl⟩
    have e1 : (n : Int) % 10 = (r : Int) := by omega
    have e2 : 48 + (r : Int) = (d : Int) := by omega
    have e3 : IntKind.u8.wrap (r : Int) = (r : Int) := by rw [IntKind.wrap_u8]; omega
    have hr9 : r < 10 := by omega
    have hd5 : d < 58 := by omega
    have hcv := conv_1 w d
    have hs1 : (bs [UInt8.ofNat d]).size = 1 := by rw [bs_size]; rfl
    have HBn : Hid (Below w.heap.size w (w.alloc (.cells #[.int .u8 (d : Int)] 5))) := (Below.refl _ _).alloc (Nat.le_refl _) _
    by_cases c : n < 10
    · have ci : ¬ (10 : Int) ≤ (n : Int) := by omega
      have HV : Hid (bs [UInt8.ofNat d] = bs (Lib.decDigits n)) := by
        show _ = _
        rw [Lib.decDigits, dif_pos c, hdd, Nat.mod_eq_of_lt c]
      generalize bs (Lib.decDigits n) = R at *
      generalize bs [UInt8.ofNat d] = cs at *
      clear ih hdd hr
      go_enter Tryz.func15, Tryz.ntmps15
      go_wp2
      go_ret
      exact ⟨by rw [← HV.out]; rfl, HBn.out⟩
    · have ci : (10 : Int) ≤ (n : Int) := by omega
      obtain ⟨q, hq⟩ : ∃ q, q = n / 10 := ⟨_, rfl⟩
      have eq1 : (n : Int) / 10 = (q : Int) := by omega
      have HR : Hid (∀ w, Calls Tryz.prog 15 #[.int .i64 q] w fun e w' => e = .returned (.string (bs (Lib.decDigits q))) ∧ Below w.heap.size w w') := fun w => ih q (by omega) w (by omega)
      have HV : Hid (bs (Lib.decDigits q) ++ bs [UInt8.ofNat d] = bs (Lib.decDigits n)) := by
        show _ = _
        rw [bs_append, Lib.decDigits.eq_def n, dif_neg c, hdd, hq]
      have hz : (bs (Lib.decDigits q)).size ≤ 5 := by rw [bs_size]; exact (dec_length 5 q (by decide)).2 (by omega)
      generalize bs (Lib.decDigits n) = R at *
      generalize bs (Lib.decDigits q) = B at *
      generalize bs [UInt8.ofNat d] = cs at *
      clear ih hdd hr hq
      go_enter Tryz.func15, Tryz.ntmps15
      go_wp2_with fail
      refine (HR.out _).mono ?_
      rintro e w2 ⟨rfl, hb2⟩
      have HB : Hid (Below w.heap.size w w2) := HBn.out.trans (hb2.mono (by simp))
      clear hb2
      go_wp2
      go_ret
      exact ⟨by rw [← HV.out]; rfl, HB.out⟩

theorem trimL_take (l : List UInt8) (k : Nat) (h1 : 1 < k) (h2 : k ≤ l.length) : trimL (l.take k) = if l.getD (k - 1) 0 = 48 then trimL (l.take (k - 1)) else l.take k := by
  have hk : k - 1 < l.length := by omega
  have e : l.take k = l.take (k - 1) ++ [l[k - 1]] := by
    rw [← List.take_succ_eq_append_getElem hk, show k - 1 + 1 = k by omega]
  have hg : l.getD (k - 1) 0 = l[k - 1] := by rw [List.getD_eq_getElem?_getD, List.getElem?_eq_getElem hk]; rfl
  rw [hg]
  by_cases c : l[k - 1] = 48
  · rw [if_pos c, trimL_eq, if_pos ⟨by rw [List.length_take]; omega, by rw [e, List.getLast?_concat, c]⟩, e, List.dropLast_concat]
  · rw [if_neg c, e]; exact trimL_id c
theorem trimL_one (l : List UInt8) (h : l.length ≤ 1) : trimL l = l := by
  rw [trimL_eq, if_neg]; rintro ⟨k, _⟩; omega

set_option maxHeartbeats 1000000 in
theorem trimT_any (l : List UInt8) (w : World) (hl0 : 1 ≤ l.length) (hl : l.length ≤ 1000) :
    Calls Tryz.prog 35 #[.string (bs l)] w fun e w' => e = .returned (.string (bs (trimL l))) ∧ w' = w := by
  have hs : (bs l).size = l.length := bs_size l
  have HG : Hid (∀ k (h : k < (bs l).size) (h2 : k < l.length), (bs l)[k]'h = l[k]) := fun k h _ => bs_get l k h
  have HX : Hid (∀ k, (bs l).extract 0 k = bs (l.take k)) := fun k => by rw [bs_extract, List.drop_zero, Nat.sub_zero]
  have HT0 : Hid (trimL (l.take l.length) = trimL l) := by show _ = _; rw [List.take_length]
  have HL : Hid (l.length = (bs l).size) := hs.symm
  generalize hR : trimL l = R at *
  generalize bs l = s at *
  rw [← hs] at hl0 hl
  clear hs hR
  have HS : Hid (s.size = l.length) := HL.out.symm
  go_enter Tryz.func35, Tryz.ntmps35
  go_wp2_with fail
  go_loop [3] (fun i => ∃ k : Nat, 1 ≤ k ∧ k ≤ s.size ∧ i = .int .i64 k ∧ Hid (trimL (l.take k) = R)) (fun i => (intOf i).toNat)
  case atStart => exact ⟨s.size, hl0, Nat.le_refl _, rfl, by show _ = _; rw [HS.out]; exact HT0.out⟩
  case round =>
    obtain ⟨k, hk1, hk2, rfl, HK⟩ := hrel
    by_cases c1 : k = 1
    · subst c1
      have HV : Hid (s.extract 0 1 = bs R) := by
        show _ = _
        rw [HX.out, ← HK.out, trimL_one _ (by rw [List.length_take]; omega)]
      clear HK
      go_wp2
      go_ret
      exact ⟨by rw [← HV.out]; rfl, rfl⟩
    · have hk3 : k - 1 < s.size := by omega
      have hg := HG.out (k - 1) hk3 (by have := HS.out; omega)
      have ht := trimL_take l k (by omega) (by have := HS.out; omega)
      have hgd : l.getD (k - 1) 0 = s[k - 1] := by
        rw [hg, List.getD_eq_getElem?_getD, List.getElem?_eq_getElem (by have := HS.out; omega)]; rfl
      rw [hgd] at ht
      obtain ⟨j, rfl⟩ : ∃ j, k = j + 1 := ⟨k - 1, by omega⟩
      simp only [Nat.add_sub_cancel] at hk3 ht hgd hg
      have i1 : (1 : Int) < ((j + 1 : Nat) : Int) := by omega
      have i2 : ((j + 1 : Nat) : Int) - 1 = (j : Int) := by omega
      by_cases c : s[j] = 48
      · have HK2 : Hid (trimL (l.take j) = R) := by show _ = _; rw [← HK.out, ht, if_pos c]
        have cb : (((s[j].toNat : Nat) : Int) == 48) = true := by rw [c]; rfl
        clear HK ht hg hgd c
        go_wp2
        go_round
        case rel => exact ⟨j, by omega, by omega, by go_num, HK2⟩
        case measure => simp [intOf]
      · have HV : Hid (s.extract 0 (j + 1) = bs R) := by show _ = _; rw [HX.out, ← HK.out, ht, if_neg c]
        have cb : (((s[j].toNat : Nat) : Int) == 48) = false := by
          rw [beq_eq_false_iff_ne]
          intro e
          apply c
          apply UInt8.toNat_inj.1
          have : s[j].toNat = 48 := by omega
          rw [this]; rfl
        clear HK ht hg hgd c
        go_wp2
        go_ret
        exact ⟨by rw [← HV.out]; rfl, rfl⟩

end Go.Proofs.YtjbnjfdpfkdmeaaGreatDoor

/-
  The reference's numeral, Fixed, least, Power and digitsOf, walked.
-/
namespace Go.Proofs.YtjbnjfdpfkdmeaaGreatDoor
set_option maxRecDepth 100000
open Go.RowKit Txt Dg Flo

/-- The digits of a number, none of 0. -/
def dq (n : Nat) : List UInt8 := if n = 0 then [] else Lib.decDigits n
theorem dq_step {n : Nat} (h : n ≠ 0) : dq n = dq (n / 10) ++ [UInt8.ofNat (48 + n % 10)] := by
  unfold dq
  rw [if_neg h]
  by_cases c : n < 10
  · rw [Nat.div_eq_of_lt c, if_pos rfl, Lib.decDigits, dif_pos c, Nat.mod_eq_of_lt c]; rfl
  · rw [if_neg (by omega), Lib.decDigits.eq_def n, dif_neg c]
def txOf : Value → Nat
  | .string s => s.size
  | _ => 0

theorem dlen_bits {N n : Nat} (h : N < 2 ^ n) (hn : n ≤ 3200) : dlen N ≤ 200 := by
  unfold dlen
  split
  · omega
  · next k =>
    have : N.log2 < n := (Nat.log2_lt k).2 h
    omega
theorem dlen_bits2 {N n L : Nat} (h : N < 2 ^ n) (hn : n ≤ 16 * L) : dlen N ≤ L := by
  unfold dlen
  split
  · omega
  · next k =>
    have : N.log2 < n := (Nat.log2_lt k).2 h
    omega

set_option maxHeartbeats 2000000 in
theorem numeral_any (v : Value) (n : Nat) (w : World) (hD : D w v n (dlen n)) (hn : (dq n).length ≤ 100) (hl : dlen n ≤ 1000) :
    Calls Tryz.prog 31 #[v] w fun e w' => e = .returned (.string (bs (dq n))) ∧ Below w.heap.size w w' := by
  have HT : Hid (∃ t, t = dq n) := ⟨_, rfl⟩
  obtain ⟨t, ht⟩ := HT.out
  rw [← ht] at hn ⊢
  have HA : Hid (dq n ++ [] = t) := by show _ = _; rw [List.append_nil, ht]
  clear ht HT
  go_enter Tryz.func31, Tryz.ntmps31
  go_wp2_with fail
  go_loopw [0, 3] (fun d s wr => ∃ (N : Nat) (S : List UInt8) (st : ByteArray), D wr d N (dlen N) ∧ dlen N ≤ 1000 ∧ s = .string st ∧ st.size = S.length ∧ S.length ≤ 100 ∧ Hid (st = bs S) ∧ Hid (dq N ++ S = t) ∧ Below w.heap.size w wr) (fun _ s _ => 101 - txOf s)
  case atStart => exact ⟨n, [], ⟨#[]⟩, hD, hl, rfl, rfl, by decide, rfl, HA.out, Below.refl _ _⟩
  case round =>
    obtain ⟨N, S, st, hdN, hlN, rfl, hsz, hS, HS, HN, hbr⟩ := hrel
    by_cases c : N = 0
    · subst c
      have hl0 : dlen 0 = 0 := rfl
      rw [hl0] at hdN
      obtain ⟨g, cap, rfl, hg, hc1, hc2, _⟩ := hdN.shape
      have HV : Hid (st = bs t) := by show _ = _; rw [HS.out, ← HN.out]; rfl
      have HB : Hid (Below w.heap.size w wr) := hbr
      clear HN HS hbr hdN
      unfold maxLen at hc2
      go_wp2
      go_ret
      exact ⟨by rw [← HV.out]; rfl, HB.out⟩
    · have hdl := dlen_ne c
      have hds := dq_step c
      obtain ⟨r, hr⟩ : ∃ r, r = N % 10 := ⟨_, rfl⟩
      obtain ⟨b, hb⟩ : ∃ b, b = 48 + r := ⟨_, rfl⟩
      have hr9 : r < 10 := by omega
      have e1 : IntKind.u8.wrap (r : Int) = (r : Int) := by rw [IntKind.wrap_u8]; omega
      have e2 : 48 + (r : Int) = (b : Int) := by omega
      have hb5 : b < 58 := by omega
      have HN2 : Hid (dq (N / 10) ++ (UInt8.ofNat b :: S) = t) := by
        show _ = _
        rw [← HN.out, hds, hb, hr, List.append_assoc]; rfl
      have hS2 : (UInt8.ofNat b :: S).length ≤ 100 := by
        have := congrArg List.length HN2.out
        rw [List.length_append] at this
        omega
      have HS2 : Hid (bs [UInt8.ofNat b] ++ st = bs (UInt8.ofNat b :: S)) := by show _ = _; rw [HS.out, bs_append]; rfl
      have hs1 : (bs [UInt8.ofNat b]).size = 1 := by rw [bs_size]; rfl
      have hz2 : (bs [UInt8.ofNat b] ++ st).size = S.length + 1 := by rw [ByteArray.size_append, hs1, hsz]; omega
      have hlq : dlen (N / 10) ≤ 1000 := Nat.le_trans (dlen_mono (by omega)) hlN
      have hlr : dlen r ≤ 1000 := Nat.le_trans (dlen_mono (by omega)) hlN
      have hD1 := D_one wr 10 (by decide)
      have hdN1 := hdN.below (w' := wr.alloc (.cells #[.int .u64 10] 22)) ((Below.refl _ _).alloc (Nat.le_refl _) _)
      obtain ⟨g, cap, hvv, hg, hc1, hc2, _⟩ := hdN.shape
      have HDv := divide_any _ (.slice (some ⟨wr.heap.size, 0, none⟩) 1 1) N (dlen N) 10 1 _ hdN1 hD1 (by omega) (by decide) (by decide)
      have hbr1 : Below w.heap.size w (wr.alloc (.cells #[.int .u64 10] 22)) := hbr.alloc hbr.size _
      subst hvv
      unfold maxLen at hc2
      have HR : Hid (r = N % 10) := hr
      clear hds hdN hdN1 hD1 hr hb
      go_wp2_with fail
      refine HDv.mono ?_
      rintro e w1 ⟨v1, v2, rfl, hq, hrr, hb1⟩
      rw [← HR.out] at hrr
      have hB1 := hbr1.trans (hb1.mono hbr1.size)
      go_wp2_with fail
      refine (small_any v2 r _ w1 hrr (by omega)).mono ?_
      rintro e w' ⟨rfl, hw⟩
      rw [hw]
      clear hw w'
      have hcv := conv_1 w1 b
      have HBz : Hid (Below w.heap.size w (w1.alloc (.cells #[.int .u8 (b : Int)] 5))) := hB1.alloc hB1.size _
      have hq2 := hq.below (w' := w1.alloc (.cells #[.int .u8 (b : Int)] 5)) ((Below.refl _ _).alloc (Nat.le_refl _) _)
      go_wp2
      go_roundw
      case rel => exact ⟨N / 10, UInt8.ofNat b :: S, _, hq2, hlq, rfl, hz2, hS2, HS2, HN2, HBz.out⟩
      case measure => simp [txOf]; omega

theorem pexp_mag {a : Int} (ha : U64 a) : U64 (mag a) ∧ kindZ (mag a) = kindZ a ∧ pexp (mag a) = pexp a ∧ pfrac (mag a) = pfrac a ∧ mag (mag a) = mag a := by
  obtain ⟨a1, a2⟩ := ha
  have hm : mag (mag a) = mag a := by unfold mag; split <;> (try split) <;> omega
  have hu : U64 (mag a) := by unfold mag U64; split <;> omega
  have hk : kindZ (mag a) = kindZ a := by unfold kindZ; rw [hm]
  have he : expo (mag a) = expo a := by unfold expo mag; split <;> omega
  have hf : frac (mag a) = frac a := by unfold frac mag; split <;> omega
  refine ⟨hu, hk, ?_, ?_, hm⟩
  · unfold pexp; rw [hk, he]
  · unfold pfrac; rw [hk, hf]

set_option maxHeartbeats 2000000 in
theorem fixed_any (a : Int) (f d ex ey : Nat) (w : World) (ha : U64 a) (h1 : pexp a = (d : Int) - 1074) (h2 : pfrac a = (f : Int)) (hf : f < 9007199254740992) (hd : d ≤ 2045) (hx : (ex : Int) = max ((d : Int) - 1074) 0) (hy : (ey : Int) = max (-((d : Int) - 1074)) 0) :
    Calls Tryz.prog 26 #[.int .u64 a] w fun e w' => ∃ v1 v2 l1 l2, e = .returned (.tuple #[v1, v2]) ∧ D w' v1 (f * 2 ^ ex) l1 ∧ D w' v2 (2 ^ ey) l2 ∧ l1 ≤ 200 ∧ l2 ≤ 200 ∧ Below w.heap.size w w' := by
  have HPa : Hid (∀ w, Calls Tryz.prog 56 #[.int .u64 a] w fun e w' => e = .returned (.tuple #[.bool (belowB a), .int .i64 ((d : Int) - 1074), .int .u64 f]) ∧ w' = w) := fun w => by
    have := refParts_any a w ha
    rw [h1, h2] at this
    exact this
  have HDi : Hid (∀ w, Calls Tryz.prog 57 #[.int .u64 f] w fun e w' => ∃ v', e = .returned v' ∧ D w' v' f 4 ∧ Below w.heap.size w w') := fun w => digits_any f w (by omega)
  clear h1 h2 ha
  generalize belowB a = bb at *
  by_cases c : 1074 ≤ d
  · have ey0 : ey = 0 := by omega
    have exe : (d : Int) - 1074 = (ex : Int) := by omega
    rw [exe] at HPa
    subst ey0
    have hex : ex ≤ 1000 := by omega
    clear hx hy exe
    have ci : ¬ (ex : Int) < 0 := by omega
    go_enter Tryz.func26, Tryz.ntmps26
    go_wp2_with fail
    refine (HPa.out _).mono ?_
    rintro e w' ⟨rfl, hw⟩
    rw [hw]
    clear hw w'
    go_wp2_with fail
    refine (HDi.out _).mono ?_
    rintro e w1 ⟨v1, rfl, hd1, hb1⟩
    go_wp2_with fail
    refine (up_any v1 f 4 ex w1 hd1 (by decide) (by omega)).mono ?_
    rintro e w2 ⟨v2, rfl, hd2, hb2⟩
    have hB2 := hb1.trans (hb2.mono hb1.size)
    have HB3 : Hid (Below w.heap.size w (w2.alloc (.cells #[.int .u64 1] 22))) := hB2.alloc hB2.size _
    have HD3 : Hid (D (w2.alloc (.cells #[.int .u64 1] 22)) (.slice (some ⟨w2.heap.size, 0, none⟩) 1 1) 1 1) := D_one w2 1 (by decide)
    have HD2 : Hid (D (w2.alloc (.cells #[.int .u64 1] 22)) v2 (f * 2 ^ ex) (dlen (f * 2 ^ ex))) := hd2.below ((Below.refl _ _).alloc (Nat.le_refl _) _)
    have hlen : dlen (f * 2 ^ ex) ≤ 200 := dlen_bits (n := 53 + ex) (by rw [Nat.pow_add]; exact Nat.mul_lt_mul_of_pos_right hf (Nat.two_pow_pos _)) (by omega)
    clear hd1 hd2 hb1 hb2 hB2
    go_wp2
    go_ret2
    exact ⟨v2, _, _, _, rfl, HD2.out, HD3.out, hlen, by decide, HB3.out⟩
  · have ex0 : ex = 0 := by omega
    have eye : (d : Int) - 1074 = -(ey : Int) := by omega
    rw [eye] at HPa
    subst ex0
    have hey : ey ≤ 1100 := by omega
    have hey1 : 1 ≤ ey := by omega
    have ci : -(ey : Int) < 0 := by omega
    clear hx hy eye c
    go_enter Tryz.func26, Tryz.ntmps26
    go_wp2_with fail
    refine (HPa.out _).mono ?_
    rintro e w' ⟨rfl, hw⟩
    rw [hw]
    clear hw w'
    go_wp2_with fail
    refine (HDi.out _).mono ?_
    rintro e w1 ⟨v1, rfl, hd1, hb1⟩
    have hone := D_one w1 1 (by decide)
    have hb1' : Below w.heap.size w (w1.alloc (.cells #[.int .u64 1] 22)) := hb1.alloc hb1.size _
    have hd1' := hd1.below (w' := w1.alloc (.cells #[.int .u64 1] 22)) ((Below.refl _ _).alloc (Nat.le_refl _) _)
    have HU := up_any (.slice (some ⟨w1.heap.size, 0, none⟩) 1 1) 1 1 ey (w1.alloc (.cells #[.int .u64 1] 22)) hone (by decide) (by omega)
    go_wp2_with fail
    refine HU.mono ?_
    rintro e w2 ⟨v2, rfl, hd2, hb2⟩
    rw [Nat.one_mul] at hd2
    have HB2 : Hid (Below w.heap.size w w2) := hb1'.trans (hb2.mono hb1'.size)
    have HD1 : Hid (D w2 v1 (f * 2 ^ 0) 4) := by show D _ _ _ _; rw [Nat.pow_zero, Nat.mul_one]; exact hd1'.below hb2
    have HD2 : Hid (D w2 v2 (2 ^ ey) (dlen (2 ^ ey))) := hd2
    have hlen : dlen (2 ^ ey) ≤ 200 := dlen_bits (n := ey + 1) (Nat.pow_lt_pow_right (by decide) (by omega)) (by omega)
    clear hd1 hd2 hb1 hb2 hb1' hd1' hone HU
    go_wp2
    go_ret2
    exact ⟨v1, v2, _, _, rfl, HD1.out, HD2.out, by decide, hlen, HB2.out⟩

end Go.Proofs.YtjbnjfdpfkdmeaaGreatDoor

/-
  The reference's least, Power and digitsOf, walked.
-/
namespace Go.Proofs.YtjbnjfdpfkdmeaaGreatDoor
set_option maxRecDepth 100000
open Go.RowKit Txt Dg Flo

theorem cmp_geq (n m : Nat) : decide (cmpZ n m ≥ 0) = decide (m ≤ n) := by
  unfold cmpZ
  rw [decide_eq_decide]
  split
  · omega
  · split <;> omega
theorem cmp_zero (n m : Nat) : (cmpZ n m == 0) = decide (n = m) := by
  unfold cmpZ
  rw [Bool.eq_iff_iff, beq_iff_eq, decide_eq_true_iff]
  split
  · omega
  · split <;> omega
theorem cmp_neg (n m : Nat) : decide (cmpZ n m < 0) = decide (n < m) := by
  unfold cmpZ
  rw [decide_eq_decide]
  split
  · omega
  · split <;> omega

set_option maxHeartbeats 2000000 in
theorem refLeast_any (v u : Value) (x y lx ly : Nat) (e : Int) (w : World) (hx : D w v x lx) (hy : D w u y ly) (hlx : lx ≤ 200) (hly : ly ≤ 200) (he1 : -1000 ≤ e) (he2 : e ≤ 1000) :
    Calls Tryz.prog 59 #[v, u, .int .i64 e] w fun r w' => r = .returned (.bool (decide (y * 10 ^ e.toNat ≤ x * 10 ^ (-e).toNat))) ∧ Below w.heap.size w w' := by
  by_cases c : 0 ≤ e
  · obtain ⟨n, rfl⟩ := Int.eq_ofNat_of_zero_le c
    have HV : Hid (decide (y * 10 ^ ((n : Nat) : Int).toNat ≤ x * 10 ^ (-((n : Nat) : Int)).toNat) = decide (cmpZ x (y * 10 ^ n) ≥ 0)) := by
      show _ = _
      rw [cmp_geq, Int.toNat_natCast, show (-((n : Nat) : Int)).toNat = 0 by omega, Nat.pow_zero, Nat.mul_one]
    have hlen : dlen (y * 10 ^ n) ≤ 268435456 := by
      have h1 := hy.lt
      rw [pow16] at h1
      refine dlen_bits2 (n := 16 * ly + 4 * n) ?_ (by omega)
      rw [Nat.pow_add]
      exact Nat.lt_of_lt_of_le (Nat.mul_lt_mul_of_pos_right h1 (ten_pos n)) (Nat.mul_le_mul_left _ (pow_ten_lt n))
    go_enter Tryz.func59, Tryz.ntmps59
    go_wp2_with fail
    refine (ten_any n w (by omega)).mono ?_
    rintro e w1 ⟨v1, l1, rfl, hd1, hl1, hb1⟩
    go_wp2_with fail
    refine (prod_any u v1 y ly (10 ^ n) l1 w1 (hy.below hb1) hd1 (by omega) (by omega)).mono ?_
    rintro e w2 ⟨v2, rfl, hd2, hb2⟩
    have hB2 := hb1.trans (hb2.mono hb1.size)
    go_wp2_with fail
    refine (cmp_any v v2 x lx (y * 10 ^ n) _ w2 (hx.below hB2) hd2 (by omega) (by omega)).mono ?_
    rintro e w' ⟨rfl, hw⟩
    rw [hw]
    have HB : Hid (Below w.heap.size w w2) := hB2
    generalize cmpZ x (y * 10 ^ n) = z at *
    clear hw w' hb1 hb2 hB2 hd1 hd2 hx hy
    go_wp2
    all_goals
      go_ret
      exact ⟨by rw [HV.out]; first | rfl | (congr 2; simp; omega), HB.out⟩
  · obtain ⟨n, hn⟩ : ∃ n : Nat, -e = (n : Int) := ⟨(-e).toNat, by omega⟩
    have hn1 : 1 ≤ n := by omega
    have hn2 : n ≤ 1000 := by omega
    have HV : Hid (decide (y * 10 ^ e.toNat ≤ x * 10 ^ (-e).toNat) = decide (cmpZ (x * 10 ^ n) y ≥ 0)) := by
      show _ = _
      rw [cmp_geq, show e.toNat = 0 by omega, show (-e).toNat = n by omega, Nat.pow_zero, Nat.mul_one]
    have hlen : dlen (x * 10 ^ n) ≤ 268435456 := by
      have h1 := hx.lt
      rw [pow16] at h1
      refine dlen_bits2 (n := 16 * lx + 4 * n) ?_ (by omega)
      rw [Nat.pow_add]
      exact Nat.lt_of_lt_of_le (Nat.mul_lt_mul_of_pos_right h1 (ten_pos n)) (Nat.mul_le_mul_left _ (pow_ten_lt n))
    have HN : Hid (-e = (n : Int)) := hn
    have ci : e < 0 := by omega
    clear hn c
    go_enter Tryz.func59, Tryz.ntmps59
    go_wp2_with fail
    rw [HN.out]
    refine (ten_any n w (by omega)).mono ?_
    rintro e w1 ⟨v1, l1, rfl, hd1, hl1, hb1⟩
    go_wp2_with fail
    refine (prod_any v v1 x lx (10 ^ n) l1 w1 (hx.below hb1) hd1 (by omega) (by omega)).mono ?_
    rintro e w2 ⟨v2, rfl, hd2, hb2⟩
    have hB2 := hb1.trans (hb2.mono hb1.size)
    go_wp2_with fail
    refine (cmp_any v2 u (x * 10 ^ n) _ y ly w2 hd2 (hy.below hB2) (by omega) (by omega)).mono ?_
    rintro e w' ⟨rfl, hw⟩
    rw [hw]
    have HB : Hid (Below w.heap.size w w2) := hB2
    generalize cmpZ (x * 10 ^ n) y = z at *
    clear hw w' hb1 hb2 hB2 hd1 hd2 hx hy
    go_wp2
    all_goals
      go_ret
      exact ⟨by rw [HV.out]; first | rfl | (congr 2; simp; omega), HB.out⟩

set_option maxHeartbeats 2000000 in
theorem power_any (v u : Value) (x y lx ly : Nat) (P : Int) (w : World) (hx : D w v x lx) (hy : D w u y ly) (hlx : lx ≤ 200) (hly : ly ≤ 200) (HP : Hid (∀ e, y * 10 ^ e.toNat ≤ x * 10 ^ (-e).toNat ↔ e ≤ P)) (hP1 : -400 ≤ P) (hP2 : P ≤ 400)
    (bx bly : Nat) (hbx : blen x = bx) (hby : blen y = bly) (hb1 : bx ≤ 1200) (hb2 : bly ≤ 1200) :
    Calls Tryz.prog 27 #[v, u] w fun r w' => r = .returned (.int .i64 P) ∧ Below w.heap.size w w' := by
  have HLx : Hid (∀ w', Below w.heap.size w w' → ∀ e, -1000 ≤ e → e ≤ 1000 → Calls Tryz.prog 59 #[v, u, .int .i64 e] w' fun r w'' => r = .returned (.bool (decide (e ≤ P))) ∧ Below w'.heap.size w' w'') := fun w' hb e h1 h2 => by
    have := refLeast_any v u x y lx ly e w' (hx.below hb) (hy.below hb) hlx hly h1 h2
    rw [show decide (y * 10 ^ e.toNat ≤ x * 10 ^ (-e).toNat) = decide (e ≤ P) by rw [decide_eq_decide]; exact HP.out e] at this
    exact this
  have HL1 : Hid (∀ w', D w' v x lx → Calls Tryz.prog 58 #[v] w' fun e w'' => e = .returned (.int .i64 bx) ∧ w'' = w') := fun w' h => by rw [← hbx]; exact len_any v x lx w' h (by omega)
  have HL2 : Hid (∀ w', D w' u y ly → Calls Tryz.prog 58 #[u] w' fun e w'' => e = .returned (.int .i64 bly) ∧ w'' = w') := fun w' h => by rw [← hby]; exact len_any u y ly w' h (by omega)
  obtain ⟨E0, hE0⟩ : ∃ E0, E0 = (((bx : Int) - bly) * 30103).tdiv 100000 := ⟨_, rfl⟩
  have hEb : -1000 ≤ E0 ∧ E0 ≤ 1000 := by
    have h1 : -(36123600 : Int) ≤ ((bx : Int) - bly) * 30103 := by omega
    have h2 : ((bx : Int) - bly) * 30103 ≤ 36123600 := by omega
    rw [hE0]
    generalize ((bx : Int) - bly) * 30103 = z at *
    have := Int.tdiv_eq_ediv (a := z) (b := 100000)
    have hs : Int.sign 100000 = 1 := by decide
    rw [this, hs]
    split <;> omega
  have HX : Hid (D w v x lx) := hx
  have HY : Hid (D w u y ly) := hy
  clear hx hy hbx hby
  go_enter Tryz.func27, Tryz.ntmps27
  go_wp2_with fail
  refine (HL1.out _ HX.out).mono ?_
  rintro e w' ⟨rfl, hw⟩
  rw [hw]
  clear hw w'
  go_wp2_with fail
  refine (HL2.out _ HY.out).mono ?_
  rintro e w' ⟨rfl, hw⟩
  rw [hw]
  clear hw w'
  have HE0 : Hid (E0 = (((bx : Int) - bly) * 30103).tdiv 100000) := hE0
  clear hE0
  go_wp2_with fail
  go_loopw [5] (fun t wr => ∃ E : Int, t = .int .i64 E ∧ -1000 ≤ E ∧ E ≤ 1000 ∧ Below w.heap.size w wr) (fun t _ => (intOf t + 1001).toNat)
  case atStart => exact ⟨E0, by rw [HE0.out], hEb.1, hEb.2, Below.refl _ _⟩
  case round =>
    obtain ⟨E, rfl, hE1, hE2, hbr⟩ := hrel
    by_cases c : E ≤ P
    · have HC := HLx.out wr hbr E hE1 hE2
      rw [decide_eq_true c] at HC
      go_wp2_with fail
      refine HC.mono ?_
      rintro e w1 ⟨rfl, hb1⟩
      have hB1 := hbr.trans (hb1.mono hbr.size)
      clear HC hb1
      go_wp2_with fail
      go_loopw [5] (fun t wr => ∃ F : Int, t = .int .i64 F ∧ -1000 ≤ F ∧ F ≤ P ∧ Below w.heap.size w wr) (fun t _ => (P - intOf t).toNat)
      case atStart => exact ⟨E, rfl, hE1, c, hB1⟩
      case round =>
        obtain ⟨F, rfl, hF1, hF2, hbr2⟩ := hrel
        by_cases c2 : F + 1 ≤ P
        · have HC := HLx.out wr hbr2 (F + 1) (by omega) (by omega)
          rw [decide_eq_true c2] at HC
          go_wp2_with fail
          refine HC.mono ?_
          rintro e w2 ⟨rfl, hb2⟩
          have hB2 := hbr2.trans (hb2.mono hbr2.size)
          clear HC hb2
          go_wp2
          go_roundw
          case rel => exact ⟨F + 1, rfl, by omega, c2, hB2⟩
          case measure => simp [intOf]; omega
        · have HC := HLx.out wr hbr2 (F + 1) (by omega) (by omega)
          rw [decide_eq_false c2] at HC
          go_wp2_with fail
          refine HC.mono ?_
          rintro e w2 ⟨rfl, hb2⟩
          have HB2 : Hid (Below w.heap.size w w2) := hbr2.trans (hb2.mono hbr2.size)
          have HF : Hid (F = P) := by show _ = _; omega
          clear HC hb2 c2
          go_wp2
          go_ret
          exact ⟨by rw [← HF.out]; rfl, HB2.out⟩
    · have HC := HLx.out wr hbr E hE1 hE2
      rw [decide_eq_false c] at HC
      go_wp2_with fail
      refine HC.mono ?_
      rintro e w1 ⟨rfl, hb1⟩
      have hB1 := hbr.trans (hb1.mono hbr.size)
      clear HC hb1
      go_wp2
      go_roundw
      case rel => exact ⟨E - 1, rfl, by omega, by omega, hB1⟩
      case measure => simp [intOf]; omega

set_option maxHeartbeats 2000000 in
theorem digitsOf_any (v u : Value) (x y lx ly i : Nat) (P k : Int) (w : World) (hx : D w v x lx) (hy : D w u y ly) (hlx : lx ≤ 200) (hly : ly ≤ 200) (hy0 : 0 < y) (hP1 : -400 ≤ P) (hP2 : P ≤ 400) (hi : i ≤ 20) (hk : k = (i : Int) - P) :
    Calls Tryz.prog 28 #[v, u, .int .i64 P, .int .i64 ((i : Int) + 1)] w fun r w' => ∃ v1 v2 v3 l3, r = .returned (.tuple #[v1, v2, v3]) ∧
      D w' v1 (x * 10 ^ k.toNat / (y * 10 ^ (-k).toNat)) (dlen (x * 10 ^ k.toNat / (y * 10 ^ (-k).toNat))) ∧ D w' v2 (x * 10 ^ k.toNat % (y * 10 ^ (-k).toNat)) (dlen (x * 10 ^ k.toNat % (y * 10 ^ (-k).toNat))) ∧
      D w' v3 (y * 10 ^ (-k).toNat) l3 ∧ l3 ≤ 2000 ∧ Below w.heap.size w w' := by
  have hbig : ∀ (z lz n : Nat), z < 65536 ^ lz → lz ≤ 200 → n ≤ 1000 → dlen (z * 10 ^ n) ≤ 2000 := by
    intro z lz n h1 h2 h3
    rw [pow16] at h1
    refine dlen_bits2 (n := 16 * lz + 4 * n) ?_ (by omega)
    rw [Nat.pow_add]
    exact Nat.lt_of_lt_of_le (Nat.mul_lt_mul_of_pos_right h1 (ten_pos n)) (Nat.mul_le_mul_left _ (pow_ten_lt n))
  by_cases c : 0 ≤ k
  · obtain ⟨n, hn⟩ := Int.eq_ofNat_of_zero_le c
    have en : (-k).toNat = 0 := by omega
    have ep : k.toNat = n := by omega
    rw [en, ep, Nat.pow_zero, Nat.mul_one]
    have hlen := hbig x lx n hx.lt hlx (by omega)
    have hn2 : n ≤ 1000 := by omega
    have HK : Hid ((i : Int) - P = (n : Int)) := by show _ = _; omega
    have ci : P ≤ (i : Int) := by omega
    clear hk hn c en ep hbig
    go_enter Tryz.func28, Tryz.ntmps28
    go_wp2_with fail
    rw [HK.out]
    refine (ten_any n w (by omega)).mono ?_
    rintro e w1 ⟨v1, l1, rfl, hd1, hl1, hb1⟩
    go_wp2_with fail
    refine (prod_any v v1 x lx (10 ^ n) l1 w1 (hx.below hb1) hd1 (by omega) (by omega)).mono ?_
    rintro e w2 ⟨v2, rfl, hd2, hb2⟩
    have hB2 := hb1.trans (hb2.mono hb1.size)
    have hy2 := hy.below hB2
    clear hd1 hb1 hb2 hx hy
    go_wp2_with fail
    refine (divide_any v2 u (x * 10 ^ n) _ y ly w2 hd2 hy2 (by omega) (by omega) hy0).mono ?_
    rintro e w3 ⟨q1, q2, rfl, h1, h2, hb3⟩
    have HB : Hid (Below w.heap.size w w3) := hB2.trans (hb3.mono hB2.size)
    have HQ : Hid (D w3 q1 (x * 10 ^ n / y) (dlen (x * 10 ^ n / y)) ∧ D w3 q2 (x * 10 ^ n % y) (dlen (x * 10 ^ n % y)) ∧ D w3 u y ly) := ⟨h1, h2, hy2.below hb3⟩
    clear hB2 hb3 h1 h2 hy2 hd2
    go_wp2
    exact bodyPost_ret (v := .tuple #[q1, q2, u]) (by simp [results, Tryz.results28, go_sem]) rfl ⟨q1, q2, u, ly, rfl, HQ.out.1, HQ.out.2.1, HQ.out.2.2, by omega, HB.out⟩
  · obtain ⟨n, hn⟩ : ∃ n : Nat, -k = (n : Int) := ⟨(-k).toNat, by omega⟩
    have en : (-k).toNat = n := by omega
    have ep : k.toNat = 0 := by omega
    rw [en, ep, Nat.pow_zero, Nat.mul_one]
    have hlen := hbig y ly n hy.lt hly (by omega)
    have hn2 : n ≤ 1000 := by omega
    have HK : Hid (-((i : Int) - P) = (n : Int)) := by show _ = _; omega
    have ci : ¬ P ≤ (i : Int) := by omega
    have hyp : 0 < y * 10 ^ n := Nat.mul_pos hy0 (ten_pos n)
    clear hk hn c en ep hbig
    go_enter Tryz.func28, Tryz.ntmps28
    go_wp2_with fail
    rw [HK.out]
    refine (ten_any n w (by omega)).mono ?_
    rintro e w1 ⟨v1, l1, rfl, hd1, hl1, hb1⟩
    go_wp2_with fail
    refine (prod_any u v1 y ly (10 ^ n) l1 w1 (hy.below hb1) hd1 (by omega) (by omega)).mono ?_
    rintro e w2 ⟨v2, rfl, hd2, hb2⟩
    have hB2 := hb1.trans (hb2.mono hb1.size)
    have hx2 := hx.below hB2
    clear hd1 hb1 hb2 hx hy
    go_wp2_with fail
    refine (divide_any v v2 x lx (y * 10 ^ n) _ w2 hx2 hd2 (by omega) (by omega) hyp).mono ?_
    rintro e w3 ⟨q1, q2, rfl, h1, h2, hb3⟩
    have HB : Hid (Below w.heap.size w w3) := hB2.trans (hb3.mono hB2.size)
    have HQ : Hid (D w3 q1 (x / (y * 10 ^ n)) (dlen (x / (y * 10 ^ n))) ∧ D w3 q2 (x % (y * 10 ^ n)) (dlen (x % (y * 10 ^ n))) ∧ D w3 v2 (y * 10 ^ n) (dlen (y * 10 ^ n))) := ⟨h1, h2, hd2.below hb3⟩
    clear hB2 hb3 h1 h2 hx2 hd2
    go_wp2
    exact bodyPost_ret (v := .tuple #[q1, q2, v2]) (by simp [results, Tryz.results28, go_sem]) rfl ⟨q1, q2, v2, _, rfl, HQ.out.1, HQ.out.2.1, HQ.out.2.2, hlen, HB.out⟩

end Go.Proofs.YtjbnjfdpfkdmeaaGreatDoor

/-
  The landed laidOut, and Print, walked.
-/
namespace Go.Proofs.YtjbnjfdpfkdmeaaGreatDoor
set_option maxRecDepth 100000
open Go.RowKit Pt Txt

theorem bs3 (A B C : List UInt8) : bs A ++ bs B ++ bs C = bs (A ++ (B ++ C)) := by rw [bs_append, bs_append, List.append_assoc]
theorem dotT_len (D : List UInt8) (k : Nat) : (dotT D k).length ≤ D.length + 1 := by
  unfold dotT
  split
  · omega
  · rw [List.length_append, List.length_cons, List.length_take, List.length_drop]; omega
theorem dec_len {n : Nat} (h : n ≤ 999) : (Lib.decDigits n).length ≤ 3 := by
  by_cases h1 : n < 10
  · rw [Lib.decDigits, dif_pos h1]; simp
  · rw [Lib.decDigits, dif_neg h1]
    by_cases h2 : n / 10 < 10
    · rw [Lib.decDigits, dif_pos h2]; simp
    · rw [Lib.decDigits, dif_neg h2, Lib.decDigits, dif_pos (by omega)]; simp

set_option maxHeartbeats 2000000 in
theorem laidOut_any (D : List UInt8) (x : Int) (w : World) (hD1 : 1 ≤ D.length) (hD2 : D.length ≤ 100) (hx1 : -500 ≤ x) (hx2 : x ≤ 500) (hT : TB w) :
    Calls Tryz.prog 10 #[.string (bs D), .int .i64 x] w fun e w' => e = .returned (.string (bs (layT D x))) ∧ Below w.heap.size w w' := by
  have HT : Hid (TB w) := hT
  have HW : Hid (∀ (k : Nat) (w : World), 1 ≤ k → k ≤ D.length → Calls Tryz.prog 23 #[.string (bs D), .int .i64 k] w fun e w' => e = .returned (.string (bs (dotT D k))) ∧ Below w.heap.size w w') := fun k w h1 h2 => withDot_any D k w h1 h2 (by omega)
  have hs : (bs D).size = D.length := bs_size D
  have hdl := dotT_len D 1
  have hz1 : (bs (dotT D 1)).size = (dotT D 1).length := bs_size _
  clear hT
  by_cases c1 : x < -7
  · obtain ⟨n, hn⟩ : ∃ n : Nat, -x = (n : Int) := ⟨(-x).toNat, by omega⟩
    have HV : Hid (bs (dotT D 1) ++ ⟨#[101, 45]⟩ ++ bs (Lib.decDigits n) = bs (layT D x)) := by
      show _ = _
      unfold layT
      rw [if_pos c1, hn, Int.toNat_natCast]
      exact bs3 _ _ _
    have hl := dec_len (n := n) (by omega)
    have hz2 : (bs (Lib.decDigits n)).size = (Lib.decDigits n).length := bs_size _
    have hz3 : (bs (dotT D 1) ++ ⟨#[101, 45]⟩).size = (dotT D 1).length + 2 := by rw [ByteArray.size_append, hz1]; rfl
    have HI : Hid (∀ w, TB w → Calls Tryz.prog 24 #[.int .i64 n] w fun e w' => e = .returned (.string (bs (Lib.decDigits n))) ∧ Below w.heap.size w w') := fun w h => itoa_any n w (by omega) h
    have HN : Hid (-x = (n : Int)) := hn
    generalize bs (layT D x) = R at *
    generalize bs (Lib.decDigits n) = I at *
    generalize (Lib.decDigits n).length = li at *
    have HW1 := fun w => HW.out 1 w (Nat.le_refl _) hD1
    generalize bs (dotT D 1) = E at *
    generalize (dotT D 1).length = le at *
    clear hn
    go_enter Tryz.func10, Tryz.ntmps10
    go_wp2_with fail
    refine (HW1 _).mono ?_
    rintro e w1 ⟨rfl, hb1⟩
    go_wp2_with fail
    rw [HN.out]
    refine (HI.out _ (HT.out.below hb1)).mono ?_
    rintro e w2 ⟨rfl, hb2⟩
    have HB : Hid (Below w.heap.size w w2) := hb1.trans (hb2.mono hb1.size)
    clear hb1 hb2
    go_wp2
    go_ret
    exact ⟨by rw [← HV.out]; rfl, HB.out⟩
  · by_cases c2 : 20 < x
    · obtain ⟨n, rfl⟩ : ∃ n : Nat, x = (n : Int) := ⟨x.toNat, by omega⟩
      have HV : Hid (bs (dotT D 1) ++ ⟨#[101, 43]⟩ ++ bs (Lib.decDigits n) = bs (layT D n)) := by
        show _ = _
        unfold layT
        rw [if_neg c1, if_pos c2, Int.toNat_natCast]
        exact bs3 _ _ _
      have hl := dec_len (n := n) (by omega)
      have hz2 : (bs (Lib.decDigits n)).size = (Lib.decDigits n).length := bs_size _
      have hz3 : (bs (dotT D 1) ++ ⟨#[101, 43]⟩).size = (dotT D 1).length + 2 := by rw [ByteArray.size_append, hz1]; rfl
      have HI : Hid (∀ w, TB w → Calls Tryz.prog 24 #[.int .i64 n] w fun e w' => e = .returned (.string (bs (Lib.decDigits n))) ∧ Below w.heap.size w w') := fun w h => itoa_any n w (by omega) h
      generalize bs (layT D n) = R at *
      generalize bs (Lib.decDigits n) = I at *
      generalize (Lib.decDigits n).length = li at *
      have HW1 := fun w => HW.out 1 w (Nat.le_refl _) hD1
      generalize bs (dotT D 1) = E at *
      generalize (dotT D 1).length = le at *
      go_enter Tryz.func10, Tryz.ntmps10
      go_wp2_with fail
      refine (HW1 _).mono ?_
      rintro e w1 ⟨rfl, hb1⟩
      go_wp2_with fail
      refine (HI.out _ (HT.out.below hb1)).mono ?_
      rintro e w2 ⟨rfl, hb2⟩
      have HB : Hid (Below w.heap.size w w2) := hb1.trans (hb2.mono hb1.size)
      clear hb1 hb2
      go_wp2
      go_ret
      exact ⟨by rw [← HV.out]; rfl, HB.out⟩
    · by_cases c3 : x < 0
      · obtain ⟨n, hn⟩ : ∃ n : Nat, -(x + 1) = (n : Int) := ⟨(-(x + 1)).toNat, by omega⟩
        have HV : Hid ((⟨#[48, 46]⟩ : ByteArray) ++ bs (List.replicate n 48) ++ bs D = bs (layT D x)) := by
          show _ = _
          unfold layT
          rw [if_neg c1, if_neg c2, if_pos c3, show (-x - 1).toNat = n by omega]
          exact bs3 [48, 46] _ _
        have hz2 : (bs (List.replicate n 48)).size = n := by rw [bs_size, List.length_replicate]
        have hz3 : ((⟨#[48, 46]⟩ : ByteArray) ++ bs (List.replicate n 48)).size = 2 + n := by rw [ByteArray.size_append, hz2]; rfl
        have HR : Hid (∀ w, Calls Tryz.prog 25 #[.string ⟨#[48]⟩, .int .i64 n] w fun e w' => e = .returned (.string (bs (List.replicate n 48))) ∧ Below w.heap.size w w') := fun w => rep0_any n w (by omega)
        have hn6 : n ≤ 6 := by omega
        have HN : Hid (-(x + 1) = (n : Int)) := hn
        generalize bs (layT D x) = R at *
        generalize bs (List.replicate n 48) = I at *
        clear hn
        go_enter Tryz.func10, Tryz.ntmps10
        go_wp2_with fail
        rw [HN.out]
        refine (HR.out _).mono ?_
        rintro e w1 ⟨rfl, hb1⟩
        have HB : Hid (Below w.heap.size w w1) := hb1
        clear hb1
        go_wp2
        go_ret
        exact ⟨by rw [← HV.out]; rfl, HB.out⟩
      · obtain ⟨n, rfl⟩ : ∃ n : Nat, x = (n : Int) := ⟨x.toNat, by omega⟩
        by_cases c4 : D.length < n + 1
        · have HV : Hid (bs D ++ bs (List.replicate (n + 1 - D.length) 48) = bs (layT D n)) := by
            show _ = _
            unfold layT
            rw [if_neg c1, if_neg c2, if_neg c3, if_pos (by omega), show ((n : Int) + 1 - (D.length : Nat)).toNat = n + 1 - D.length by omega]
            exact bs_append _ _
          have hz2 : (bs (List.replicate (n + 1 - D.length) 48)).size = n + 1 - D.length := by rw [bs_size, List.length_replicate]
          have HR : Hid (∀ w, Calls Tryz.prog 25 #[.string ⟨#[48]⟩, .int .i64 ((n + 1 - D.length : Nat) : Int)] w fun e w' => e = .returned (.string (bs (List.replicate (n + 1 - D.length) 48))) ∧ Below w.heap.size w w') := fun w => rep0_any _ w (by omega)
          have HN : Hid ((n : Int) + 1 - (D.length : Int) = ((n + 1 - D.length : Nat) : Int)) := by show _ = _; omega
          have c5 : (D.length : Int) < (n : Int) + 1 := by omega
          have hm : n + 1 - D.length ≤ 21 := by omega
          generalize bs (layT D n) = R at *
          generalize bs (List.replicate (n + 1 - D.length) 48) = I at *
          generalize n + 1 - D.length = m at *
          generalize D.length = d at *
          go_enter Tryz.func10, Tryz.ntmps10
          go_wp2_with fail
          rw [HN.out]
          refine (HR.out _).mono ?_
          rintro e w1 ⟨rfl, hb1⟩
          have HB : Hid (Below w.heap.size w w1) := hb1
          clear hb1
          go_wp2
          go_ret
          exact ⟨by rw [← HV.out]; rfl, HB.out⟩
        · have HV : Hid (bs (dotT D (n + 1)) = bs (layT D n)) := by
            show _ = _
            unfold layT
            rw [if_neg c1, if_neg c2, if_neg c3, if_neg (by omega), show ((n : Int) + 1).toNat = n + 1 by omega]
          have HW1 : Hid (∀ w, Calls Tryz.prog 23 #[.string (bs D), .int .i64 ((n : Int) + 1)] w fun e w' => e = .returned (.string (bs (dotT D (n + 1)))) ∧ Below w.heap.size w w') := fun w => by
            have := HW.out (n + 1) w (by omega) (by omega)
            rw [Int.natCast_add] at this
            exact this
          have c5 : ¬ (D.length : Int) < (n : Int) + 1 := by omega
          generalize bs (layT D n) = R at *
          generalize bs (dotT D (n + 1)) = E at *
          go_enter Tryz.func10, Tryz.ntmps10
          go_wp2_with fail
          refine (HW1.out _).mono ?_
          rintro e w1 ⟨rfl, hb1⟩
          have HB : Hid (Below w.heap.size w w1) := hb1
          clear hb1
          go_wp2
          go_ret
          exact ⟨by rw [← HV.out]; rfl, HB.out⟩

end Go.Proofs.YtjbnjfdpfkdmeaaGreatDoor

/-
  The landed shortest, and Print, walked for any number.
-/
namespace Go.Proofs.YtjbnjfdpfkdmeaaGreatDoor
set_option maxRecDepth 100000
open Go.RowKit Pt Txt Flo

/-- The digits that are written of a number, and which power of ten the first stands for. -/
def tQ (Q : Nat) : List UInt8 := trimL (Lib.decDigits Q)
def eQ (P : Int) (m Q : Nat) : Int := P + if 10 ^ (m + 1) ≤ Q then 1 else 0

theorem bel_hyp {f d : Nat} : (bel f d = 1 ∧ f = 4503599627370496 ∧ -1074 < (d : Int) - 1074) ∨ (bel f d = 2 ∧ ¬ (f = 4503599627370496 ∧ -1074 < (d : Int) - 1074)) := by
  rcases bel_cases f d with ⟨h1, h2, h3⟩ | ⟨h1, h2⟩
  · exact Or.inl ⟨h1, h2, by omega⟩
  · refine Or.inr ⟨h1, ?_⟩
    rintro ⟨k1, k2⟩
    exact h2 ⟨k1, by omega⟩

theorem shortest_any {f d up down a c n m Q : Nat} {place : Int} (h : Pm f d up down a c n m Q place) (w : World) :
    Calls Tryz.prog 9 #[.int .i64 ((d : Int) - 1074), .int .u64 f] w fun e w' => e = .returned (.tuple #[.string (bs (tQ Q)), .int .i64 (eQ (place + n) m Q)]) ∧ Below w.heap.size w w' := by
  have hU := pm_U h
  have hd1 := h.d1
  have hf1 := h.f1
  obtain ⟨DS, g1, g2, g3⟩ := digF_run _ _ hU m 20 _ _ _ Q (by have := h.m16; omega) h.go h.at'
  have htop := digF_top hU h.lo h.hi g1
  have htold := told_digits g2 g3 htop
  have eU : 2 ^ down * 10 ^ (c + n) = 1 * 2 ^ down * 10 ^ c * 10 ^ n := by rw [Nat.pow_add, Nat.one_mul, Nat.mul_assoc]
  have eT : 4 * f * (2 ^ up * 10 ^ a) = f * 2 ^ (up + 2) * 10 ^ a := by rw [Nat.pow_add]; grind
  have eL : bel f d * (2 ^ up * 10 ^ a) = bel f d * 2 ^ up * 10 ^ a := by rw [Nat.mul_assoc]
  have eA : 2 * (2 ^ up * 10 ^ a) = 2 * 2 ^ up * 10 ^ a := by rw [Nat.mul_assoc]
  have HN : Hid (f * 2 ^ (up + 2) * 10 ^ a < 10 * (1 * 2 ^ down * 10 ^ c * 10 ^ n) ∧ ∀ j, j < n → 10 * (1 * 2 ^ down * 10 ^ c * 10 ^ j) ≤ f * 2 ^ (up + 2) * 10 ^ a) := by
    refine ⟨by rw [← eT, ← eU]; exact h.hi, fun j hj => ?_⟩
    have := h.st j hj
    rw [eT, Nat.pow_add, ← Nat.mul_assoc (2 ^ down)] at this
    rw [Nat.one_mul]; exact this
  rw [eU, eT, eL, eA] at g1
  obtain ⟨l1, l2, _, _⟩ := bitLen_bounds (x := f) (by have := h.f0; omega) (by omega)
  have HE : Hid (((f : Int) % 2 == 0) = (f % 2 == 0)) := by
    show _ = _
    rw [Bool.eq_iff_iff, beq_iff_eq, beq_iff_eq]; omega
  have hK := pm_K h
  have hKX := KX_eq
  generalize KX = K at *
  rcases htold with ⟨t1, t2, t3⟩ | ⟨t1, t2, t3⟩
  · subst t1 t2 t3
    have e1 : tQ 10 = [49] := trim_ten
    have e2 : eQ (place + n) 0 10 = place + n + 1 := by unfold eQ; rw [if_pos (by decide)]
    rw [e1, e2]
    exact shortest_ten _ f _ a c n K up down (bel f d) (f % 2 == 0) w (by omega) (by omega) (by omega) bel_hyp HE rfl l2 h.hu h.hd place h.hp h.ha h.hc h.hn (by omega) hK HN g1
  · have e1 : tQ Q = dtx DS := t2
    have e2 : eQ (place + n) m Q = place + n := by unfold eQ; rw [if_neg (by omega), Int.add_zero]
    rw [e1, e2]
    obtain ⟨D0, DR, hDS⟩ : ∃ x xs, DS = x :: xs := by
      cases DS with
      | nil => simp at g2
      | cons x xs => exact ⟨x, xs, rfl⟩
    exact shortest_dg _ f _ a c n K up down (bel f d) (f % 2 == 0) DS w (by omega) (by omega) (by omega) bel_hyp HE rfl l2 h.hu h.hd place h.hp h.ha h.hc h.hn (by omega) hK HN
      D0 (by rw [hDS]; rfl) (t1 D0 (by rw [hDS]; simp)) (fun j => by
        rcases Nat.lt_or_ge j DS.length with k | k
        · rw [List.getD_eq_getElem?_getD, List.getElem?_eq_getElem k]
          exact t1 _ (List.getElem_mem k)
        · rw [List.getD_eq_getElem?_getD, List.getElem?_eq_none k]
          exact Nat.zero_le _) (by omega) (by have := h.m16; omega) g1

/-- The sign ahead. -/
def sgT (a : Int) : List UInt8 := if belowB a then [45] else []
/-- What is written of a number. -/
def PrS (a : Int) (L : List UInt8) : Prop :=
  (kindZ a = 4 ∧ L = [110, 97, 110]) ∨ (kindZ a = 3 ∧ L = sgT a ++ [105, 110, 102]) ∨ (kindZ a = 0 ∧ L = sgT a ++ [48]) ∨
  ((kindZ a = 1 ∨ kindZ a = 2) ∧ ∃ (f d up down x c n m Q : Nat) (place : Int), pexp a = (d : Int) - 1074 ∧ pfrac a = (f : Int) ∧ mag a = ((d * 4503599627370496 + f : Nat) : Int) ∧ Pm f d up down x c n m Q place ∧ L = sgT a ++ layT (tQ Q) (eQ (place + n) m Q))
/-- The parts of a finite number. -/
theorem fin_parts {a : Int} (ha : U64 a) (hk : kindZ a = 1 ∨ kindZ a = 2) : ∃ f d : Nat, pexp a = (d : Int) - 1074 ∧ pfrac a = (f : Int) ∧ mag a = ((d * 4503599627370496 + f : Nat) : Int) ∧ 0 < f ∧ f < 9007199254740992 ∧ (d = 0 ∨ 4503599627370496 ≤ f) ∧ d ≤ 2045 := by
  obtain ⟨m1, m2, m3, m4, m5⟩ := mag_parts ha
  unfold kindZ at hk
  rcases hk with hk | hk
  · have hm : mag a ≠ 0 ∧ mag a < 4503599627370496 := by
      split at hk
      · omega
      · split at hk
        · omega
        · split at hk
          · omega
          · split at hk
            · omega
            · omega
    have hkz : kindZ a = 1 := by unfold kindZ; exact hk
    refine ⟨(frac a).toNat, 0, ?_, ?_, ?_, ?_, ?_, Or.inl rfl, by omega⟩
    · unfold pexp; rw [if_pos hkz]; rfl
    · unfold pfrac; rw [if_pos hkz]; omega
    · omega
    · omega
    · omega
  · have hm : 4503599627370496 ≤ mag a ∧ mag a < 9218868437227405312 := by
      split at hk
      · omega
      · split at hk
        · omega
        · split at hk
          · omega
          · split at hk
            · omega
            · omega
    have hkz : kindZ a = 2 := by unfold kindZ; exact hk
    refine ⟨(frac a + 4503599627370496).toNat, (expo a - 1).toNat, ?_, ?_, ?_, ?_, ?_, Or.inr ?_, ?_⟩
    · unfold pexp; rw [if_neg (by omega), if_pos hkz]; omega
    · unfold pfrac; rw [if_neg (by omega), if_pos hkz]; omega
    · omega
    · omega
    · omega
    · omega
    · omega
theorem trimL_len : ∀ (n : Nat) (l : List UInt8), l.length = n → l ≠ [] → 1 ≤ (trimL l).length ∧ (trimL l).length ≤ n := by
  intro n
  induction n with
  | zero => intro l h h2; exact absurd (List.length_eq_zero_iff.1 h) h2
  | succ n ih =>
    intro l h h2
    rw [trimL_eq]
    split
    · next k =>
      have := ih l.dropLast (by simp [h]) (by intro e; have := congrArg List.length e; simp at this; omega)
      omega
    · omega
theorem tQ_len {f d up down x c n m Q : Nat} {place : Int} (h : Pm f d up down x c n m Q place) : 1 ≤ (tQ Q).length ∧ (tQ Q).length ≤ 18 := by
  have h1 := trimL_len _ _ rfl (dec_spec Q).2.2
  obtain ⟨DS, g1, g2, g3⟩ := digF_run _ _ (pm_U h) m 20 _ _ _ Q (by have := h.m16; omega) h.go h.at'
  have htold := told_digits g2 g3 (digF_top (pm_U h) h.lo h.hi g1)
  have hm := h.m16
  rcases htold with ⟨_, _, rfl⟩ | ⟨_, _, t⟩
  · have : (Lib.decDigits 10).length ≤ 2 := (dec_length 2 10 (by decide)).2 (by decide)
    unfold tQ; omega
  · have := (dec_length (m + 1) Q (by omega)).2 t
    unfold tQ; omega
theorem prs_exists {a : Int} (ha : U64 a) : ∃ L, PrS a L := by
  rcases kind_vals a with h | h | h | h | h
  · exact ⟨_, Or.inr (Or.inr (Or.inl ⟨h, rfl⟩))⟩
  · obtain ⟨f, d, h1, h2, h3, f0, f1, d0, d1⟩ := fin_parts ha (Or.inl h)
    obtain ⟨up, down, x, c, n, m, Q, place, hp⟩ := pm_exists f0 f1 d0 d1
    exact ⟨_, Or.inr (Or.inr (Or.inr ⟨Or.inl h, f, d, up, down, x, c, n, m, Q, place, h1, h2, h3, hp, rfl⟩))⟩
  · obtain ⟨f, d, h1, h2, h3, f0, f1, d0, d1⟩ := fin_parts ha (Or.inr h)
    obtain ⟨up, down, x, c, n, m, Q, place, hp⟩ := pm_exists f0 f1 d0 d1
    exact ⟨_, Or.inr (Or.inr (Or.inr ⟨Or.inr h, f, d, up, down, x, c, n, m, Q, place, h1, h2, h3, hp, rfl⟩))⟩
  · exact ⟨_, Or.inr (Or.inl ⟨h, rfl⟩)⟩
  · exact ⟨_, Or.inl ⟨h, rfl⟩⟩
theorem pm_place {f d up down x c n m Q : Nat} {place : Int} (h : Pm f d up down x c n m Q place) : -400 ≤ place + n ∧ place + n ≤ 400 := by
  have h0 := pm_P h
  have e1 := h.hp
  have e2 := h.ha
  have e3 := h.hc
  have e4 := h.hu
  have e5 := h.hd
  have e6 := h.d1
  have hlo := h.lo
  obtain ⟨l1, l2, _, _⟩ := bitLen_bounds (x := f) (by have := h.f0; omega) (by have := h.f1; omega)
  have hf := h.f1
  refine ⟨by omega, ?_⟩
  -- 10 ^ (c + n) is at most the number times 10 ^ x
  have b1 : 10 ^ (c + n) ≤ 2 ^ 55 * (2 ^ up * 10 ^ x) := by
    have : 1 * 10 ^ (c + n) ≤ 2 ^ down * 10 ^ (c + n) := Nat.mul_le_mul_right _ (Nat.two_pow_pos down)
    have h4 : 4 * f * (2 ^ up * 10 ^ x) ≤ 2 ^ 55 * (2 ^ up * 10 ^ x) := Nat.mul_le_mul_right _ (by omega)
    omega
  rcases Nat.le_total (c + n) x with k | k
  · omega
  · obtain ⟨t, ht⟩ := Nat.exists_eq_add_of_le k
    rw [ht, Nat.pow_add, Nat.mul_comm (10 ^ x), ← Nat.mul_assoc] at b1
    have b2 := Nat.le_of_mul_le_mul_right b1 (ten_pos x)
    rw [← Nat.pow_add] at b2
    have b3 := Nat.le_trans (ten_pow t) b2
    have b4 : 3 * t ≤ 55 + up := by
      rcases Nat.lt_or_ge (55 + up) (3 * t) with q | q
      · have := Nat.pow_lt_pow_right (a := 2) (by decide) q
        omega
      · exact q
    omega

theorem layT_len (D : List UInt8) (x : Int) (hD : D.length ≤ 100) (h1 : -500 ≤ x) (h2 : x ≤ 500) : (layT D x).length ≤ 200 := by
  have hd := dotT_len D 1
  unfold layT
  split
  · have := dec_len (n := (-x).toNat) (by omega)
    simp only [List.length_append, List.length_cons, List.length_nil]; omega
  · split
    · have := dec_len (n := x.toNat) (by omega)
      simp only [List.length_append, List.length_cons, List.length_nil]; omega
    · split
      · simp only [List.length_append, List.length_cons, List.length_nil, List.length_replicate]; omega
      · split
        · simp only [List.length_append, List.length_replicate]; omega
        · have := dotT_len D (x + 1).toNat; omega
theorem eQ_bd {P : Int} {m Q : Nat} (h1 : -400 ≤ P) (h2 : P ≤ 400) : -500 ≤ eQ P m Q ∧ eQ P m Q ≤ 500 := by unfold eQ; split <;> omega

set_option maxHeartbeats 1000000 in
theorem print_any (a : Int) (L : List UInt8) (w : World) (ha : U64 a) (hL : PrS a L) (hT : TB w) :
    Calls Tryz.prog 4 #[.int .u64 a] w fun e w' => e = .returned (.string (bs L)) ∧ Below w.heap.size w w' := by
  have HPa : Hid (∀ w, Calls Tryz.prog 7 #[.int .u64 a] w fun e w' => e = .returned (.tuple #[.bool (belowB a), .int .i64 (pexp a), .int .u64 (pfrac a)]) ∧ w' = w) := fun w => parts_any a w ha
  have HKi : Hid (∀ w, Calls Tryz.prog 8 #[.int .u64 a] w fun e w' => e = .returned (.int .i64 (kindZ a)) ∧ w' = w) := fun w => kind_any a w ha
  obtain ⟨sg, hsg⟩ : ∃ s, bs (sgT a) = s := ⟨_, rfl⟩
  have hss : sg.size ≤ 1 := by rw [← hsg, bs_size]; unfold sgT; split <;> decide
  have HSG : Hid (sg = if belowB a then ⟨#[45]⟩ else ⟨#[]⟩) := by show _ = _; rw [← hsg]; unfold sgT; split <;> rfl
  have HT : Hid (TB w) := hT
  clear hT
  rcases hL with ⟨hk, rfl⟩ | ⟨hk, rfl⟩ | ⟨hk, rfl⟩ | ⟨hk, f, d, up, down, x, c, n, m, Q, place, h1, h2, h3, hp, rfl⟩
  · rw [hk] at HKi
    show Calls Tryz.prog 4 #[.int .u64 a] w fun e w' => e = .returned (.string ⟨#[110, 97, 110]⟩) ∧ Below w.heap.size w w'
    generalize belowB a = nb at *
    cases nb
    all_goals
      go_enter Tryz.func4, Tryz.ntmps4
      go_wp2_with fail
      refine (HPa.out _).mono ?_
      rintro e w' ⟨rfl, hw⟩
      rw [hw]
      clear hw w'
      go_wp2_with fail
      refine (HKi.out _).mono ?_
      rintro e w' ⟨rfl, hw⟩
      rw [hw]
      clear hw w'
      go_wp2
      go_ret
      exact ⟨rfl, Below.refl _ _⟩
  · rw [hk] at HKi
    rw [← bs_append, hsg, show bs [105, 110, 102] = ⟨#[105, 110, 102]⟩ from rfl]
    generalize belowB a = nb at *
    cases nb
    all_goals
      go_enter Tryz.func4, Tryz.ntmps4
      go_wp2_with fail
      refine (HPa.out _).mono ?_
      rintro e w' ⟨rfl, hw⟩
      rw [hw]
      clear hw w'
      go_wp2_with fail
      refine (HKi.out _).mono ?_
      rintro e w' ⟨rfl, hw⟩
      rw [hw]
      clear hw w'
      go_wp2
      go_ret
      exact ⟨by rw [HSG.out]; rfl, Below.refl _ _⟩
  · rw [hk] at HKi
    rw [← bs_append, hsg, show bs [48] = ⟨#[48]⟩ from rfl]
    generalize belowB a = nb at *
    cases nb
    all_goals
      go_enter Tryz.func4, Tryz.ntmps4
      go_wp2_with fail
      refine (HPa.out _).mono ?_
      rintro e w' ⟨rfl, hw⟩
      rw [hw]
      clear hw w'
      go_wp2_with fail
      refine (HKi.out _).mono ?_
      rintro e w' ⟨rfl, hw⟩
      rw [hw]
      clear hw w'
      go_wp2
      go_ret
      exact ⟨by rw [HSG.out]; rfl, Below.refl _ _⟩
  · have hlen := tQ_len hp
    have hpl := pm_place hp
    have heq := eQ_bd (m := m) (Q := Q) hpl.1 hpl.2
    have HS : Hid (∀ w, Calls Tryz.prog 9 #[.int .i64 (pexp a), .int .u64 (pfrac a)] w fun e w' => e = .returned (.tuple #[.string (bs (tQ Q)), .int .i64 (eQ (place + n) m Q)]) ∧ Below w.heap.size w w') := fun w => by rw [h1, h2]; exact shortest_any hp w
    have HLa : Hid (∀ w, TB w → Calls Tryz.prog 10 #[.string (bs (tQ Q)), .int .i64 (eQ (place + n) m Q)] w fun e w' => e = .returned (.string (bs (layT (tQ Q) (eQ (place + n) m Q)))) ∧ Below w.heap.size w w') := fun w h => laidOut_any _ _ w hlen.1 (by omega) heq.1 heq.2 h
    have hz : (bs (layT (tQ Q) (eQ (place + n) m Q))).size ≤ 200 := by rw [bs_size]; exact layT_len _ _ (by omega) heq.1 heq.2
    rw [← bs_append, hsg]
    generalize bs (layT (tQ Q) (eQ (place + n) m Q)) = R at *
    generalize bs (tQ Q) = S at *
    generalize eQ (place + n) m Q = E at *
    generalize pexp a = pe at *
    generalize pfrac a = pf at *
    clear hp h1 h2 h3 hlen hpl heq hsg
    have hk0 : (kindZ a == 4) = false ∧ (kindZ a == 3) = false ∧ (kindZ a == 0) = false := by
      refine ⟨?_, ?_, ?_⟩ <;> (rw [beq_eq_false_iff_ne]; omega)
    obtain ⟨k4, k3, k0⟩ := hk0
    clear hk
    generalize kindZ a = kz at *
    generalize belowB a = nb at *
    cases nb
    all_goals
      go_enter Tryz.func4, Tryz.ntmps4
      go_wp2_with fail
      refine (HPa.out _).mono ?_
      rintro e w' ⟨rfl, hw⟩
      rw [hw]
      clear hw w'
      go_wp2_with fail
      refine (HKi.out _).mono ?_
      rintro e w' ⟨rfl, hw⟩
      rw [hw]
      clear hw w'
      go_wp2_with fail
      refine (HS.out _).mono ?_
      rintro e w1 ⟨rfl, hb1⟩
      go_wp2_with fail
      refine (HLa.out _ (HT.out.below hb1)).mono ?_
      rintro e w2 ⟨rfl, hb2⟩
      have HB : Hid (Below w.heap.size w w2) := hb1.trans (hb2.mono hb1.size)
      clear hb1 hb2
      go_wp2
      go_ret
      exact ⟨by rw [HSG.out]; rfl, HB.out⟩

end Go.Proofs.YtjbnjfdpfkdmeaaGreatDoor
