/-
  DecRises
-/
import Derived.Test.YtngpdpmhjhgafaaDoorX17

/-
  DecRises: the walk.
-/
namespace Go.Proofs.YtngpdpmhjhgafaaDoor
set_option maxRecDepth 100000
open Go.RowKit Txt Flo

theorem bs_empty : (⟨#[]⟩ : ByteArray) = bs [] := rfl
theorem empty_eq (S : List UInt8) : ((bs S).toList == (⟨#[]⟩ : ByteArray).toList) = decide (S = []) := by
  rw [bs_empty, bs_toList, bs_toList]
  cases S <;> simp

/-- Two bytes made one behind the other, as texts. -/
theorem conv_two (w : World) (d f : Nat) :
    (convert 36 9 (.slice (some ⟨w.heap.size, 0, none⟩) 1 1)).run Tryd.prog (w.alloc (.cells #[.int .u8 (d : Int)] 5)).drew = .ok (.string (bs [UInt8.ofNat d])) (w.alloc (.cells #[.int .u8 (d : Int)] 5)).drew ∧
    (convert 36 9 (.slice (some ⟨w.heap.size, 0, none⟩) 1 1)).run Tryd.prog ((w.alloc (.cells #[.int .u8 (d : Int)] 5)).alloc (.cells #[.int .u8 (f : Int)] 5)).drew = .ok (.string (bs [UInt8.ofNat d])) ((w.alloc (.cells #[.int .u8 (d : Int)] 5)).alloc (.cells #[.int .u8 (f : Int)] 5)).drew ∧
    (convert 36 9 (.slice (some ⟨w.heap.size + 1, 0, none⟩) 1 1)).run Tryd.prog ((w.alloc (.cells #[.int .u8 (d : Int)] 5)).alloc (.cells #[.int .u8 (f : Int)] 5)).drew = .ok (.string (bs [UInt8.ofNat f])) ((w.alloc (.cells #[.int .u8 (d : Int)] 5)).alloc (.cells #[.int .u8 (f : Int)] 5)).drew := by
  refine ⟨conv_one w.drew d, ?_, ?_⟩
  · have hb := (Below.refl (w.drew.alloc (.cells #[.int .u8 (d : Int)] 5)).heap.size (w.drew.alloc (.cells #[.int .u8 (d : Int)] 5))).alloc (Nat.le_refl _) (.cells #[.int .u8 (f : Int)] 5)
    have hc : ((w.drew.alloc (.cells #[.int .u8 (d : Int)] 5)).alloc (.cells #[.int .u8 (f : Int)] 5)).cell? ⟨w.heap.size, 0, none⟩ = some (.int .u8 (d : Int)) :=
      (hb.cell (by simp)).trans (cells_at5 w.drew _ _ _ rfl)
    have := run_convert_bytes_arg (P := Tryd.prog) ((w.drew.alloc (.cells #[.int .u8 (d : Int)] 5)).alloc (.cells #[.int .u8 (f : Int)] 5)) 36 5 Tryd.underlying36 Tryd.underlying5 w.heap.size 0 1 1 [(d : Int)] rfl (fun i hi => by
      have : i = 0 := by omega
      subst this
      exact hc) 9 Tryd.underlying9
    exact this
  · have := conv_one (w.drew.alloc (.cells #[.int .u8 (d : Int)] 5)) f
    rw [show (w.drew.alloc (.cells #[.int .u8 (d : Int)] 5)).heap.size = w.heap.size + 1 by simp] at this
    exact this

set_option maxRecDepth 100000 in
set_option maxHeartbeats 6400000 in
theorem decRises_walk (va vb : Value) (la lb : List Nat) (x : Int) (w : World) (ha : RB w va la) (hb : RB w vb lb) (hx0 : -32768 ≤ x) (hx1 : x ≤ 32767) :
    Calls Tryd.prog 6 #[va, vb, .int .i16 x] w fun e w' => e = .returned (.bool true) ∧ Below w.heap.size w w' := by
  have HA : Hid (RB w va la) := ha
  have HB : Hid (RB w vb lb) := hb
  obtain ⟨_, na, aa, ca, rfl, _⟩ := ha
  obtain ⟨_, nb, ab, cb, rfl, _⟩ := hb
  unfold maxLen at na nb
  obtain ⟨n, hn⟩ : ∃ n, n = la.length := ⟨_, rfl⟩
  obtain ⟨m, hm⟩ : ∃ m, m = lb.length := ⟨_, rfl⟩
  have HN : Hid (n = la.length) := hn
  have HM : Hid (m = lb.length) := hm
  rw [← hn] at HA na ⊢
  rw [← hm] at HB nb ⊢
  clear hn hm
  go_enter Tryd.func6, Tryd.ntmps6
  go_wp2_with fail
  go_loopw [7, 8, 9, 10] (fun t7 t8 t9 t10 wr => ∃ (i : Nat) (s t : ByteArray) (z : Int), i ≤ n ∧ i ≤ m ∧ i ≤ 30 ∧ t10 = .int .i64 i ∧ t7 = .string s ∧ t8 = .string t ∧ t9 = .int .i64 z ∧ -10 ≤ z ∧ z ≤ 10 ∧ s.size ≤ 30 ∧ t.size ≤ 30 ∧ Hid (∃ S T, s = bs S ∧ t = bs T ∧ S.length = i ∧ St S T z) ∧ Hid (Below w.heap.size w wr)) (fun _ _ _ t10 _ => 30 - (intOf t10).toNat)
  case atStart => exact ⟨0, ⟨#[]⟩, ⟨#[]⟩, 0, Nat.zero_le _, Nat.zero_le _, by omega, rfl, rfl, rfl, rfl, by omega, by omega, by decide, by decide, ⟨[], [], rfl, rfl, rfl, fun c hc => (by cases hc), fun c hc => (by cases hc), rfl, Or.inl ⟨rfl, rfl⟩⟩, Below.refl _ _⟩
  case round =>
    obtain ⟨i, s, t, z, hin, him, hi3, rfl, rfl, rfl, rfl, hz0, hz1, hss, htt, HS, HBr⟩ := hrel
    by_cases c : i < n ∧ i < m ∧ i < 30
    · obtain ⟨c1, c2, c3⟩ := c
      obtain ⟨xa, rfl, hca, hda⟩ := (HA.out.below HBr.out (Nat.le_refl _)).at (i := i) (by have := HN.out; omega)
      obtain ⟨xb, rfl, hcb, hdb⟩ := (HB.out.below HBr.out (Nat.le_refl _)).at (i := i) (by have := HM.out; omega)
      generalize la.getD i 0 = p at hca hda
      generalize lb.getD i 0 = q at hcb hdb
      have c1i : (i : Int) < (n : Int) := by omega
      have c2i : (i : Int) < (m : Int) := by omega
      have c3i : (i : Int) < 30 := by omega
      have c4i : (0 : Int) ≤ (i : Int) := by omega
      obtain ⟨dp, hdp⟩ : ∃ d, d = 48 + p % 10 := ⟨_, rfl⟩
      obtain ⟨rp, hrp⟩ : ∃ r, r = p % 10 := ⟨_, rfl⟩
      obtain ⟨dq, hdq⟩ : ∃ d, d = 48 + q % 10 := ⟨_, rfl⟩
      obtain ⟨rq, hrq⟩ : ∃ r, r = q % 10 := ⟨_, rfl⟩
      have e1 : (p : Int) % 10 = (rp : Int) := by omega
      have e2 : 48 + (rp : Int) = (dp : Int) := by omega
      have e3 : (q : Int) % 10 = (rq : Int) := by omega
      have e4 : 48 + (rq : Int) = (dq : Int) := by omega
      have hrp9 : rp < 10 := by omega
      have hrq9 : rq < 10 := by omega
      obtain ⟨z2, hz2⟩ : ∃ z2, z2 = if z = 0 ∧ rp ≠ rq then ((rp : Nat) : Int) - ((rq : Nat) : Int) else z := ⟨_, rfl⟩
      have HS2 : Hid (∃ S T, s ++ bs [UInt8.ofNat dp] = bs S ∧ t ++ bs [UInt8.ofNat dq] = bs T ∧ S.length = i + 1 ∧ St S T z2) := by
        obtain ⟨S, T, h1, h2, h3, h4⟩ := HS.out
        refine ⟨S ++ [UInt8.ofNat dp], T ++ [UInt8.ofNat dq], by rw [h1, bs_append], by rw [h2, bs_append], by simp [h3], ?_⟩
        have := h4.step p q
        rw [hz2, hdp, hdq, hrp, hrq]
        exact this
      have hsz1 : (s ++ bs [UInt8.ofNat dp]).size ≤ 30 := by
        obtain ⟨S, T, h1, h2, h3, h4⟩ := HS2.out
        rw [h1, bs_size]; omega
      have hsz2 : (t ++ bs [UInt8.ofNat dq]).size ≤ 30 := by
        obtain ⟨S, T, h1, h2, h3, h4⟩ := HS2.out
        rw [h2, bs_size]; have := h4.2.2.1; omega
      have hz2a : -10 ≤ z2 := by rw [hz2]; split <;> omega
      have hz2b : z2 ≤ 10 := by rw [hz2]; split <;> omega
      have HZ : Hid (z2 = if z = 0 ∧ rp ≠ rq then ((rp : Nat) : Int) - ((rq : Nat) : Int) else z) := hz2
      have hq1 : (bs [UInt8.ofNat dp]).size = 1 := by rw [bs_size]; rfl
      have hq2 : (bs [UInt8.ofNat dq]).size = 1 := by rw [bs_size]; rfl
      have HC1 := fun u => conv_two u dp dq
      have HC2 := fun u => conv_two u dq dp
      have HCq : Hid (dp = dq → bs [UInt8.ofNat dp] = bs [UInt8.ofNat dq]) := fun e => by rw [e]
      generalize bs [UInt8.ofNat dp] = cp at *
      generalize bs [UInt8.ofNat dq] = cq at *
      clear hz2 hdp hrp hdq hrq HS
      go_upto_region 5 with fail
      go_cut [11, 12] (fun t11 t12 wc => t11 = .int .u8 rp ∧ t12 = .int .u8 rq ∧ Hid (Below w.heap.size w wc))
      case first =>
        go_quiet (fail)
        go_wp2_with fail
        go_meet
        case rel => exact ⟨by rw [e1], by rw [e3], below_drewN HBr.out nq⟩
      case rest =>
        obtain ⟨rfl, rfl, HBc⟩ := hcut
        obtain ⟨q1, q2, q3⟩ := HC1 wc
        obtain ⟨q4, q5, q6⟩ := HC2 wc
        have HBn1 : Hid (Below w.heap.size w ((wc.drew.alloc (.cells #[.int .u8 (dp : Int)] 5)).alloc (.cells #[.int .u8 (dq : Int)] 5))) := (HBc.out.drew.alloc HBc.out.size _).alloc (by have := HBc.out.size; simp; omega) _
        have HBn2 : Hid (Below w.heap.size w ((wc.drew.alloc (.cells #[.int .u8 (dq : Int)] 5)).alloc (.cells #[.int .u8 (dp : Int)] 5))) := (HBc.out.drew.alloc HBc.out.size _).alloc (by have := HBc.out.size; simp; omega) _
        have wp1 : IntKind.u8.wrap (dp : Int) = (dp : Int) := by rw [IntKind.wrap_u8]; omega
        have wp2 : IntKind.u8.wrap (dq : Int) = (dq : Int) := by rw [IntKind.wrap_u8]; omega
        clear HC1 HC2 hca hcb
        by_cases d1 : z = 0
        · by_cases d2 : rp = rq
          · have d2b : ((rp : Int) != (rq : Int)) = false := by simp; omega
            have e : z2 = z := by rw [HZ.out, if_neg (by omega)]
            subst e
            have ed : dp = dq := by omega
            have ec := HCq.out ed
            subst ed
            subst ec
            subst d2
            clear q4 q5 q6 HCq HZ wp2 e3 e4 hq2 d2b
            have d2b : ((rp : Int) != (rp : Int)) = false := by simp
            subst d1
            go_wp2_with fail
            go_region
            all_goals (go_wp2; go_roundw)
            all_goals first
              | exact ⟨i + 1, _, _, 0, by omega, by omega, by omega, by go_num, rfl, rfl, rfl, by omega, by omega, hsz1, hsz2, HS2, HBn1.out⟩
              | exact ⟨i + 1, _, _, 0, by omega, by omega, by omega, by go_num, rfl, rfl, rfl, by omega, by omega, hsz1, hsz2, HS2, HBn2.out⟩
              | (simp [intOf]; omega)
          · have d2b : ((rp : Int) != (rq : Int)) = true := by simp; omega
            have e : z2 = (rp : Int) - (rq : Int) := by rw [HZ.out, if_pos ⟨d1, d2⟩]
            subst e
            subst d1
            clear HCq HZ
            go_wp2_with fail
            go_region
            all_goals (go_wp2; go_roundw)
            all_goals first
              | exact ⟨i + 1, _, _, (rp : Int) - (rq : Int), by omega, by omega, by omega, by go_num, rfl, rfl, rfl, by omega, by omega, hsz1, hsz2, HS2, HBn1.out⟩
              | exact ⟨i + 1, _, _, (rp : Int) - (rq : Int), by omega, by omega, by omega, by go_num, rfl, rfl, rfl, by omega, by omega, hsz1, hsz2, HS2, HBn2.out⟩
              | (simp [intOf]; omega)
        · have d1b : ((z : Int) == 0) = false := by rw [beq_eq_false_iff_ne]; omega
          have e : z2 = z := by rw [HZ.out, if_neg (by omega)]
          subst e
          clear HCq HZ
          go_wp2_with fail
          go_region
          all_goals (go_wp2; go_roundw)
          all_goals first
            | exact ⟨i + 1, _, _, z2, by omega, by omega, by omega, by go_num, rfl, rfl, rfl, by omega, by omega, hsz1, hsz2, HS2, HBn1.out⟩
            | exact ⟨i + 1, _, _, z2, by omega, by omega, by omega, by go_num, rfl, rfl, rfl, by omega, by omega, hsz1, hsz2, HS2, HBn2.out⟩
            | (simp [intOf]; omega)
    · have hex : ¬ i < n ∨ (i < n ∧ ¬ i < m) ∨ (i < n ∧ i < m ∧ ¬ i < 30) := by omega
      rcases hex with c1 | ⟨c1, c2⟩ | ⟨c1, c2, c3⟩
      · have ci1 : ¬ (i : Int) < (n : Int) := by omega
        obtain ⟨S, T, hS1, hS2, hS3, hSt⟩ := HS.out
        obtain ⟨hSt1, hSt2, hSt3, hSt4⟩ := hSt
        by_cases hE : S = []
        · have hem : (s.toList == (⟨#[]⟩ : ByteArray).toList) = true := by rw [hS1, empty_eq, decide_eq_true hE]
          have hem2 : s.toList.isEmpty = true := by rw [hS1, bs_toList, hE]; rfl
          have hem3 : s.toList = [] := by rw [hS1, bs_toList, hE]
          clear hS1 hS2 hSt1 hSt2 hSt3 hSt4 hS3 hE HS
          go_wp2_with fail
          refine (decLives_any _).mono ?_
          rintro e w9 ⟨rfl, hb9⟩
          have HB9 : Hid (Below w.heap.size w w9) := HBr.out.trans (hb9.mono HBr.out.size)
          clear hb9
          go_wp2
          go_ret
          exact ⟨rfl, HB9.out⟩
        · have hem : (s.toList == (⟨#[]⟩ : ByteArray).toList) = false := by rw [hS1, empty_eq, decide_eq_false hE]
          have hem2 : s.toList.isEmpty = false := by rw [hS1, bs_toList]; cases S with | nil => exact absurd rfl hE | cons a b => rfl
          have hem3 : ¬ s.toList = [] := by rw [hS1, bs_toList]; exact hE
          have hE2 : T ≠ [] := fun e => hE (List.eq_nil_of_length_eq_zero (by rw [hSt3, e]; rfl))
          clear HS
          by_cases hx : 0 ≤ x
          · obtain ⟨xn, rfl⟩ := Int.eq_ofNat_of_zero_le hx
            have hxi : ¬ ((xn : Int) < 0) := by omega
            have hdg := lawDigits_any xn wr (by omega)
            have HH : Hid (s = bs S ∧ t = bs T) := ⟨hS1, hS2⟩
            clear hS1 hS2
            go_wp2_with fail
            refine hdg.mono ?_
            rintro e w4 ⟨⟨L, rfl, hL1, hL2, hL4, hL3⟩, hb4⟩
            have hL5 := hL4 5 (by decide) (by omega)
            have hB4 := HBr.out.trans (hb4.mono HBr.out.size)
            clear hb4 hdg
            obtain ⟨hS1, hS2⟩ := HH.out
            clear HH
            have hp1 := fun w => parse_any (S ++ 101 :: ((if false then [45] else []) ++ L)) w (by unfold maxLen; simp; omega)
            have hp2 := fun w => parse_any (T ++ 101 :: ((if false then [45] else []) ++ L)) w (by unfold maxLen; simp; omega)
            rw [parse_e hSt1 hE hL1 hL2 (by omega), hL3] at hp1
            rw [parse_e hSt2 hE2 hL1 hL2 (by omega), hL3] at hp2
            have hs1 : s ++ ((⟨#[101]⟩ : ByteArray) ++ bs L) = bs (S ++ 101 :: ((if false then [45] else []) ++ L)) := by
              rw [hS1, show (⟨#[101]⟩ : ByteArray) = bs [101] from rfl, bs_append, bs_append]; simp
            have hs2 : t ++ ((⟨#[101]⟩ : ByteArray) ++ bs L) = bs (T ++ 101 :: ((if false then [45] else []) ++ L)) := by
              rw [hS2, show (⟨#[101]⟩ : ByteArray) = bs [101] from rfl, bs_append, bs_append]; simp
            rw [← hs1] at hp1
            rw [← hs2] at hp2
            have hzE : ((⟨#[101]⟩ : ByteArray) ++ bs L).size ≤ 8 := by rw [show (⟨#[101]⟩ : ByteArray) = bs [101] from rfl, bs_append, bs_size]; simp; omega
            have hzL : (bs L).size ≤ 6 := by rw [bs_size]; omega
            have hzl : ((⟨#[101]⟩ : ByteArray) : ByteArray).size = 1 := rfl
            obtain ⟨V1, hV1e⟩ : ∃ V, V = decN (dv S 0) (if false then -(xn : Int) else xn) := ⟨_, rfl⟩
            obtain ⟨V2, hV2e⟩ : ∃ V, V = decN (dv T 0) (if false then -(xn : Int) else xn) := ⟨_, rfl⟩
            have HV : Hid ((S = T → V1 = V2) ∧ (dv T 0 < dv S 0 → V2 ≤ V1) ∧ (dv S 0 < dv T 0 → V1 ≤ V2)) := ⟨fun e => by rw [hV1e, hV2e, e], fun h => by rw [hV1e, hV2e]; exact decN_mono _ (by omega), fun h => by rw [hV1e, hV2e]; exact decN_mono _ (by omega)⟩
            have hV1 : V1 ≤ 9218868437227405312 := by rw [hV1e]; exact decN_le _ _
            have hV2 : V2 ≤ 9218868437227405312 := by rw [hV2e]; exact decN_le _ _
            have hp1' : ∀ w, Calls Tryd.prog 7 #[.string (s ++ ((⟨#[101]⟩ : ByteArray) ++ bs L))] w fun e w' => e = .returned (.tuple #[.int .u64 (V1 : Nat), .int .i64 (0 : Nat)]) ∧ Below w.heap.size w w' := by rw [hV1e]; exact hp1
            have hp2' : ∀ w, Calls Tryd.prog 7 #[.string (t ++ ((⟨#[101]⟩ : ByteArray) ++ bs L))] w fun e w' => e = .returned (.tuple #[.int .u64 (V2 : Nat), .int .i64 (0 : Nat)]) ∧ Below w.heap.size w w' := by rw [hV2e]; exact hp2
            have HP1 : Hid (∀ w, Calls Tryd.prog 7 #[.string (s ++ ((⟨#[101]⟩ : ByteArray) ++ bs L))] w fun e w' => e = .returned (.tuple #[.int .u64 (V1 : Nat), .int .i64 (0 : Nat)]) ∧ Below w.heap.size w w') := hp1'
            have HP2 : Hid (∀ w, Calls Tryd.prog 7 #[.string (t ++ ((⟨#[101]⟩ : ByteArray) ++ bs L))] w fun e w' => e = .returned (.tuple #[.int .u64 (V2 : Nat), .int .i64 (0 : Nat)]) ∧ Below w.heap.size w w') := hp2'
            clear hp1 hp2 hp1' hp2' hs1 hs2 hS1 hS2 hV1e hV2e hL1 hL2 hL3 hL4 hE hE2 hSt1 hSt2 hSt3 hS3
            generalize bs L = sL at *
            generalize hEE : (⟨#[101]⟩ : ByteArray) ++ sL = EE at *
            go_wp2_with fail
            refine (HP1.out _).mono ?_
            rintro e w5 ⟨rfl, hb5⟩
            have hB5 := hB4.trans (hb5.mono hB4.size)
            clear hb5
            go_wp2_with fail
            refine (HP2.out _).mono ?_
            rintro e WW ⟨rfl, hb6⟩
            have HBW : Hid (Below w.heap.size w WW) := hB5.trans (hb6.mono hB5.size)
            have hzW := HBW.out.size
            clear hb6 hB5
            rcases hSt4 with ⟨z0, hST⟩ | ⟨z0, hST⟩ | ⟨z0, hST⟩
            · have eV : V1 = V2 := HV.out.1 hST
              subst eV
              subst z0
              clear hST
              go_wp2_with fail
              refine (decLives_any _).mono ?_
              rintro e w9 ⟨rfl, hb9⟩
              have HB9 : Hid (Below w.heap.size w w9) := HBW.out.trans (hb9.mono HBW.out.size)
              clear hb9
              go_wp2
              go_ret
              exact ⟨rfl, HB9.out⟩
            · have hLs := refLess_any (V1 : Int) (V2 : Int) WW ⟨by omega, by omega⟩ ⟨by omega, by omega⟩
              rw [not_less hV1 hV2 (HV.out.2.1 hST)] at hLs
              have zi1 : ¬ z ≤ 0 := by omega
              have zi2 : (0 : Int) ≤ z := by omega
              have zi3 : (z != 0) = true := by simp; omega
              clear hST
              go_wp2_with fail
              refine hLs.mono ?_
              rintro e w8 ⟨rfl, hw8⟩
              rw [hw8]
              clear hw8 hLs
              go_wp2_with fail
              refine (decLives_any _).mono ?_
              rintro e w9 ⟨rfl, hb9⟩
              have HB9 : Hid (Below w.heap.size w w9) := HBW.out.trans (hb9.mono HBW.out.size)
              clear hb9
              go_wp2
              go_ret
              exact ⟨rfl, HB9.out⟩
            · have hLs := refLess_any (V2 : Int) (V1 : Int) WW ⟨by omega, by omega⟩ ⟨by omega, by omega⟩
              rw [not_less hV2 hV1 (HV.out.2.2 hST)] at hLs
              have zi1 : z ≤ 0 := by omega
              have zi2 : ¬ (0 : Int) ≤ z := by omega
              have zi3 : (z != 0) = true := by simp; omega
              clear hST
              go_wp2_with fail
              refine hLs.mono ?_
              rintro e w8 ⟨rfl, hw8⟩
              rw [hw8]
              clear hw8 hLs
              go_wp2_with fail
              refine (decLives_any _).mono ?_
              rintro e w9 ⟨rfl, hb9⟩
              have HB9 : Hid (Below w.heap.size w w9) := HBW.out.trans (hb9.mono HBW.out.size)
              clear hb9
              go_wp2
              go_ret
              exact ⟨rfl, HB9.out⟩
          · obtain ⟨xn, rfl⟩ : ∃ xn : Nat, x = -(xn : Int) := ⟨(-x).toNat, by omega⟩
            have hxi : (-(xn : Int)) < 0 := by omega
            have hdn := lawDigits_neg (-(xn : Int)) wr hx0 hxi
            have HH : Hid (s = bs S ∧ t = bs T) := ⟨hS1, hS2⟩
            clear hS1 hS2
            go_wp2_with fail
            refine hdn.mono ?_
            rintro e w3 ⟨⟨sj, rfl, hsj⟩, hb3⟩
            have hB3 := HBr.out.trans (hb3.mono HBr.out.size)
            have hdg := lawDigits_any xn w3 (by omega)
            have hz3 : (⟨#[101]⟩ : ByteArray).size = 1 := rfl
            clear hb3 hdn
            go_wp2_with fail
            refine hdg.mono ?_
            rintro e w4 ⟨⟨L, rfl, hL1, hL2, hL4, hL3⟩, hb4⟩
            have hL5 := hL4 5 (by decide) (by omega)
            have hB4 := hB3.trans (hb4.mono hB3.size)
            clear hb4 hdg
            obtain ⟨hS1, hS2⟩ := HH.out
            clear HH
            have hp1 := fun w => parse_any (S ++ 101 :: ((if true then [45] else []) ++ L)) w (by unfold maxLen; simp; omega)
            have hp2 := fun w => parse_any (T ++ 101 :: ((if true then [45] else []) ++ L)) w (by unfold maxLen; simp; omega)
            rw [parse_e hSt1 hE hL1 hL2 (by omega), hL3] at hp1
            rw [parse_e hSt2 hE2 hL1 hL2 (by omega), hL3] at hp2
            have hs1 : s ++ ((⟨#[101, 45]⟩ : ByteArray) ++ bs L) = bs (S ++ 101 :: ((if true then [45] else []) ++ L)) := by
              rw [hS1, show (⟨#[101, 45]⟩ : ByteArray) = bs [101, 45] from rfl, bs_append, bs_append]; simp
            have hs2 : t ++ ((⟨#[101, 45]⟩ : ByteArray) ++ bs L) = bs (T ++ 101 :: ((if true then [45] else []) ++ L)) := by
              rw [hS2, show (⟨#[101, 45]⟩ : ByteArray) = bs [101, 45] from rfl, bs_append, bs_append]; simp
            rw [← hs1] at hp1
            rw [← hs2] at hp2
            have hzE : ((⟨#[101, 45]⟩ : ByteArray) ++ bs L).size ≤ 8 := by rw [show (⟨#[101, 45]⟩ : ByteArray) = bs [101, 45] from rfl, bs_append, bs_size]; simp; omega
            have hzL : (bs L).size ≤ 6 := by rw [bs_size]; omega
            have hzl : ((⟨#[101, 45]⟩ : ByteArray) : ByteArray).size = 2 := rfl
            obtain ⟨V1, hV1e⟩ : ∃ V, V = decN (dv S 0) (if true then -(xn : Int) else xn) := ⟨_, rfl⟩
            obtain ⟨V2, hV2e⟩ : ∃ V, V = decN (dv T 0) (if true then -(xn : Int) else xn) := ⟨_, rfl⟩
            have HV : Hid ((S = T → V1 = V2) ∧ (dv T 0 < dv S 0 → V2 ≤ V1) ∧ (dv S 0 < dv T 0 → V1 ≤ V2)) := ⟨fun e => by rw [hV1e, hV2e, e], fun h => by rw [hV1e, hV2e]; exact decN_mono _ (by omega), fun h => by rw [hV1e, hV2e]; exact decN_mono _ (by omega)⟩
            have hV1 : V1 ≤ 9218868437227405312 := by rw [hV1e]; exact decN_le _ _
            have hV2 : V2 ≤ 9218868437227405312 := by rw [hV2e]; exact decN_le _ _
            have hp1' : ∀ w, Calls Tryd.prog 7 #[.string (s ++ ((⟨#[101, 45]⟩ : ByteArray) ++ bs L))] w fun e w' => e = .returned (.tuple #[.int .u64 (V1 : Nat), .int .i64 (0 : Nat)]) ∧ Below w.heap.size w w' := by rw [hV1e]; exact hp1
            have hp2' : ∀ w, Calls Tryd.prog 7 #[.string (t ++ ((⟨#[101, 45]⟩ : ByteArray) ++ bs L))] w fun e w' => e = .returned (.tuple #[.int .u64 (V2 : Nat), .int .i64 (0 : Nat)]) ∧ Below w.heap.size w w' := by rw [hV2e]; exact hp2
            have HP1 : Hid (∀ w, Calls Tryd.prog 7 #[.string (s ++ ((⟨#[101, 45]⟩ : ByteArray) ++ bs L))] w fun e w' => e = .returned (.tuple #[.int .u64 (V1 : Nat), .int .i64 (0 : Nat)]) ∧ Below w.heap.size w w') := hp1'
            have HP2 : Hid (∀ w, Calls Tryd.prog 7 #[.string (t ++ ((⟨#[101, 45]⟩ : ByteArray) ++ bs L))] w fun e w' => e = .returned (.tuple #[.int .u64 (V2 : Nat), .int .i64 (0 : Nat)]) ∧ Below w.heap.size w w') := hp2'
            clear hp1 hp2 hp1' hp2' hs1 hs2 hS1 hS2 hV1e hV2e hL1 hL2 hL3 hL4 hE hE2 hSt1 hSt2 hSt3 hS3
            generalize bs L = sL at *
            generalize hEE : (⟨#[101, 45]⟩ : ByteArray) ++ sL = EE at *
            go_wp2_with fail
            refine (HP1.out _).mono ?_
            rintro e w5 ⟨rfl, hb5⟩
            have hB5 := hB4.trans (hb5.mono hB4.size)
            clear hb5
            go_wp2_with fail
            refine (HP2.out _).mono ?_
            rintro e WW ⟨rfl, hb6⟩
            have HBW : Hid (Below w.heap.size w WW) := hB5.trans (hb6.mono hB5.size)
            have hzW := HBW.out.size
            clear hb6 hB5
            rcases hSt4 with ⟨z0, hST⟩ | ⟨z0, hST⟩ | ⟨z0, hST⟩
            · have eV : V1 = V2 := HV.out.1 hST
              subst eV
              subst z0
              clear hST
              go_wp2_with fail
              refine (decLives_any _).mono ?_
              rintro e w9 ⟨rfl, hb9⟩
              have HB9 : Hid (Below w.heap.size w w9) := HBW.out.trans (hb9.mono HBW.out.size)
              clear hb9
              go_wp2
              go_ret
              exact ⟨rfl, HB9.out⟩
            · have hLs := refLess_any (V1 : Int) (V2 : Int) WW ⟨by omega, by omega⟩ ⟨by omega, by omega⟩
              rw [not_less hV1 hV2 (HV.out.2.1 hST)] at hLs
              have zi1 : ¬ z ≤ 0 := by omega
              have zi2 : (0 : Int) ≤ z := by omega
              have zi3 : (z != 0) = true := by simp; omega
              clear hST
              go_wp2_with fail
              refine hLs.mono ?_
              rintro e w8 ⟨rfl, hw8⟩
              rw [hw8]
              clear hw8 hLs
              go_wp2_with fail
              refine (decLives_any _).mono ?_
              rintro e w9 ⟨rfl, hb9⟩
              have HB9 : Hid (Below w.heap.size w w9) := HBW.out.trans (hb9.mono HBW.out.size)
              clear hb9
              go_wp2
              go_ret
              exact ⟨rfl, HB9.out⟩
            · have hLs := refLess_any (V2 : Int) (V1 : Int) WW ⟨by omega, by omega⟩ ⟨by omega, by omega⟩
              rw [not_less hV2 hV1 (HV.out.2.2 hST)] at hLs
              have zi1 : z ≤ 0 := by omega
              have zi2 : ¬ (0 : Int) ≤ z := by omega
              have zi3 : (z != 0) = true := by simp; omega
              clear hST
              go_wp2_with fail
              refine hLs.mono ?_
              rintro e w8 ⟨rfl, hw8⟩
              rw [hw8]
              clear hw8 hLs
              go_wp2_with fail
              refine (decLives_any _).mono ?_
              rintro e w9 ⟨rfl, hb9⟩
              have HB9 : Hid (Below w.heap.size w w9) := HBW.out.trans (hb9.mono HBW.out.size)
              clear hb9
              go_wp2
              go_ret
              exact ⟨rfl, HB9.out⟩
      · have ci1 : (i : Int) < (n : Int) := by omega
        have ci2 : ¬ (i : Int) < (m : Int) := by omega
        obtain ⟨S, T, hS1, hS2, hS3, hSt⟩ := HS.out
        obtain ⟨hSt1, hSt2, hSt3, hSt4⟩ := hSt
        by_cases hE : S = []
        · have hem : (s.toList == (⟨#[]⟩ : ByteArray).toList) = true := by rw [hS1, empty_eq, decide_eq_true hE]
          have hem2 : s.toList.isEmpty = true := by rw [hS1, bs_toList, hE]; rfl
          have hem3 : s.toList = [] := by rw [hS1, bs_toList, hE]
          clear hS1 hS2 hSt1 hSt2 hSt3 hSt4 hS3 hE HS
          go_wp2_with fail
          refine (decLives_any _).mono ?_
          rintro e w9 ⟨rfl, hb9⟩
          have HB9 : Hid (Below w.heap.size w w9) := HBr.out.trans (hb9.mono HBr.out.size)
          clear hb9
          go_wp2
          go_ret
          exact ⟨rfl, HB9.out⟩
        · have hem : (s.toList == (⟨#[]⟩ : ByteArray).toList) = false := by rw [hS1, empty_eq, decide_eq_false hE]
          have hem2 : s.toList.isEmpty = false := by rw [hS1, bs_toList]; cases S with | nil => exact absurd rfl hE | cons a b => rfl
          have hem3 : ¬ s.toList = [] := by rw [hS1, bs_toList]; exact hE
          have hE2 : T ≠ [] := fun e => hE (List.eq_nil_of_length_eq_zero (by rw [hSt3, e]; rfl))
          clear HS
          by_cases hx : 0 ≤ x
          · obtain ⟨xn, rfl⟩ := Int.eq_ofNat_of_zero_le hx
            have hxi : ¬ ((xn : Int) < 0) := by omega
            have hdg := lawDigits_any xn wr (by omega)
            have HH : Hid (s = bs S ∧ t = bs T) := ⟨hS1, hS2⟩
            clear hS1 hS2
            go_wp2_with fail
            refine hdg.mono ?_
            rintro e w4 ⟨⟨L, rfl, hL1, hL2, hL4, hL3⟩, hb4⟩
            have hL5 := hL4 5 (by decide) (by omega)
            have hB4 := HBr.out.trans (hb4.mono HBr.out.size)
            clear hb4 hdg
            obtain ⟨hS1, hS2⟩ := HH.out
            clear HH
            have hp1 := fun w => parse_any (S ++ 101 :: ((if false then [45] else []) ++ L)) w (by unfold maxLen; simp; omega)
            have hp2 := fun w => parse_any (T ++ 101 :: ((if false then [45] else []) ++ L)) w (by unfold maxLen; simp; omega)
            rw [parse_e hSt1 hE hL1 hL2 (by omega), hL3] at hp1
            rw [parse_e hSt2 hE2 hL1 hL2 (by omega), hL3] at hp2
            have hs1 : s ++ ((⟨#[101]⟩ : ByteArray) ++ bs L) = bs (S ++ 101 :: ((if false then [45] else []) ++ L)) := by
              rw [hS1, show (⟨#[101]⟩ : ByteArray) = bs [101] from rfl, bs_append, bs_append]; simp
            have hs2 : t ++ ((⟨#[101]⟩ : ByteArray) ++ bs L) = bs (T ++ 101 :: ((if false then [45] else []) ++ L)) := by
              rw [hS2, show (⟨#[101]⟩ : ByteArray) = bs [101] from rfl, bs_append, bs_append]; simp
            rw [← hs1] at hp1
            rw [← hs2] at hp2
            have hzE : ((⟨#[101]⟩ : ByteArray) ++ bs L).size ≤ 8 := by rw [show (⟨#[101]⟩ : ByteArray) = bs [101] from rfl, bs_append, bs_size]; simp; omega
            have hzL : (bs L).size ≤ 6 := by rw [bs_size]; omega
            have hzl : ((⟨#[101]⟩ : ByteArray) : ByteArray).size = 1 := rfl
            obtain ⟨V1, hV1e⟩ : ∃ V, V = decN (dv S 0) (if false then -(xn : Int) else xn) := ⟨_, rfl⟩
            obtain ⟨V2, hV2e⟩ : ∃ V, V = decN (dv T 0) (if false then -(xn : Int) else xn) := ⟨_, rfl⟩
            have HV : Hid ((S = T → V1 = V2) ∧ (dv T 0 < dv S 0 → V2 ≤ V1) ∧ (dv S 0 < dv T 0 → V1 ≤ V2)) := ⟨fun e => by rw [hV1e, hV2e, e], fun h => by rw [hV1e, hV2e]; exact decN_mono _ (by omega), fun h => by rw [hV1e, hV2e]; exact decN_mono _ (by omega)⟩
            have hV1 : V1 ≤ 9218868437227405312 := by rw [hV1e]; exact decN_le _ _
            have hV2 : V2 ≤ 9218868437227405312 := by rw [hV2e]; exact decN_le _ _
            have hp1' : ∀ w, Calls Tryd.prog 7 #[.string (s ++ ((⟨#[101]⟩ : ByteArray) ++ bs L))] w fun e w' => e = .returned (.tuple #[.int .u64 (V1 : Nat), .int .i64 (0 : Nat)]) ∧ Below w.heap.size w w' := by rw [hV1e]; exact hp1
            have hp2' : ∀ w, Calls Tryd.prog 7 #[.string (t ++ ((⟨#[101]⟩ : ByteArray) ++ bs L))] w fun e w' => e = .returned (.tuple #[.int .u64 (V2 : Nat), .int .i64 (0 : Nat)]) ∧ Below w.heap.size w w' := by rw [hV2e]; exact hp2
            have HP1 : Hid (∀ w, Calls Tryd.prog 7 #[.string (s ++ ((⟨#[101]⟩ : ByteArray) ++ bs L))] w fun e w' => e = .returned (.tuple #[.int .u64 (V1 : Nat), .int .i64 (0 : Nat)]) ∧ Below w.heap.size w w') := hp1'
            have HP2 : Hid (∀ w, Calls Tryd.prog 7 #[.string (t ++ ((⟨#[101]⟩ : ByteArray) ++ bs L))] w fun e w' => e = .returned (.tuple #[.int .u64 (V2 : Nat), .int .i64 (0 : Nat)]) ∧ Below w.heap.size w w') := hp2'
            clear hp1 hp2 hp1' hp2' hs1 hs2 hS1 hS2 hV1e hV2e hL1 hL2 hL3 hL4 hE hE2 hSt1 hSt2 hSt3 hS3
            generalize bs L = sL at *
            generalize hEE : (⟨#[101]⟩ : ByteArray) ++ sL = EE at *
            go_wp2_with fail
            refine (HP1.out _).mono ?_
            rintro e w5 ⟨rfl, hb5⟩
            have hB5 := hB4.trans (hb5.mono hB4.size)
            clear hb5
            go_wp2_with fail
            refine (HP2.out _).mono ?_
            rintro e WW ⟨rfl, hb6⟩
            have HBW : Hid (Below w.heap.size w WW) := hB5.trans (hb6.mono hB5.size)
            have hzW := HBW.out.size
            clear hb6 hB5
            rcases hSt4 with ⟨z0, hST⟩ | ⟨z0, hST⟩ | ⟨z0, hST⟩
            · have eV : V1 = V2 := HV.out.1 hST
              subst eV
              subst z0
              clear hST
              go_wp2_with fail
              refine (decLives_any _).mono ?_
              rintro e w9 ⟨rfl, hb9⟩
              have HB9 : Hid (Below w.heap.size w w9) := HBW.out.trans (hb9.mono HBW.out.size)
              clear hb9
              go_wp2
              go_ret
              exact ⟨rfl, HB9.out⟩
            · have hLs := refLess_any (V1 : Int) (V2 : Int) WW ⟨by omega, by omega⟩ ⟨by omega, by omega⟩
              rw [not_less hV1 hV2 (HV.out.2.1 hST)] at hLs
              have zi1 : ¬ z ≤ 0 := by omega
              have zi2 : (0 : Int) ≤ z := by omega
              have zi3 : (z != 0) = true := by simp; omega
              clear hST
              go_wp2_with fail
              refine hLs.mono ?_
              rintro e w8 ⟨rfl, hw8⟩
              rw [hw8]
              clear hw8 hLs
              go_wp2_with fail
              refine (decLives_any _).mono ?_
              rintro e w9 ⟨rfl, hb9⟩
              have HB9 : Hid (Below w.heap.size w w9) := HBW.out.trans (hb9.mono HBW.out.size)
              clear hb9
              go_wp2
              go_ret
              exact ⟨rfl, HB9.out⟩
            · have hLs := refLess_any (V2 : Int) (V1 : Int) WW ⟨by omega, by omega⟩ ⟨by omega, by omega⟩
              rw [not_less hV2 hV1 (HV.out.2.2 hST)] at hLs
              have zi1 : z ≤ 0 := by omega
              have zi2 : ¬ (0 : Int) ≤ z := by omega
              have zi3 : (z != 0) = true := by simp; omega
              clear hST
              go_wp2_with fail
              refine hLs.mono ?_
              rintro e w8 ⟨rfl, hw8⟩
              rw [hw8]
              clear hw8 hLs
              go_wp2_with fail
              refine (decLives_any _).mono ?_
              rintro e w9 ⟨rfl, hb9⟩
              have HB9 : Hid (Below w.heap.size w w9) := HBW.out.trans (hb9.mono HBW.out.size)
              clear hb9
              go_wp2
              go_ret
              exact ⟨rfl, HB9.out⟩
          · obtain ⟨xn, rfl⟩ : ∃ xn : Nat, x = -(xn : Int) := ⟨(-x).toNat, by omega⟩
            have hxi : (-(xn : Int)) < 0 := by omega
            have hdn := lawDigits_neg (-(xn : Int)) wr hx0 hxi
            have HH : Hid (s = bs S ∧ t = bs T) := ⟨hS1, hS2⟩
            clear hS1 hS2
            go_wp2_with fail
            refine hdn.mono ?_
            rintro e w3 ⟨⟨sj, rfl, hsj⟩, hb3⟩
            have hB3 := HBr.out.trans (hb3.mono HBr.out.size)
            have hdg := lawDigits_any xn w3 (by omega)
            have hz3 : (⟨#[101]⟩ : ByteArray).size = 1 := rfl
            clear hb3 hdn
            go_wp2_with fail
            refine hdg.mono ?_
            rintro e w4 ⟨⟨L, rfl, hL1, hL2, hL4, hL3⟩, hb4⟩
            have hL5 := hL4 5 (by decide) (by omega)
            have hB4 := hB3.trans (hb4.mono hB3.size)
            clear hb4 hdg
            obtain ⟨hS1, hS2⟩ := HH.out
            clear HH
            have hp1 := fun w => parse_any (S ++ 101 :: ((if true then [45] else []) ++ L)) w (by unfold maxLen; simp; omega)
            have hp2 := fun w => parse_any (T ++ 101 :: ((if true then [45] else []) ++ L)) w (by unfold maxLen; simp; omega)
            rw [parse_e hSt1 hE hL1 hL2 (by omega), hL3] at hp1
            rw [parse_e hSt2 hE2 hL1 hL2 (by omega), hL3] at hp2
            have hs1 : s ++ ((⟨#[101, 45]⟩ : ByteArray) ++ bs L) = bs (S ++ 101 :: ((if true then [45] else []) ++ L)) := by
              rw [hS1, show (⟨#[101, 45]⟩ : ByteArray) = bs [101, 45] from rfl, bs_append, bs_append]; simp
            have hs2 : t ++ ((⟨#[101, 45]⟩ : ByteArray) ++ bs L) = bs (T ++ 101 :: ((if true then [45] else []) ++ L)) := by
              rw [hS2, show (⟨#[101, 45]⟩ : ByteArray) = bs [101, 45] from rfl, bs_append, bs_append]; simp
            rw [← hs1] at hp1
            rw [← hs2] at hp2
            have hzE : ((⟨#[101, 45]⟩ : ByteArray) ++ bs L).size ≤ 8 := by rw [show (⟨#[101, 45]⟩ : ByteArray) = bs [101, 45] from rfl, bs_append, bs_size]; simp; omega
            have hzL : (bs L).size ≤ 6 := by rw [bs_size]; omega
            have hzl : ((⟨#[101, 45]⟩ : ByteArray) : ByteArray).size = 2 := rfl
            obtain ⟨V1, hV1e⟩ : ∃ V, V = decN (dv S 0) (if true then -(xn : Int) else xn) := ⟨_, rfl⟩
            obtain ⟨V2, hV2e⟩ : ∃ V, V = decN (dv T 0) (if true then -(xn : Int) else xn) := ⟨_, rfl⟩
            have HV : Hid ((S = T → V1 = V2) ∧ (dv T 0 < dv S 0 → V2 ≤ V1) ∧ (dv S 0 < dv T 0 → V1 ≤ V2)) := ⟨fun e => by rw [hV1e, hV2e, e], fun h => by rw [hV1e, hV2e]; exact decN_mono _ (by omega), fun h => by rw [hV1e, hV2e]; exact decN_mono _ (by omega)⟩
            have hV1 : V1 ≤ 9218868437227405312 := by rw [hV1e]; exact decN_le _ _
            have hV2 : V2 ≤ 9218868437227405312 := by rw [hV2e]; exact decN_le _ _
            have hp1' : ∀ w, Calls Tryd.prog 7 #[.string (s ++ ((⟨#[101, 45]⟩ : ByteArray) ++ bs L))] w fun e w' => e = .returned (.tuple #[.int .u64 (V1 : Nat), .int .i64 (0 : Nat)]) ∧ Below w.heap.size w w' := by rw [hV1e]; exact hp1
            have hp2' : ∀ w, Calls Tryd.prog 7 #[.string (t ++ ((⟨#[101, 45]⟩ : ByteArray) ++ bs L))] w fun e w' => e = .returned (.tuple #[.int .u64 (V2 : Nat), .int .i64 (0 : Nat)]) ∧ Below w.heap.size w w' := by rw [hV2e]; exact hp2
            have HP1 : Hid (∀ w, Calls Tryd.prog 7 #[.string (s ++ ((⟨#[101, 45]⟩ : ByteArray) ++ bs L))] w fun e w' => e = .returned (.tuple #[.int .u64 (V1 : Nat), .int .i64 (0 : Nat)]) ∧ Below w.heap.size w w') := hp1'
            have HP2 : Hid (∀ w, Calls Tryd.prog 7 #[.string (t ++ ((⟨#[101, 45]⟩ : ByteArray) ++ bs L))] w fun e w' => e = .returned (.tuple #[.int .u64 (V2 : Nat), .int .i64 (0 : Nat)]) ∧ Below w.heap.size w w') := hp2'
            clear hp1 hp2 hp1' hp2' hs1 hs2 hS1 hS2 hV1e hV2e hL1 hL2 hL3 hL4 hE hE2 hSt1 hSt2 hSt3 hS3
            generalize bs L = sL at *
            generalize hEE : (⟨#[101, 45]⟩ : ByteArray) ++ sL = EE at *
            go_wp2_with fail
            refine (HP1.out _).mono ?_
            rintro e w5 ⟨rfl, hb5⟩
            have hB5 := hB4.trans (hb5.mono hB4.size)
            clear hb5
            go_wp2_with fail
            refine (HP2.out _).mono ?_
            rintro e WW ⟨rfl, hb6⟩
            have HBW : Hid (Below w.heap.size w WW) := hB5.trans (hb6.mono hB5.size)
            have hzW := HBW.out.size
            clear hb6 hB5
            rcases hSt4 with ⟨z0, hST⟩ | ⟨z0, hST⟩ | ⟨z0, hST⟩
            · have eV : V1 = V2 := HV.out.1 hST
              subst eV
              subst z0
              clear hST
              go_wp2_with fail
              refine (decLives_any _).mono ?_
              rintro e w9 ⟨rfl, hb9⟩
              have HB9 : Hid (Below w.heap.size w w9) := HBW.out.trans (hb9.mono HBW.out.size)
              clear hb9
              go_wp2
              go_ret
              exact ⟨rfl, HB9.out⟩
            · have hLs := refLess_any (V1 : Int) (V2 : Int) WW ⟨by omega, by omega⟩ ⟨by omega, by omega⟩
              rw [not_less hV1 hV2 (HV.out.2.1 hST)] at hLs
              have zi1 : ¬ z ≤ 0 := by omega
              have zi2 : (0 : Int) ≤ z := by omega
              have zi3 : (z != 0) = true := by simp; omega
              clear hST
              go_wp2_with fail
              refine hLs.mono ?_
              rintro e w8 ⟨rfl, hw8⟩
              rw [hw8]
              clear hw8 hLs
              go_wp2_with fail
              refine (decLives_any _).mono ?_
              rintro e w9 ⟨rfl, hb9⟩
              have HB9 : Hid (Below w.heap.size w w9) := HBW.out.trans (hb9.mono HBW.out.size)
              clear hb9
              go_wp2
              go_ret
              exact ⟨rfl, HB9.out⟩
            · have hLs := refLess_any (V2 : Int) (V1 : Int) WW ⟨by omega, by omega⟩ ⟨by omega, by omega⟩
              rw [not_less hV2 hV1 (HV.out.2.2 hST)] at hLs
              have zi1 : z ≤ 0 := by omega
              have zi2 : ¬ (0 : Int) ≤ z := by omega
              have zi3 : (z != 0) = true := by simp; omega
              clear hST
              go_wp2_with fail
              refine hLs.mono ?_
              rintro e w8 ⟨rfl, hw8⟩
              rw [hw8]
              clear hw8 hLs
              go_wp2_with fail
              refine (decLives_any _).mono ?_
              rintro e w9 ⟨rfl, hb9⟩
              have HB9 : Hid (Below w.heap.size w w9) := HBW.out.trans (hb9.mono HBW.out.size)
              clear hb9
              go_wp2
              go_ret
              exact ⟨rfl, HB9.out⟩
      · have ci1 : (i : Int) < (n : Int) := by omega
        have ci2 : (i : Int) < (m : Int) := by omega
        have ci3 : ¬ (i : Int) < 30 := by omega
        obtain ⟨S, T, hS1, hS2, hS3, hSt⟩ := HS.out
        obtain ⟨hSt1, hSt2, hSt3, hSt4⟩ := hSt
        by_cases hE : S = []
        · have hem : (s.toList == (⟨#[]⟩ : ByteArray).toList) = true := by rw [hS1, empty_eq, decide_eq_true hE]
          have hem2 : s.toList.isEmpty = true := by rw [hS1, bs_toList, hE]; rfl
          have hem3 : s.toList = [] := by rw [hS1, bs_toList, hE]
          clear hS1 hS2 hSt1 hSt2 hSt3 hSt4 hS3 hE HS
          go_wp2_with fail
          refine (decLives_any _).mono ?_
          rintro e w9 ⟨rfl, hb9⟩
          have HB9 : Hid (Below w.heap.size w w9) := HBr.out.trans (hb9.mono HBr.out.size)
          clear hb9
          go_wp2
          go_ret
          exact ⟨rfl, HB9.out⟩
        · have hem : (s.toList == (⟨#[]⟩ : ByteArray).toList) = false := by rw [hS1, empty_eq, decide_eq_false hE]
          have hem2 : s.toList.isEmpty = false := by rw [hS1, bs_toList]; cases S with | nil => exact absurd rfl hE | cons a b => rfl
          have hem3 : ¬ s.toList = [] := by rw [hS1, bs_toList]; exact hE
          have hE2 : T ≠ [] := fun e => hE (List.eq_nil_of_length_eq_zero (by rw [hSt3, e]; rfl))
          clear HS
          by_cases hx : 0 ≤ x
          · obtain ⟨xn, rfl⟩ := Int.eq_ofNat_of_zero_le hx
            have hxi : ¬ ((xn : Int) < 0) := by omega
            have hdg := lawDigits_any xn wr (by omega)
            have HH : Hid (s = bs S ∧ t = bs T) := ⟨hS1, hS2⟩
            clear hS1 hS2
            go_wp2_with fail
            refine hdg.mono ?_
            rintro e w4 ⟨⟨L, rfl, hL1, hL2, hL4, hL3⟩, hb4⟩
            have hL5 := hL4 5 (by decide) (by omega)
            have hB4 := HBr.out.trans (hb4.mono HBr.out.size)
            clear hb4 hdg
            obtain ⟨hS1, hS2⟩ := HH.out
            clear HH
            have hp1 := fun w => parse_any (S ++ 101 :: ((if false then [45] else []) ++ L)) w (by unfold maxLen; simp; omega)
            have hp2 := fun w => parse_any (T ++ 101 :: ((if false then [45] else []) ++ L)) w (by unfold maxLen; simp; omega)
            rw [parse_e hSt1 hE hL1 hL2 (by omega), hL3] at hp1
            rw [parse_e hSt2 hE2 hL1 hL2 (by omega), hL3] at hp2
            have hs1 : s ++ ((⟨#[101]⟩ : ByteArray) ++ bs L) = bs (S ++ 101 :: ((if false then [45] else []) ++ L)) := by
              rw [hS1, show (⟨#[101]⟩ : ByteArray) = bs [101] from rfl, bs_append, bs_append]; simp
            have hs2 : t ++ ((⟨#[101]⟩ : ByteArray) ++ bs L) = bs (T ++ 101 :: ((if false then [45] else []) ++ L)) := by
              rw [hS2, show (⟨#[101]⟩ : ByteArray) = bs [101] from rfl, bs_append, bs_append]; simp
            rw [← hs1] at hp1
            rw [← hs2] at hp2
            have hzE : ((⟨#[101]⟩ : ByteArray) ++ bs L).size ≤ 8 := by rw [show (⟨#[101]⟩ : ByteArray) = bs [101] from rfl, bs_append, bs_size]; simp; omega
            have hzL : (bs L).size ≤ 6 := by rw [bs_size]; omega
            have hzl : ((⟨#[101]⟩ : ByteArray) : ByteArray).size = 1 := rfl
            obtain ⟨V1, hV1e⟩ : ∃ V, V = decN (dv S 0) (if false then -(xn : Int) else xn) := ⟨_, rfl⟩
            obtain ⟨V2, hV2e⟩ : ∃ V, V = decN (dv T 0) (if false then -(xn : Int) else xn) := ⟨_, rfl⟩
            have HV : Hid ((S = T → V1 = V2) ∧ (dv T 0 < dv S 0 → V2 ≤ V1) ∧ (dv S 0 < dv T 0 → V1 ≤ V2)) := ⟨fun e => by rw [hV1e, hV2e, e], fun h => by rw [hV1e, hV2e]; exact decN_mono _ (by omega), fun h => by rw [hV1e, hV2e]; exact decN_mono _ (by omega)⟩
            have hV1 : V1 ≤ 9218868437227405312 := by rw [hV1e]; exact decN_le _ _
            have hV2 : V2 ≤ 9218868437227405312 := by rw [hV2e]; exact decN_le _ _
            have hp1' : ∀ w, Calls Tryd.prog 7 #[.string (s ++ ((⟨#[101]⟩ : ByteArray) ++ bs L))] w fun e w' => e = .returned (.tuple #[.int .u64 (V1 : Nat), .int .i64 (0 : Nat)]) ∧ Below w.heap.size w w' := by rw [hV1e]; exact hp1
            have hp2' : ∀ w, Calls Tryd.prog 7 #[.string (t ++ ((⟨#[101]⟩ : ByteArray) ++ bs L))] w fun e w' => e = .returned (.tuple #[.int .u64 (V2 : Nat), .int .i64 (0 : Nat)]) ∧ Below w.heap.size w w' := by rw [hV2e]; exact hp2
            have HP1 : Hid (∀ w, Calls Tryd.prog 7 #[.string (s ++ ((⟨#[101]⟩ : ByteArray) ++ bs L))] w fun e w' => e = .returned (.tuple #[.int .u64 (V1 : Nat), .int .i64 (0 : Nat)]) ∧ Below w.heap.size w w') := hp1'
            have HP2 : Hid (∀ w, Calls Tryd.prog 7 #[.string (t ++ ((⟨#[101]⟩ : ByteArray) ++ bs L))] w fun e w' => e = .returned (.tuple #[.int .u64 (V2 : Nat), .int .i64 (0 : Nat)]) ∧ Below w.heap.size w w') := hp2'
            clear hp1 hp2 hp1' hp2' hs1 hs2 hS1 hS2 hV1e hV2e hL1 hL2 hL3 hL4 hE hE2 hSt1 hSt2 hSt3 hS3
            generalize bs L = sL at *
            generalize hEE : (⟨#[101]⟩ : ByteArray) ++ sL = EE at *
            go_wp2_with fail
            refine (HP1.out _).mono ?_
            rintro e w5 ⟨rfl, hb5⟩
            have hB5 := hB4.trans (hb5.mono hB4.size)
            clear hb5
            go_wp2_with fail
            refine (HP2.out _).mono ?_
            rintro e WW ⟨rfl, hb6⟩
            have HBW : Hid (Below w.heap.size w WW) := hB5.trans (hb6.mono hB5.size)
            have hzW := HBW.out.size
            clear hb6 hB5
            rcases hSt4 with ⟨z0, hST⟩ | ⟨z0, hST⟩ | ⟨z0, hST⟩
            · have eV : V1 = V2 := HV.out.1 hST
              subst eV
              subst z0
              clear hST
              go_wp2_with fail
              refine (decLives_any _).mono ?_
              rintro e w9 ⟨rfl, hb9⟩
              have HB9 : Hid (Below w.heap.size w w9) := HBW.out.trans (hb9.mono HBW.out.size)
              clear hb9
              go_wp2
              go_ret
              exact ⟨rfl, HB9.out⟩
            · have hLs := refLess_any (V1 : Int) (V2 : Int) WW ⟨by omega, by omega⟩ ⟨by omega, by omega⟩
              rw [not_less hV1 hV2 (HV.out.2.1 hST)] at hLs
              have zi1 : ¬ z ≤ 0 := by omega
              have zi2 : (0 : Int) ≤ z := by omega
              have zi3 : (z != 0) = true := by simp; omega
              clear hST
              go_wp2_with fail
              refine hLs.mono ?_
              rintro e w8 ⟨rfl, hw8⟩
              rw [hw8]
              clear hw8 hLs
              go_wp2_with fail
              refine (decLives_any _).mono ?_
              rintro e w9 ⟨rfl, hb9⟩
              have HB9 : Hid (Below w.heap.size w w9) := HBW.out.trans (hb9.mono HBW.out.size)
              clear hb9
              go_wp2
              go_ret
              exact ⟨rfl, HB9.out⟩
            · have hLs := refLess_any (V2 : Int) (V1 : Int) WW ⟨by omega, by omega⟩ ⟨by omega, by omega⟩
              rw [not_less hV2 hV1 (HV.out.2.2 hST)] at hLs
              have zi1 : z ≤ 0 := by omega
              have zi2 : ¬ (0 : Int) ≤ z := by omega
              have zi3 : (z != 0) = true := by simp; omega
              clear hST
              go_wp2_with fail
              refine hLs.mono ?_
              rintro e w8 ⟨rfl, hw8⟩
              rw [hw8]
              clear hw8 hLs
              go_wp2_with fail
              refine (decLives_any _).mono ?_
              rintro e w9 ⟨rfl, hb9⟩
              have HB9 : Hid (Below w.heap.size w w9) := HBW.out.trans (hb9.mono HBW.out.size)
              clear hb9
              go_wp2
              go_ret
              exact ⟨rfl, HB9.out⟩
          · obtain ⟨xn, rfl⟩ : ∃ xn : Nat, x = -(xn : Int) := ⟨(-x).toNat, by omega⟩
            have hxi : (-(xn : Int)) < 0 := by omega
            have hdn := lawDigits_neg (-(xn : Int)) wr hx0 hxi
            have HH : Hid (s = bs S ∧ t = bs T) := ⟨hS1, hS2⟩
            clear hS1 hS2
            go_wp2_with fail
            refine hdn.mono ?_
            rintro e w3 ⟨⟨sj, rfl, hsj⟩, hb3⟩
            have hB3 := HBr.out.trans (hb3.mono HBr.out.size)
            have hdg := lawDigits_any xn w3 (by omega)
            have hz3 : (⟨#[101]⟩ : ByteArray).size = 1 := rfl
            clear hb3 hdn
            go_wp2_with fail
            refine hdg.mono ?_
            rintro e w4 ⟨⟨L, rfl, hL1, hL2, hL4, hL3⟩, hb4⟩
            have hL5 := hL4 5 (by decide) (by omega)
            have hB4 := hB3.trans (hb4.mono hB3.size)
            clear hb4 hdg
            obtain ⟨hS1, hS2⟩ := HH.out
            clear HH
            have hp1 := fun w => parse_any (S ++ 101 :: ((if true then [45] else []) ++ L)) w (by unfold maxLen; simp; omega)
            have hp2 := fun w => parse_any (T ++ 101 :: ((if true then [45] else []) ++ L)) w (by unfold maxLen; simp; omega)
            rw [parse_e hSt1 hE hL1 hL2 (by omega), hL3] at hp1
            rw [parse_e hSt2 hE2 hL1 hL2 (by omega), hL3] at hp2
            have hs1 : s ++ ((⟨#[101, 45]⟩ : ByteArray) ++ bs L) = bs (S ++ 101 :: ((if true then [45] else []) ++ L)) := by
              rw [hS1, show (⟨#[101, 45]⟩ : ByteArray) = bs [101, 45] from rfl, bs_append, bs_append]; simp
            have hs2 : t ++ ((⟨#[101, 45]⟩ : ByteArray) ++ bs L) = bs (T ++ 101 :: ((if true then [45] else []) ++ L)) := by
              rw [hS2, show (⟨#[101, 45]⟩ : ByteArray) = bs [101, 45] from rfl, bs_append, bs_append]; simp
            rw [← hs1] at hp1
            rw [← hs2] at hp2
            have hzE : ((⟨#[101, 45]⟩ : ByteArray) ++ bs L).size ≤ 8 := by rw [show (⟨#[101, 45]⟩ : ByteArray) = bs [101, 45] from rfl, bs_append, bs_size]; simp; omega
            have hzL : (bs L).size ≤ 6 := by rw [bs_size]; omega
            have hzl : ((⟨#[101, 45]⟩ : ByteArray) : ByteArray).size = 2 := rfl
            obtain ⟨V1, hV1e⟩ : ∃ V, V = decN (dv S 0) (if true then -(xn : Int) else xn) := ⟨_, rfl⟩
            obtain ⟨V2, hV2e⟩ : ∃ V, V = decN (dv T 0) (if true then -(xn : Int) else xn) := ⟨_, rfl⟩
            have HV : Hid ((S = T → V1 = V2) ∧ (dv T 0 < dv S 0 → V2 ≤ V1) ∧ (dv S 0 < dv T 0 → V1 ≤ V2)) := ⟨fun e => by rw [hV1e, hV2e, e], fun h => by rw [hV1e, hV2e]; exact decN_mono _ (by omega), fun h => by rw [hV1e, hV2e]; exact decN_mono _ (by omega)⟩
            have hV1 : V1 ≤ 9218868437227405312 := by rw [hV1e]; exact decN_le _ _
            have hV2 : V2 ≤ 9218868437227405312 := by rw [hV2e]; exact decN_le _ _
            have hp1' : ∀ w, Calls Tryd.prog 7 #[.string (s ++ ((⟨#[101, 45]⟩ : ByteArray) ++ bs L))] w fun e w' => e = .returned (.tuple #[.int .u64 (V1 : Nat), .int .i64 (0 : Nat)]) ∧ Below w.heap.size w w' := by rw [hV1e]; exact hp1
            have hp2' : ∀ w, Calls Tryd.prog 7 #[.string (t ++ ((⟨#[101, 45]⟩ : ByteArray) ++ bs L))] w fun e w' => e = .returned (.tuple #[.int .u64 (V2 : Nat), .int .i64 (0 : Nat)]) ∧ Below w.heap.size w w' := by rw [hV2e]; exact hp2
            have HP1 : Hid (∀ w, Calls Tryd.prog 7 #[.string (s ++ ((⟨#[101, 45]⟩ : ByteArray) ++ bs L))] w fun e w' => e = .returned (.tuple #[.int .u64 (V1 : Nat), .int .i64 (0 : Nat)]) ∧ Below w.heap.size w w') := hp1'
            have HP2 : Hid (∀ w, Calls Tryd.prog 7 #[.string (t ++ ((⟨#[101, 45]⟩ : ByteArray) ++ bs L))] w fun e w' => e = .returned (.tuple #[.int .u64 (V2 : Nat), .int .i64 (0 : Nat)]) ∧ Below w.heap.size w w') := hp2'
            clear hp1 hp2 hp1' hp2' hs1 hs2 hS1 hS2 hV1e hV2e hL1 hL2 hL3 hL4 hE hE2 hSt1 hSt2 hSt3 hS3
            generalize bs L = sL at *
            generalize hEE : (⟨#[101, 45]⟩ : ByteArray) ++ sL = EE at *
            go_wp2_with fail
            refine (HP1.out _).mono ?_
            rintro e w5 ⟨rfl, hb5⟩
            have hB5 := hB4.trans (hb5.mono hB4.size)
            clear hb5
            go_wp2_with fail
            refine (HP2.out _).mono ?_
            rintro e WW ⟨rfl, hb6⟩
            have HBW : Hid (Below w.heap.size w WW) := hB5.trans (hb6.mono hB5.size)
            have hzW := HBW.out.size
            clear hb6 hB5
            rcases hSt4 with ⟨z0, hST⟩ | ⟨z0, hST⟩ | ⟨z0, hST⟩
            · have eV : V1 = V2 := HV.out.1 hST
              subst eV
              subst z0
              clear hST
              go_wp2_with fail
              refine (decLives_any _).mono ?_
              rintro e w9 ⟨rfl, hb9⟩
              have HB9 : Hid (Below w.heap.size w w9) := HBW.out.trans (hb9.mono HBW.out.size)
              clear hb9
              go_wp2
              go_ret
              exact ⟨rfl, HB9.out⟩
            · have hLs := refLess_any (V1 : Int) (V2 : Int) WW ⟨by omega, by omega⟩ ⟨by omega, by omega⟩
              rw [not_less hV1 hV2 (HV.out.2.1 hST)] at hLs
              have zi1 : ¬ z ≤ 0 := by omega
              have zi2 : (0 : Int) ≤ z := by omega
              have zi3 : (z != 0) = true := by simp; omega
              clear hST
              go_wp2_with fail
              refine hLs.mono ?_
              rintro e w8 ⟨rfl, hw8⟩
              rw [hw8]
              clear hw8 hLs
              go_wp2_with fail
              refine (decLives_any _).mono ?_
              rintro e w9 ⟨rfl, hb9⟩
              have HB9 : Hid (Below w.heap.size w w9) := HBW.out.trans (hb9.mono HBW.out.size)
              clear hb9
              go_wp2
              go_ret
              exact ⟨rfl, HB9.out⟩
            · have hLs := refLess_any (V2 : Int) (V1 : Int) WW ⟨by omega, by omega⟩ ⟨by omega, by omega⟩
              rw [not_less hV2 hV1 (HV.out.2.2 hST)] at hLs
              have zi1 : z ≤ 0 := by omega
              have zi2 : ¬ (0 : Int) ≤ z := by omega
              have zi3 : (z != 0) = true := by simp; omega
              clear hST
              go_wp2_with fail
              refine hLs.mono ?_
              rintro e w8 ⟨rfl, hw8⟩
              rw [hw8]
              clear hw8 hLs
              go_wp2_with fail
              refine (decLives_any _).mono ?_
              rintro e w9 ⟨rfl, hb9⟩
              have HB9 : Hid (Below w.heap.size w w9) := HBW.out.trans (hb9.mono HBW.out.size)
              clear hb9
              go_wp2
              go_ret
              exact ⟨rfl, HB9.out⟩

end Go.Proofs.YtngpdpmhjhgafaaDoor
