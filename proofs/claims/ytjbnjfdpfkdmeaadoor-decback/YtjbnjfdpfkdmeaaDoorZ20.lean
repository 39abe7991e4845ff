/-
  RfRead2
-/
import Derived.Test.YtjbnjfdpfkdmeaaDoorZ19

/-
  The reference's Read, walked.
-/
namespace Go.Proofs.YtjbnjfdpfkdmeaaDoor
set_option maxRecDepth 100000
open Go.RowKit Txt

theorem bx_below (w : World) (D : ByteArray) (X : Int) : Below w.heap.size w (bx w D X) := by
  unfold bx
  exact ((Below.refl _ _).alloc (Nat.le_refl _) _).alloc (by simp) _

theorem below_two (w : World) (a b : Obj) : Below w.heap.size w ((w.alloc a).alloc b) := ((Below.refl _ _).alloc (Nat.le_refl _) _).alloc (by simp) _

set_option maxRecDepth 100000 in
set_option maxHeartbeats 3200000 in
theorem refRead_any (l : List UInt8) (w : World) (hl : l.length ≤ 400) : Calls Tryd.prog 8 #[.string (bs l)] w (RR w l) := by
  have HG : Hid (∀ k (h : k < (bs l).size) (h2 : k < l.length), (bs l)[k]'h = l[k]) := fun k h _ => bs_get l k h
  have HD : Hid (∀ p w, p ≤ l.length → Calls Tryd.prog 15 #[.string (bs l), .int .i64 p] w fun e w' => e = .returned (.int .i64 (dg l p : Nat)) ∧ w' = w) := fun p w hp => refDigits_any l p w (by omega) hp
  have HX : Hid (∀ a b, (bs l).extract a b = bs ((l.drop a).take (b - a))) := fun a b => bs_extract l a b
  have hsz := bs_size l
  generalize bs l = s at *
  have HDl : Hid (∀ p, p ≤ l.length → p ≤ dg l p ∧ dg l p ≤ l.length) := fun p hp => dg_le l hp
  obtain ⟨n, hn⟩ : ∃ n, n = l.length := ⟨_, rfl⟩
  have HN : Hid (n = l.length) := hn
  have hs2 : s.size ≤ 400 := by omega
  have hs3 : s.size = n := by omega
  have h00 := fun w => HD.out 0 w (by omega)
  have hle0 := (HDl.out 0 (by omega)).2
  obtain ⟨p1, hp1⟩ : ∃ p1, p1 = dg l 0 := ⟨_, rfl⟩
  have HP1 : Hid (p1 = dg l 0) := hp1
  rw [← hp1] at h00 hle0
  rw [← hn] at hle0
  clear hn hsz hl hp1
  go_enter Tryd.func8, Tryd.ntmps8
  go_wp2_with fail
  refine (h00 _).mono ?_
  rintro e w1 ⟨rfl, rfl⟩
  by_cases c1 : p1 = 0
  · subst c1
    have HQ : Hid (numL l = none) := rj_none HP1.out.symm
    go_wp2
    refine bodyPost_ret (v := .tuple #[.agg #[.string ⟨#[]⟩, .int .i64 0], .bool false]) (by simp [results, Tryd.results8, go_sem]) rfl ?_
    exact ⟨below_two _ _ _, Or.inl ⟨HQ.out, _, _, rfl⟩⟩
  · have c1i : ¬ (p1 : Int) = 0 := by omega
    have c1b : ((p1 : Int) == 0) = false := by rw [beq_eq_false_iff_ne]; omega
    have i1 : (p1 : Int) ≤ (s.size : Int) := by omega
    have i2 : (0 : Int) ≤ (p1 : Int) := by omega
    obtain ⟨dt, hdt⟩ : ∃ dt, dt = (if h : p1 < s.size then decide (s[p1].toNat = 46) else false) := ⟨_, rfl⟩
    have HDt : Hid (dt = (if h : p1 < s.size then decide (s[p1].toNat = 46) else false)) := hdt
    clear hdt
    go_upto_region 6 with fail
    go_cut [29] (fun t wc => t = .bool dt ∧ wc = bx w (s.extract 0 p1) 0)
    case first =>
      by_cases c2 : p1 < s.size
      · have c2i : (p1 : Int) < (s.size : Int) := by omega
        by_cases c3 : s[p1].toNat = 46
        · have e : dt = true := by rw [HDt.out, dif_pos c2, decide_eq_true c3]
          have c3b : ((s[p1].toNat : Int) == 46) = true := by simp; omega
          go_wp2_with fail
          go_meet
          case rel => exact ⟨by rw [e], rfl⟩
        · have e : dt = false := by rw [HDt.out, dif_pos c2, decide_eq_false c3]
          have c3b : ((s[p1].toNat : Int) == 46) = false := by rw [beq_eq_false_iff_ne]; omega
          go_wp2_with fail
          go_meet
          case rel => exact ⟨by rw [e], rfl⟩
      · have c2i : ¬ (p1 : Int) < (s.size : Int) := by omega
        have e : dt = false := by rw [HDt.out, dif_neg c2]
        go_wp2_with fail
        go_meet
        case rel => exact ⟨by rw [e], rfl⟩
    case rest =>
      obtain ⟨rfl, hwc⟩ := hcut
      rw [hwc]
      clear hwc
      unfold bx
      go_upto_if 29 with fail
      go_cut [5] (fun t wc => ∃ (p : Nat) (D : List UInt8) (X : Int), t = .int .i64 p ∧ p ≤ n ∧ -400 ≤ X ∧ X ≤ 0 ∧ Hid (RJ l p D X) ∧ ∃ q, wc = (bx w (bs D) X).drewN q)
      case first =>
        have hx1 : s.extract 0 p1 = bs (l.take p1) := by have := HX.out 0 p1; rw [List.drop_zero, Nat.sub_zero] at this; exact this
        cases dt
        · have HJ : Hid (RJ l p1 (l.take p1) 0) := by
            have e := HP1.out
            rw [e]
            refine rj_plain (by omega) (fun h hc => ?_)
            have h2 : p1 < s.size := by have := HN.out; omega
            have := HDt.out
            rw [dif_pos h2, HG.out p1 h2 (by omega)] at this
            have h3 : l[p1].toNat = 46 := by rw [← hc]; congr 2
            rw [decide_eq_true h3] at this
            cases this
          go_wp2_with fail
          go_meet
          case rel => exact ⟨p1, l.take p1, 0, rfl, by omega, by omega, by omega, HJ, 0, by rw [← hx1]; rfl⟩
        · obtain ⟨h2, h46⟩ : ∃ h : p1 < s.size, s[p1].toNat = 46 := by
            have := HDt.out
            split at this
            · next h => exact ⟨h, of_decide_eq_true this.symm⟩
            · cases this
          have hl1 : p1 < l.length := by have := HN.out; omega
          have h46l : l[p1].toNat = 46 := by rw [← HG.out p1 h2 hl1]; exact h46
          have hcd := fun w => HD.out (p1 + 1) w (by omega)
          have hg2 := HDl.out (p1 + 1) (by omega)
          obtain ⟨p2, hp2⟩ : ∃ p2, p2 = dg l (p1 + 1) := ⟨_, rfl⟩
          have HP2 : Hid (p2 = dg l (p1 + 1)) := hp2
          rw [← hp2] at hcd hg2
          rw [show ((p1 + 1 : Nat) : Int) = (p1 : Int) + 1 by omega] at hcd
          clear hp2
          go_wp2_with fail
          refine (hcd _).mono ?_
          rintro e w2 ⟨rfl, rfl⟩
          by_cases c4 : p2 = p1 + 1
          · have c4i : (p2 : Int) = (p1 : Int) + 1 := by omega
            have HQ : Hid (numL l = none) := by
              have e := HP1.out
              refine rj_dot0 (by omega) (by omega) ?_ (by rw [← e, ← HP2.out]; exact c4)
              rw [← h46l]; congr 2; exact e.symm
            go_wp2
            refine bodyPost_ret (v := .tuple #[.agg #[.string (bs (l.take p1)), .int .i64 0], .bool false]) (by simp [results, Tryd.results8, go_sem]) rfl ?_
            exact ⟨below_two _ _ _, Or.inl ⟨HQ.out, _, _, rfl⟩⟩
          · have c4i : ¬ (p2 : Int) = (p1 : Int) + 1 := by omega
            have c4b : ((p2 : Int) == (p1 : Int) + 1) = false := by rw [beq_eq_false_iff_ne]; omega
            have HJ : Hid (RJ l p2 (l.take p1 ++ (l.drop (p1 + 1)).take (p2 - (p1 + 1))) ((p1 : Int) + 1 - p2)) := by
              have e := HP1.out
              have := rj_dot (l := l) (by have := HN.out; omega) (by omega) (by omega) (by rw [← h46l]; congr 2; exact e.symm) (by rw [← e, ← HP2.out]; exact c4)
              rw [← e, ← HP2.out] at this
              exact this
            have hx2 : s.extract (p1 + 1) p2 = bs ((l.drop (p1 + 1)).take (p2 - (p1 + 1))) := HX.out _ _
            have hap := bs_append (l.take p1) ((l.drop (p1 + 1)).take (p2 - (p1 + 1)))
            have hz1 : (bs (l.take p1)).size ≤ 400 := by rw [bs_size, List.length_take]; have := HN.out; omega
            have hz2 : (bs ((l.drop (p1 + 1)).take (p2 - (p1 + 1)))).size ≤ 400 := by rw [bs_size, List.length_take, List.length_drop]; have := HN.out; omega
            generalize l.take p1 ++ (l.drop (p1 + 1)).take (p2 - (p1 + 1)) = DD at *
            generalize bs (l.take p1) = S1 at *
            generalize bs ((l.drop (p1 + 1)).take (p2 - (p1 + 1))) = S2 at *
            have j1 : (p1 : Int) + 1 ≤ (p2 : Int) := by omega
            have hp2n : p2 ≤ n := by have := HN.out; omega
            have j2 : (p2 : Int) ≤ (s.size : Int) := by omega
            have j3 : (0 : Int) ≤ (p1 : Int) + 1 := by omega
            have j4 : (0 : Int) ≤ (p2 : Int) := by omega
            have j5 : IntKind.i64.wrap ((p1 : Int) + 1) = (p1 : Int) + 1 := by rw [IntKind.wrap_i64]; omega
            have j6 : IntKind.i64.wrap (p2 : Int) = (p2 : Int) := by rw [IntKind.wrap_i64]; omega
            have j7 : ((p1 : Int) + 1).toNat = p1 + 1 := by omega
            have j8 : IntKind.i64.wrap ((p1 : Int) + 1 - p2) = (p1 : Int) + 1 - p2 := by rw [IntKind.wrap_i64]; omega
            clear hcd
            go_wp2_with fail
            go_region
            go_wp2_with fail
            go_meet
            case rel => exact ⟨p2, DD, (p1 : Int) + 1 - p2, rfl, hp2n, by omega, by omega, HJ, 1, rfl⟩
      case rest =>
        obtain ⟨p, D, X, rfl, hpn, hX1, hX2, HJ, q, hwc⟩ := hcut
        rw [hwc]
        clear hwc h00 HP1 HDt c1 c1i c1b i1 i2
        have hb := bx_below w (bs D) X
        unfold bx at hb ⊢
        by_cases c5 : p = n
        · have c5i : (p : Int) = (s.size : Int) := by omega
          have c5b : ((p : Int) == (s.size : Int)) = true := by simp; omega
          have HQ : Hid (numL l = some (D, X)) := by
            have := HJ.out.2.2.2
            rw [List.drop_eq_nil_of_le (by have := HN.out; omega)] at this
            show _ = _
            rw [this]; simp [Txt.expo]
          go_wp2
          refine bodyPost_ret (v := .tuple #[.agg #[.string (bs D), .int .i64 X], .bool true]) (by simp [results, Tryd.results8, go_sem]) rfl ?_
          exact ⟨((below_drewN hb q).setCell (p := ⟨w.heap.size, 0, none⟩) (Nat.le_refl _) _).setCell (p := ⟨w.heap.size, 1, none⟩) (Nat.le_refl _) _, Or.inr ⟨D, X, X, HQ.out, Or.inl rfl, by omega, by omega, rfl⟩⟩
        · have c5b : ((p : Int) == (s.size : Int)) = false := by rw [beq_eq_false_iff_ne]; omega
          have hps : p < s.size := by omega
          have hpl : p < l.length := by have := HN.out; omega
          have k1 : (p : Int) < (s.size : Int) := by omega
          have k2 : (0 : Int) ≤ (p : Int) := by omega
          have hgp := HG.out p hps hpl
          by_cases c6 : s[p].toNat = 101 ∨ s[p].toNat = 69
          · have HQ : Hid (numL l = (expS (l.drop (p + 1))).map fun e => (D, e + X)) := by
              have := HJ.out.2.2.2
              rw [drop_cons hpl, expo_cons, if_pos (by rw [← hgp]; exact c6)] at this
              exact this
            clear hgp HJ
            go_upto_region 14 with fail
            go_cut [68] (fun t wc => t = .bool false ∧ wc = ((w.alloc (.cells #[.string ⟨#[]⟩, .int .i64 0] 31)).alloc (.cells #[.string (bs D), .int .i64 X] 31)).drewN q)
            case first =>
              by_cases c7 : s[p].toNat = 101
              · have c7a : ((s[p].toNat : Int) != 101) = false := by simp; omega
                go_wp2_with fail
                go_meet
                case rel => exact ⟨rfl, rfl⟩
              · have c7a : ((s[p].toNat : Int) != 101) = true := by simp; omega
                have c7b : ((s[p].toNat : Int) != 69) = false := by simp; omega
                go_wp2_with fail
                go_meet
                case rel => exact ⟨rfl, rfl⟩
            case rest =>
              obtain ⟨rfl, hwc⟩ := hcut
              rw [hwc]
              clear hwc c6
              obtain ⟨sg, hsg⟩ : ∃ sg, sg = (if h : p + 1 < s.size then decide (s[p + 1].toNat = 43 ∨ s[p + 1].toNat = 45) else false) := ⟨_, rfl⟩
              have HSg : Hid (sg = (if h : p + 1 < s.size then decide (s[p + 1].toNat = 43 ∨ s[p + 1].toNat = 45) else false)) := hsg
              clear hsg
              go_upto_region 18 with fail
              go_cut [87] (fun t wc => t = .bool sg ∧ wc = ((w.alloc (.cells #[.string ⟨#[]⟩, .int .i64 0] 31)).alloc (.cells #[.string (bs D), .int .i64 X] 31)).drewN q)
              case first =>
                by_cases c8 : p + 1 < s.size
                · have c8i : (p : Int) + 1 < (s.size : Int) := by omega
                  have c8j : (0 : Int) ≤ (p : Int) + 1 := by omega
                  have c8k : ((p : Int) + 1).toNat = p + 1 := by omega
                  by_cases c9 : s[p + 1].toNat = 43
                  · have e : sg = true := by rw [HSg.out, dif_pos c8, decide_eq_true (Or.inl c9)]
                    have c9a : ((s[p + 1].toNat : Int) == 43) = true := by simp; omega
                    go_wp2_with fail
                    go_meet
                    case rel => exact ⟨by rw [e], rfl⟩
                  · have c9a : ((s[p + 1].toNat : Int) == 43) = false := by rw [beq_eq_false_iff_ne]; omega
                    by_cases c10 : s[p + 1].toNat = 45
                    · have e : sg = true := by rw [HSg.out, dif_pos c8, decide_eq_true (Or.inr c10)]
                      have c9b : ((s[p + 1].toNat : Int) == 45) = true := by simp; omega
                      go_wp2_with fail
                      go_meet
                      case rel => exact ⟨by rw [e], rfl⟩
                    · have e : sg = false := by rw [HSg.out, dif_pos c8, decide_eq_false (by omega)]
                      have c9b : ((s[p + 1].toNat : Int) == 45) = false := by rw [beq_eq_false_iff_ne]; omega
                      go_wp2_with fail
                      go_meet
                      case rel => exact ⟨by rw [e], rfl⟩
                · have c8i : ¬ (p : Int) + 1 < (s.size : Int) := by omega
                  have e : sg = false := by rw [HSg.out, dif_neg c8]
                  go_wp2_with fail
                  go_meet
                  case rel => exact ⟨by rw [e], rfl⟩
              case rest =>
                obtain ⟨rfl, hwc⟩ := hcut
                rw [hwc]
                clear hwc
                go_upto_if 87 with fail
                go_cut [5, 7] (fun t5 t7 wc => ∃ (r : Nat) (neg : Bool), t5 = .int .i64 r ∧ t7 = .bool neg ∧ r ≤ n ∧ Hid (expS (l.drop (p + 1)) = expD neg (l.drop r)) ∧ wc = ((w.alloc (.cells #[.string ⟨#[]⟩, .int .i64 0] 31)).alloc (.cells #[.string (bs D), .int .i64 X] 31)).drewN q)
                case first =>
                  cases sg
                  · have HE : Hid (expS (l.drop (p + 1)) = expD false (l.drop (p + 1))) := by
                      refine rs_plain fun h => ?_
                      have h2 : p + 1 < s.size := by have := HN.out; omega
                      have h3 := HSg.out
                      rw [dif_pos h2, HG.out (p + 1) h2 h] at h3
                      have := of_decide_eq_false h3.symm
                      omega
                    go_wp2_with fail
                    go_meet
                    case rel => exact ⟨p + 1, false, by go_num, rfl, by omega, HE, rfl⟩
                  · obtain ⟨h2, h43⟩ : ∃ h : p + 1 < s.size, s[p + 1].toNat = 43 ∨ s[p + 1].toNat = 45 := by
                      have := HSg.out
                      split at this
                      · next h => exact ⟨h, of_decide_eq_true this.symm⟩
                      · cases this
                    have hl2 : p + 1 < l.length := by have := HN.out; omega
                    have hgl := HG.out (p + 1) h2 hl2
                    have c8i : (p : Int) + 1 < (s.size : Int) := by omega
                    have c8j : (0 : Int) ≤ (p : Int) + 1 := by omega
                    have c8k : ((p : Int) + 1).toNat = p + 1 := by omega
                    by_cases c9 : s[p + 1].toNat = 45
                    · have HE : Hid (expS (l.drop (p + 1)) = expD true (l.drop (p + 1 + 1))) := rs_minus hl2 (by rw [← hgl]; exact c9)
                      have c9b : ((s[p + 1].toNat : Int) == 45) = true := by simp; omega
                      clear hgl
                      go_wp2_with fail
                      go_meet
                      case rel => exact ⟨p + 1 + 1, true, by go_num, rfl, by omega, HE, rfl⟩
                    · have HE : Hid (expS (l.drop (p + 1)) = expD false (l.drop (p + 1 + 1))) := rs_plus hl2 (by rw [← hgl]; omega)
                      have c9b : ((s[p + 1].toNat : Int) == 45) = false := by rw [beq_eq_false_iff_ne]; omega
                      clear hgl
                      go_wp2_with fail
                      go_meet
                      case rel => exact ⟨p + 1 + 1, false, by go_num, rfl, by omega, HE, rfl⟩
                case rest =>
                  obtain ⟨r, neg, rfl, rfl, hrn, HE, hwc⟩ := hcut
                  rw [hwc]
                  clear hwc HSg k1 k2 hps
                  have HQ2 : Hid (numL l = (expD neg (l.drop r)).map fun e => (D, e + X)) := by
                    show _ = _
                    rw [HQ.out, HE.out]
                  clear HQ HE
                  by_cases c11 : r = n
                  · have c11b : ((r : Int) == (s.size : Int)) = true := by simp; omega
                    have HQ3 : Hid (numL l = none) := by
                      show _ = _
                      rw [HQ2.out, rd_none (by have := HN.out; omega) (Or.inl (by have := HN.out; omega))]; rfl
                    go_wp2
                    refine bodyPost_ret (v := .tuple #[.agg #[.string (bs D), .int .i64 X], .bool false]) (by simp [results, Tryd.results8, go_sem]) rfl ?_
                    exact ⟨((below_drewN hb q).setCell (p := ⟨w.heap.size, 0, none⟩) (Nat.le_refl _) _).setCell (p := ⟨w.heap.size, 1, none⟩) (Nat.le_refl _) _, Or.inl ⟨HQ3.out, _, _, rfl⟩⟩
                  · have c11b : ((r : Int) == (s.size : Int)) = false := by rw [beq_eq_false_iff_ne]; omega
                    have hcd := fun w => HD.out r w (by have := HN.out; omega)
                    have hg3 := (HDl.out r (by have := HN.out; omega)).2
                    obtain ⟨g, hgg⟩ : ∃ g, g = dg l r := ⟨_, rfl⟩
                    have HGG : Hid (g = dg l r) := hgg
                    rw [← hgg] at hcd hg3
                    clear hgg
                    by_cases c12 : g = n
                    · have c12b : ((g : Int) != (n : Int)) = false := by simp; omega
                      obtain ⟨hv, hall⟩ := rd_some (l := l) (r := r) (neg := neg) (by have := HN.out; omega) (by rw [← HGG.out, c12]; exact HN.out)
                      have HQ3 : Hid (numL l = some (D, (if neg then -(dv (l.drop r) 0 : Int) else dv (l.drop r) 0) + X)) := by
                        show _ = _
                        rw [HQ2.out, hv]; rfl
                      have HA : Hid (AllD (l.drop r)) := hall
                      clear hv hall HQ2
                      go_wp2_with fail
                      refine (hcd _).mono ?_
                      rintro e w3 ⟨rfl, rfl⟩
                      have hb2 := below_drewN hb q
                      obtain ⟨wq, hwq⟩ : ∃ wq, wq = ((w.alloc (.cells #[.string ⟨#[]⟩, .int .i64 0] 31)).alloc (.cells #[.string (bs D), .int .i64 X] 31)).drewN q := ⟨_, rfl⟩
                      go_wp2_with fail
                      go_loop [8, 9] (fun t8 t9 => ∃ (e i : Nat), r ≤ i ∧ i ≤ n ∧ e ≤ 99999 ∧ t8 = .int .i64 e ∧ t9 = .int .i64 i ∧ Hid (min e 9999 = min (dv ((l.drop r).take (i - r)) 0) 9999)) (fun _ t9 => n - (intOf t9).toNat)
                      case atStart => exact ⟨0, r, Nat.le_refl _, hrn, by omega, rfl, rfl, by show _ = _; rw [Nat.sub_self, List.take_zero]; rfl⟩
                      case round =>
                        obtain ⟨e, i, hri, hin, he, rfl, rfl, HI⟩ := hrel
                        by_cases c13 : i < n
                        · have his : i < s.size := by omega
                          have hil : i < l.length := by have := HN.out; omega
                          have hgi := HG.out i his hil
                          have hdl : i - r < (l.drop r).length := by rw [List.length_drop]; omega
                          have h48 := isD_get HA.out hdl
                          rw [List.getElem_drop] at h48
                          have h49 : 48 ≤ s[i].toNat ∧ s[i].toNat ≤ 57 := by rw [hgi]; simpa [show r + (i - r) = i by omega] using h48
                          obtain ⟨d, hd⟩ : ∃ d, d = s[i].toNat - 48 := ⟨_, rfl⟩
                          have HSt := e_step (c := d) HI.out
                          have HDv : Hid (dv ((l.drop r).take (i + 1 - r)) 0 = dv ((l.drop r).take (i - r)) 0 * 10 + d) := by
                            have := dv_take hdl
                            rw [List.getElem_drop] at this
                            rw [show i + 1 - r = i - r + 1 by omega]
                            show _ = _
                            rw [this, hd, hgi]
                            simp [show r + (i - r) = i by omega]
                          have hsub : IntKind.u8.wrap ((s[i].toNat : Int) - 48) = (d : Int) := by rw [IntKind.wrap_u8]; omega
                          have hsub2 : ((s[i].toNat : Int) - 48) % 256 = (d : Int) := by omega
                          have hd9 : d ≤ 9 := by omega
                          have m1 : (i : Int) < (n : Int) := by omega
                          have m2 : (0 : Int) ≤ (i : Int) := by omega
                          have m3 : (48 : Int) ≤ (s[i].toNat : Int) := by omega
                          have m4 : (s[i].toNat : Int) ≤ 57 := by omega
                          by_cases c14 : e < 9999
                          · have c14i : (e : Int) < 9999 := by omega
                            have HN2 : Hid (min (10 * e + d) 9999 = min (dv ((l.drop r).take (i + 1 - r)) 0) 9999) := by show _ = _; rw [HDv.out]; exact HSt.1 c14
                            clear HSt hgi h48 h49 hd hdl
                            go_wp2
                            go_round
                            case rel => exact ⟨10 * e + d, i + 1, by omega, by omega, by omega, by go_num, by go_num, HN2⟩
                            case measure => simp [intOf]; omega
                          · have c14i : ¬ (e : Int) < 9999 := by omega
                            have HN2 : Hid (min e 9999 = min (dv ((l.drop r).take (i + 1 - r)) 0) 9999) := by show _ = _; rw [HDv.out]; exact HSt.2 c14
                            clear HSt hgi h48 h49 hd hdl hsub hsub2
                            go_wp2
                            go_round
                            case rel => exact ⟨e, i + 1, by omega, by omega, he, rfl, by go_num, HN2⟩
                            case measure => simp [intOf]; omega
                        · have c13i : ¬ (i : Int) < (n : Int) := by omega
                          have HI2 : Hid (min e 9999 = min (dv (l.drop r) 0) 9999) := by
                            have := HI.out
                            rw [List.take_of_length_le (by rw [List.length_drop]; have := HN.out; omega)] at this
                            exact this
                          clear HI
                          by_cases c15 : 9999 < e
                          · have c15i : (9999 : Int) < (e : Int) := by omega
                            have hm : min 9999 9999 = min (dv (l.drop r) 0) 9999 := by have := HI2.out; omega
                            cases neg
                            · have HH : Hid (Hd9 (X + 9999) ((if false = true then -(dv (l.drop r) 0 : Int) else dv (l.drop r) 0) + X) ∧ -11000 ≤ X + 9999 ∧ X + 9999 ≤ 11000) := by
                                have := hd9_of (e := 9999) (X := X) false hm (by omega) hX1 hX2
                                exact this
                              clear HI2
                              go_wp2
                              refine bodyPost_ret (v := .tuple #[.agg #[.string (bs D), .int .i64 (X + 9999)], .bool true]) (by simp [results, Tryd.results8, go_sem]) rfl ?_
                              exact ⟨(((below_drewN hb q).setCell (p := ⟨w.heap.size + 1, 1, none⟩) (by show w.heap.size ≤ w.heap.size + 1; omega) _).setCell (p := ⟨w.heap.size, 0, none⟩) (Nat.le_refl _) _).setCell (p := ⟨w.heap.size, 1, none⟩) (Nat.le_refl _) _, Or.inr ⟨D, _, _, HQ3.out, by simpa using HH.out.1, HH.out.2.1, HH.out.2.2, rfl⟩⟩
                            · have HH : Hid (Hd9 (X + -9999) ((if true = true then -(dv (l.drop r) 0 : Int) else dv (l.drop r) 0) + X) ∧ -11000 ≤ X + -9999 ∧ X + -9999 ≤ 11000) := by
                                have := hd9_of (e := 9999) (X := X) true hm (by omega) hX1 hX2
                                exact this
                              clear HI2
                              go_wp2
                              refine bodyPost_ret (v := .tuple #[.agg #[.string (bs D), .int .i64 (X + -9999)], .bool true]) (by simp [results, Tryd.results8, go_sem]) rfl ?_
                              exact ⟨(((below_drewN hb q).setCell (p := ⟨w.heap.size + 1, 1, none⟩) (by show w.heap.size ≤ w.heap.size + 1; omega) _).setCell (p := ⟨w.heap.size, 0, none⟩) (Nat.le_refl _) _).setCell (p := ⟨w.heap.size, 1, none⟩) (Nat.le_refl _) _, Or.inr ⟨D, _, _, HQ3.out, by simpa using HH.out.1, HH.out.2.1, HH.out.2.2, rfl⟩⟩
                          · have c15i : ¬ (9999 : Int) < (e : Int) := by omega
                            have hm : min e 9999 = min (dv (l.drop r) 0) 9999 := HI2.out
                            cases neg
                            · have HH : Hid (Hd9 (X + (e : Int)) ((if false = true then -(dv (l.drop r) 0 : Int) else dv (l.drop r) 0) + X) ∧ -11000 ≤ X + (e : Int) ∧ X + (e : Int) ≤ 11000) := by
                                have := hd9_of (e := e) (X := X) false hm (by omega) hX1 hX2
                                exact this
                              clear HI2
                              go_wp2
                              refine bodyPost_ret (v := .tuple #[.agg #[.string (bs D), .int .i64 (X + (e : Int))], .bool true]) (by simp [results, Tryd.results8, go_sem]) rfl ?_
                              exact ⟨(((below_drewN hb q).setCell (p := ⟨w.heap.size + 1, 1, none⟩) (by show w.heap.size ≤ w.heap.size + 1; omega) _).setCell (p := ⟨w.heap.size, 0, none⟩) (Nat.le_refl _) _).setCell (p := ⟨w.heap.size, 1, none⟩) (Nat.le_refl _) _, Or.inr ⟨D, _, _, HQ3.out, by simpa using HH.out.1, HH.out.2.1, HH.out.2.2, rfl⟩⟩
                            · have HH : Hid (Hd9 (X + -(e : Int)) ((if true = true then -(dv (l.drop r) 0 : Int) else dv (l.drop r) 0) + X) ∧ -11000 ≤ X + -(e : Int) ∧ X + -(e : Int) ≤ 11000) := by
                                have := hd9_of (e := e) (X := X) true hm (by omega) hX1 hX2
                                exact this
                              clear HI2
                              go_wp2
                              refine bodyPost_ret (v := .tuple #[.agg #[.string (bs D), .int .i64 (X + -(e : Int))], .bool true]) (by simp [results, Tryd.results8, go_sem]) rfl ?_
                              exact ⟨(((below_drewN hb q).setCell (p := ⟨w.heap.size + 1, 1, none⟩) (by show w.heap.size ≤ w.heap.size + 1; omega) _).setCell (p := ⟨w.heap.size, 0, none⟩) (Nat.le_refl _) _).setCell (p := ⟨w.heap.size, 1, none⟩) (Nat.le_refl _) _, Or.inr ⟨D, _, _, HQ3.out, by simpa using HH.out.1, HH.out.2.1, HH.out.2.2, rfl⟩⟩
                    · have c12b : ((g : Int) != (n : Int)) = true := by simp; omega
                      have HQ3 : Hid (numL l = none) := by
                        show _ = _
                        rw [HQ2.out, rd_none (by have := HN.out; omega) (Or.inr (by rw [← HGG.out]; have := HN.out; omega))]; rfl
                      go_wp2_with fail
                      refine (hcd _).mono ?_
                      rintro e w3 ⟨rfl, rfl⟩
                      go_wp2
                      refine bodyPost_ret (v := .tuple #[.agg #[.string (bs D), .int .i64 X], .bool false]) (by simp [results, Tryd.results8, go_sem]) rfl ?_
                      exact ⟨((below_drewN hb q).setCell (p := ⟨w.heap.size, 0, none⟩) (Nat.le_refl _) _).setCell (p := ⟨w.heap.size, 1, none⟩) (Nat.le_refl _) _, Or.inl ⟨HQ3.out, _, _, rfl⟩⟩
          · have HQ : Hid (numL l = none) := by
              have := HJ.out.2.2.2
              rw [drop_cons hpl, expo_cons, if_neg (by rw [← hgp]; exact c6)] at this
              exact this
            have c6a : ((s[p].toNat : Int) != 101) = true := by simp; omega
            have c6b : ((s[p].toNat : Int) != 69) = true := by simp; omega
            clear hgp
            go_wp2
            refine bodyPost_ret (v := .tuple #[.agg #[.string (bs D), .int .i64 X], .bool false]) (by simp [results, Tryd.results8, go_sem]) rfl ?_
            exact ⟨((below_drewN hb q).setCell (p := ⟨w.heap.size, 0, none⟩) (Nat.le_refl _) _).setCell (p := ⟨w.heap.size, 1, none⟩) (Nat.le_refl _) _, Or.inl ⟨HQ.out, _, _, rfl⟩⟩

end Go.Proofs.YtjbnjfdpfkdmeaaDoor
