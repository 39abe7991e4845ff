/-
  Layer 20: DiskRoom, walked.
-/
import Derived.Test.YtgkgflkcnigeaaaDkRoom
namespace Go.Proofs.Ytgkgflkcnigeaaa
set_option maxRecDepth 100000
open Go.RowKit Txt Go.Maps Dk

set_option maxHeartbeats 2000000 in
theorem diskRoom_walk (vl : Value) (ls : List (List Nat)) (k : Nat) (w : World) (hk : k < 256) (hl : RB w vl ls) :
    Calls Try.prog 6 #[.int .u8 k, vl] w fun e w' => e = .returned (.bool true) ∧ Below w.heap.size w w' := by
  have mixed : Try.prog.follows Departure.mixedOrders = true := by kernel_rfl
  obtain ⟨a, cap, rfl, hls, hrow⟩ := id hl
  have HRB : Hid (0 < ls.length → ∃ g o, a = some ⟨g, o, none⟩ ∧ g < w.heap.size ∧ ∀ i (h : i < ls.length), ∃ u, w.cell? ⟨g, o + i, none⟩ = some u ∧ BR w u ls[i] ∧ ls[i].length ≤ 140737488351232) := hrow
  have HLv : Hid (∀ w', Below w.heap.size w w' → Calls Try.prog 8 #[] w' fun e w'' => e = .returned (.bool true) ∧ Below w.heap.size w w'') := fun w' h => (lives_any w').mono fun e w'' ⟨h1, h2⟩ => ⟨h1, h.trans (h2.mono h.size)⟩
  have hnew := lv_new k w (by omega) (by omega)
  rw [show ((k : Nat) : Int).toNat = k from Int.toNat_natCast k] at hnew
  have hki : (k : Int) ≤ 255 := by omega
  clear hl hrow
  go_enter Try.func6, Try.ntmps6
  generalize hdb : w.heap.size + 1 = db at *
  clear hdb
  go_wp2_with fail
  refine hnew.mono ?_
  rintro e w2 ⟨rfl, h2⟩
  have HL := hide_p h2
  clear h2 hnew
  go_wp2_with fail
  go_loopg [7, 8] (ls.length + 1) (fun m t7 t8 wr => ∃ (i : Nat) (P : List Pl) (n : Nat), t7 = .int .i64 (n : Int) ∧ t8 = .int .i64 (i : Int) ∧ i ≤ ls.length ∧ i ≤ 100 ∧ n ≤ 255 ∧ Hid (m = ls.length + 1 - i ∧ n = lenP P ∧ P.length ≤ i ∧ Lv w wr db ⟨k, 0, 0, P⟩))
  case atStart => exact ⟨0, [], 0, rfl, rfl, Nat.zero_le _, Nat.zero_le _, Nat.zero_le _, ⟨by omega, rfl, Nat.le_refl _, HL.out⟩⟩
  case round =>
    obtain ⟨i, P, n, rfl, rfl, hil, hi100, hn255, HI⟩ := hrel
    by_cases c1 : i < ls.length
    · by_cases c2 : i < 100
      · obtain ⟨hm, hn, hPl, hL⟩ := HI.out
        have c1i : (i : Int) < (ls.length : Int) := by omega
        have c2i : (i : Int) < 100 := by omega
        obtain ⟨c3, hc3⟩ : ∃ c3 : Nat, (i : Int) % 3 = (c3 : Int) := ⟨i % 3, by omega⟩
        have hch : ch i = 97 + c3 := by unfold ch; omega
        obtain ⟨wa, hwa⟩ : ∃ wa, wa = wr.alloc (.cells #[.int .u8 ((ch i : Nat) : Int)] 5) := ⟨_, rfl⟩
        have hba : Below wr.heap.size wr wa := by rw [hwa]; exact (Below.refl _ _).alloc (Nat.le_refl _) _
        have hcv : (convert 33 9 (.slice (some ⟨wr.heap.size, 0, none⟩) 1 1)).run Try.prog wa = .ok (.string (bs (nmI i))) wa := by
          rw [← bsN_ch, hwa]
          exact conv_any (br_made wr [ch i] (0, 0) (fun d hd => by have := (ch_lt i).2; simp at hd; omega) (by unfold maxLen; simp))
        rw [hwa] at hcv
        have hci : ((ch i : Nat) : Int) = 97 + (c3 : Int) := by rw [hch]; omega
        rw [hci] at hcv hwa
        have hsm : (c3 : Int) ≤ 2 := by omega
        obtain ⟨g, o, rfl, hg, hcell⟩ := HRB.out (by omega)
        obtain ⟨u, hu, hbu, hul⟩ := hcell i c1
        obtain ⟨ua, uc, rfl, -⟩ := br_src hbu
        have hgne : ∀ w', Below w.heap.size w w' → w'.cell? ⟨g, o + i, none⟩ = some (.slice ua ls[i].length uc) := fun w' h => by rw [World.cell?_of_block (h.block g hg)]; exact hu
        have HG := hide_p hgne
        have HN := hide_p hn
        clear hcell hgne hn HI hu HRB
        generalize ls[i] = part at *
        have HLa := hide_p (hL.below hba)
        have hbua := hbu.below HLa.out.low (Nat.le_refl _)
        have HBU := hide_p hbua
        have HUL : Hid (part.length ≤ 140737488355328) := by show _ ≤ _; omega
        obtain ⟨s, hs⟩ : ∃ s, s = nmI i := ⟨_, rfl⟩
        have hsn : nmB s = true := by rw [hs]; exact nmI_ok i
        have HSL : Hid (s.length ≤ 9223372036854775807) := by show _ ≤ _; have := nmB_len hsn; omega
        rw [← hs] at hcv
        have HBA := hide_p hba
        have HPL := hide_p hPl
        have hul2 : (part.length : Int) ≤ 140737488351232 := by omega
        clear hbu hs hba hbua hL hch hci
        go_upto_region 9 with fail
        rw [← hwa]
        clear hwa hcv
        have hga := HG.out wa HLa.out.low
        have hgb := HG.out (wa.alloc (.cells #[] 5)) (HLa.out.low.trans (((Below.refl _ _).alloc (Nat.le_refl _) _).mono HLa.out.low.size))
        have happ : ∀ (v' : Value) (w' : World), FB w' v' part → (∀ g, v'.ownBlock = some g → wa.heap.size ≤ g) → Below wa.heap.size wa w' → Calls Try.prog 14 #[.pointer (some ⟨db, 0, none⟩), .string (bs s), v'] w' fun e w'' => e = .returned (.int .i64 (appP ⟨k, 0, 0, P⟩ s part).1) ∧ Lv w w'' db (appP ⟨k, 0, 0, P⟩ s part).2 := fun v' w' h1 h2 h3 => lv_append_c w wa w' db _ s v' part HLa.out h3 h1 h2 HSL.out (by have := HPL.out; show P.length ≤ _; omega)
        have HAP := hide_p happ
        clear happ
        go_wp2_with (at_builtin; refine wpList_copy_fb rfl _ _ rfl rfl _ _ rfl HBU.out HUL.out ?_; intro a7 x7 w7 q1 q2 q3; have hap := HAP.out _ w7 q1 q2 q3; replace q3 := hide_p q3; clear q1 q2)
        have hN := HN.out
        by_cases hok : (n : Int) + part.length ≤ k
        · rw [r_ok (k := k) (P := P) (s := s) (l := part) hsn (by omega)] at hap
          simp only at hap
          refine hap.mono ?_
          rintro e w8 ⟨rfl, hL8⟩
          obtain ⟨P2, hP2⟩ : ∃ P2, P2 = layP P s part := ⟨_, rfl⟩
          rw [← hP2] at hL8
          have HL8 := hide_p hL8
          have HM : Hid ((lenP P2 : Int) = (n : Int) + (part.length : Int)) := by show _ = _; rw [hP2, lenP_lay (P := P) part HLa.out.ord]; omega
          have HP2 : Hid (P2.length ≤ i + 1) := by show P2.length ≤ i + 1; rw [hP2]; have := lay_length P s part; have := HPL.out; omega
          have hg8 := HG.out w8 HL8.out.low
          have HGK := hide_p hm
          clear hap hL8 hP2 hN HN HAP HG HLa HBU HBA HPL hga hgb hm hPl q3
          by_cases c4 : i % 4 = 3
          · have c4i : (i : Int) % 4 = 3 := by omega
            have hrd := lv_read w w8 db _ s HL8.out HSL.out
            simp only at hrd
            go_wp2_with fail
            refine hrd.mono ?_
            rintro e w9 ⟨v9, rfl, q1, -, q4⟩
            clear hrd
            obtain ⟨a9, c9, rfl, -⟩ := br_src q1.br
            have hRl : ((readP P2 s).length : Int) ≤ 255 := by have := read_le P2 s; have := HL8.out.room; simp only at this; omega
            clear q1
            have HL9 := hide_p (HL8.out.below q4)
            clear q4 HL8
            generalize (lookP P2 s).isSome = b9
            by_cases c6 : 0 < (readP P2 s).length
            · obtain ⟨P3, hP3, hl3, hp3⟩ := r_trunc (k := k) (P := P2) HL9.out.ord c6
              have htr := lv_trunc w w9 db _ s (((readP P2 s).length : Int) - 1) HL9.out HSL.out
              rw [hP3] at htr
              simp only at htr
              have HM3 : Hid ((lenP P3 : Int) = (n : Int) + (part.length : Int) - 1) := by have := HM.out; show _ = _; omega
              have HP3 : Hid (P3.length ≤ i + 1) := by have := HP2.out; show P3.length ≤ i + 1; omega
              have hn1 : (1 : Int) ≤ (n : Int) + (part.length : Int) := by have := HM.out; omega
              clear hP3 hl3 hp3
              generalize (readP P2 s).length = R at *
              have c6i : (0 : Int) < (R : Int) := by omega
              clear c6
              go_wp2_with fail
              refine htr.mono ?_
              rintro e w11 ⟨rfl, hL11⟩
              have HL11 := hide_p hL11
              clear htr hL11 HL9
              have hus := lv_used w w11 db _ HL11.out
              simp only [HM3.out] at hus
              go_wp2_with fail
              refine hus.mono ?_
              rintro e w20 ⟨rfl, rfl⟩
              clear hus
              go_wp2_with fail
              go_roundg (ls.length + 1 - (i + 1))
              case measure => have := HGK.out; omega
              case rel =>
                have hm := HM3.out
                have hr2 := HL11.out.room
                simp only at hr2
                exact ⟨i + 1, _, n + part.length - 1, by go_num, by go_num, by omega, by omega, by omega, ⟨rfl, by omega, HP3.out, HL11.out⟩⟩
            · generalize (readP P2 s).length = R at *
              have c6i : ¬ (0 : Int) < (R : Int) := by omega
              clear c6
              have hus := lv_used w w9 db _ HL9.out
              simp only [HM.out] at hus
              go_wp2_with fail
              refine hus.mono ?_
              rintro e w20 ⟨rfl, rfl⟩
              clear hus
              go_wp2_with fail
              go_roundg (ls.length + 1 - (i + 1))
              case measure => have := HGK.out; omega
              case rel =>
                have hm := HM.out
                have hr2 := HL9.out.room
                simp only at hr2
                exact ⟨i + 1, _, n + part.length, by go_num, by go_num, by omega, by omega, by omega, ⟨rfl, by omega, HP2.out, HL9.out⟩⟩
          · obtain ⟨c5, hc5⟩ : ∃ c5 : Nat, (i : Int) % 4 = (c5 : Int) := ⟨i % 4, by omega⟩
            have c4i : ¬ (c5 : Int) = 3 := by omega
            clear c4
            have hus := lv_used w w8 db _ HL8.out
            simp only [HM.out] at hus
            go_wp2_with fail
            refine hus.mono ?_
            rintro e w20 ⟨rfl, rfl⟩
            clear hus
            go_wp2_with fail
            go_roundg (ls.length + 1 - (i + 1))
            case measure => have := HGK.out; omega
            case rel =>
              have hm := HM.out
              have hr2 := HL8.out.room
              simp only at hr2
              exact ⟨i + 1, _, n + part.length, by go_num, by go_num, by omega, by omega, by omega, ⟨rfl, by omega, HP2.out, HL8.out⟩⟩
        · rw [r_no (k := k) (P := P) (s := s) (l := part) hsn (by omega)] at hap
          simp only at hap
          refine hap.mono ?_
          rintro e w8 ⟨rfl, hL8⟩
          have HL8 := hide_p hL8
          have HM : Hid ((lenP P : Int) = (n : Int)) := by show _ = _; omega
          have HP2 : Hid (P.length ≤ i + 1) := by show P.length ≤ i + 1; have := HPL.out; omega
          have hg8 := HG.out w8 HL8.out.low
          have HGK := hide_p hm
          clear hap hL8 hN HN HAP HG HLa HBU HBA HPL hga hgb hm hPl q3
          generalize P = P2 at *
          by_cases c4 : i % 4 = 3
          · have c4i : (i : Int) % 4 = 3 := by omega
            have hrd := lv_read w w8 db _ s HL8.out HSL.out
            simp only at hrd
            go_wp2_with fail
            refine hrd.mono ?_
            rintro e w9 ⟨v9, rfl, q1, -, q4⟩
            clear hrd
            obtain ⟨a9, c9, rfl, -⟩ := br_src q1.br
            have hRl : ((readP P2 s).length : Int) ≤ 255 := by have := read_le P2 s; have := HL8.out.room; simp only at this; omega
            clear q1
            have HL9 := hide_p (HL8.out.below q4)
            clear q4 HL8
            generalize (lookP P2 s).isSome = b9
            by_cases c6 : 0 < (readP P2 s).length
            · obtain ⟨P3, hP3, hl3, hp3⟩ := r_trunc (k := k) (P := P2) HL9.out.ord c6
              have htr := lv_trunc w w9 db _ s (((readP P2 s).length : Int) - 1) HL9.out HSL.out
              rw [hP3] at htr
              simp only at htr
              have HM3 : Hid ((lenP P3 : Int) = (n : Int) - 1) := by have := HM.out; show _ = _; omega
              have HP3 : Hid (P3.length ≤ i + 1) := by have := HP2.out; show P3.length ≤ i + 1; omega
              have hn1 : (1 : Int) ≤ (n : Int) := by have := HM.out; omega
              clear hP3 hl3 hp3
              generalize (readP P2 s).length = R at *
              have c6i : (0 : Int) < (R : Int) := by omega
              clear c6
              go_wp2_with fail
              refine htr.mono ?_
              rintro e w11 ⟨rfl, hL11⟩
              have HL11 := hide_p hL11
              clear htr hL11 HL9
              have hus := lv_used w w11 db _ HL11.out
              simp only [HM3.out] at hus
              go_wp2_with fail
              refine hus.mono ?_
              rintro e w20 ⟨rfl, rfl⟩
              clear hus
              go_wp2_with fail
              go_roundg (ls.length + 1 - (i + 1))
              case measure => have := HGK.out; omega
              case rel =>
                have hm := HM3.out
                have hr2 := HL11.out.room
                simp only at hr2
                exact ⟨i + 1, _, n - 1, by go_num, by go_num, by omega, by omega, by omega, ⟨rfl, by omega, HP3.out, HL11.out⟩⟩
            · generalize (readP P2 s).length = R at *
              have c6i : ¬ (0 : Int) < (R : Int) := by omega
              clear c6
              have hus := lv_used w w9 db _ HL9.out
              simp only [HM.out] at hus
              go_wp2_with fail
              refine hus.mono ?_
              rintro e w20 ⟨rfl, rfl⟩
              clear hus
              go_wp2_with fail
              go_roundg (ls.length + 1 - (i + 1))
              case measure => have := HGK.out; omega
              case rel =>
                have hm := HM.out
                have hr2 := HL9.out.room
                simp only at hr2
                exact ⟨i + 1, _, n, by go_num, by go_num, by omega, by omega, by omega, ⟨rfl, by omega, HP2.out, HL9.out⟩⟩
          · obtain ⟨c5, hc5⟩ : ∃ c5 : Nat, (i : Int) % 4 = (c5 : Int) := ⟨i % 4, by omega⟩
            have c4i : ¬ (c5 : Int) = 3 := by omega
            clear c4
            have hus := lv_used w w8 db _ HL8.out
            simp only [HM.out] at hus
            go_wp2_with fail
            refine hus.mono ?_
            rintro e w20 ⟨rfl, rfl⟩
            clear hus
            go_wp2_with fail
            go_roundg (ls.length + 1 - (i + 1))
            case measure => have := HGK.out; omega
            case rel =>
              have hm := HM.out
              have hr2 := HL8.out.room
              simp only at hr2
              exact ⟨i + 1, _, n, by go_num, by go_num, by omega, by omega, by omega, ⟨rfl, by omega, HP2.out, HL8.out⟩⟩
      · have e : i = 100 := by omega
        have c2i : ¬ (i : Int) < 100 := by omega
        have c1i : (i : Int) < (ls.length : Int) := by omega
        have hlv := HLv.out wr HI.out.2.2.2.low
        clear HI HRB HLv
        go_wp2_with fail
        refine hlv.mono ?_
        rintro e w3 ⟨rfl, hb3⟩
        have HB3 := hide_p hb3
        clear hb3 hlv
        go_wp2
        go_ret
        exact ⟨rfl, HB3.out⟩
    · have c1i : ¬ (i : Int) < (ls.length : Int) := by omega
      have hlv := HLv.out wr HI.out.2.2.2.low
      clear HI HRB HLv
      go_wp2_with fail
      refine hlv.mono ?_
      rintro e w3 ⟨rfl, hb3⟩
      have HB3 := hide_p hb3
      clear hb3 hlv
      go_wp2
      go_ret
      exact ⟨rfl, HB3.out⟩

end Go.Proofs.Ytgkgflkcnigeaaa
