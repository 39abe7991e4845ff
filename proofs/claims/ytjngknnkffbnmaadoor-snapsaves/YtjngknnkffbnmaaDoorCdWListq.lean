/-
  Layer 7: the landed writer's cell, walked: lists, and so any tree.
-/
import Derived.Test.YtjngknnkffbnmaaDoorGC2
namespace Go.Proofs.YtjngknnkffbnmaaDoor
set_option maxRecDepth 100000
open Go.RowKit Crc

set_option maxHeartbeats 4000000 in
theorem wcell_any (b B : Nat) : ∀ (F : Nat) (t : Tr) (v wv : Value) (D : Nat) (l : List Nat) (w : World), t.dep < F → D ≤ 64 → CS w (fun k => k < B) t v → WR w b B wv l → l.length ≤ 1048576 → ∀ r, r = encT t D l →
    Calls Tryd.prog 49 #[.pointer (some ⟨b, 0, none⟩), v, .int .i64 (64 - (D : Int))] w (Wrote r b B wv w) := by
  intro F
  induction F with
  | zero => intro t v wv D l w h; omega
  | succ F ih =>
    intro t v wv D l w hF hD h hw hl r hr
    cases h using CS.elim with
    | mk k n s ts a cap ks ns ss us hk hn hs hlc hc h0 hS hx hr' =>
    unfold cellV
    by_cases k0 : k = 0
    · subst k0
      exact wcell_number b B n s _ wv _ l w hw hl r (by rw [hr]; simp [encT_mk])
    by_cases k1 : k = 1
    · subst k1
      exact wcell_text b B n s _ wv _ l w hw hl hs r (by rw [hr]; simp [encT_mk])
    by_cases k2 : k = 2
    · subst k2
      have hw1 := hw.alloc (.cells #[.int .i64 2, .int .u64 n, .string s, .slice a ts.length cap] 26)
      have HB0 : Hid (Below B w (w.alloc (.cells #[.int .i64 2, .int .u64 n, .string s, .slice a ts.length cap] 26))) := (Below.refl _ _).alloc hw.base _
      cases D with
      | zero =>
        have HR : Hid (r = .inl 2) := by show _ = _; rw [hr]; simp [encT_mk]
        rw [show (64 : Int) - ((0 : Nat) : Int) = 64 from rfl]
        clear hw hw1 hx hr' ih h0 hS hr
        go_enter Tryd.func49, Tryd.ntmps49
        go_wp2
        refine ⟨rfl, ?_⟩
        rw [HR.out]
        exact ⟨rfl, HB0.out⟩
      | succ D =>
        rw [show (64 : Int) - ((D + 1 : Nat) : Int) = 63 - (D : Int) by omega]
        have hd1 : ¬ (63 : Int) - (D : Int) = 64 := by omega
        have hown := hw.own_lt
        have hlt := hw.lt
        have HG : Hid (1048576 < l.length + 5 → ∀ w', Below B w w' → Wrote r b B wv w (gaveUp 2) w') := by
          intro c w' hb
          rw [hr]
          simp only [encT_mk]
          rw [if_neg (by decide), if_neg (by decide), if_pos trivial, if_neg (by omega)]
          exact ⟨rfl, hb⟩
        have HR : Hid (l.length + 5 ≤ 1048576 → r = encL ts D (l ++ [2] ++ be ts.length 4)) := by
          intro c
          rw [hr]
          simp only [encT_mk]
          rw [if_neg (by decide), if_neg (by decide), if_pos trivial, if_pos c, List.append_assoc]
        have HW1 : Hid _ := hw1
        obtain ⟨N, hN⟩ : ∃ N, N = ts.length := ⟨_, rfl⟩
        have HN : Hid (N = ts.length) := hN
        rw [← hN] at HR HW1 HB0 hw1 hlc ⊢
        have hNm : (N : Int) % 18446744073709551616 = (N : Int) := by omega
        have HRR : Hid (∀ i (h : i < ts.length), CS w (fun k => k < B) ts[i] (cellV (ks i) (ns i) (ss i) (us i))) := hr'
        have HX : Hid (∀ x i, a = some x → i < ts.length → x.spot = none ∧ Lies w x.block x.off i (ks i) (ns i) (ss i) (us i)) := hx
        have HS : Hid (∀ x, a = some x → ts ≠ [] → x.block < B) := hS
        have H0 : Hid (a = none → ts = []) := h0
        have HF : Hid (deps ts < F + 1) := by rw [Tr.dep_mk] at hF; exact hF
        have HI : Hid _ := ih
        have HC3 : Hid (∀ v2 w2, Kept b wv v2 (w.alloc (.cells #[.int .i64 2, .int .u64 n, .string s, .slice a N cap] 26)) w2 → w2.cell? ⟨w.heap.size, 3, none⟩ = some (.slice a N cap)) := by
          intro v2 w2 k2
          rw [k2.cell (by simp) (by omega) hown 3]
          simp
        clear hw hx hr' ih h0 hS hF hN hr
        by_cases c1 : l.length = 1048576
        · have hlay := lay_long b B 2 wv l _ hw1 c1
          clear hw1
          go_enter Tryd.func49, Tryd.ntmps49
          go_wp2_with fail
          refine hlay.mono ?_
          rintro e w2 ⟨rfl, rfl⟩
          have HQ : Hid (Wrote r b B wv w (gaveUp 2) _) := HG.out (by omega) _ HB0.out
          clear hlay
          unfold gaveUp
          go_wp2
          exact ⟨rfl, HQ.out⟩
        · have hlay := lay_ok b B 2 wv l _ hw1 (by omega) (by decide)
          by_cases c2 : l.length + 5 ≤ 1048576
          · have HNu : Hid (∀ v2 w2, WR w2 b B v2 (l ++ [2]) → _) := fun v2 w2 k1 => number_ok b B N 4 v2 (l ++ [2]) w2 k1 (by rw [List.length_append]; simp; omega) (by decide)
            have HR2 : Hid (r = encL ts D (l ++ [2] ++ be N 4)) := HR.out c2
            clear hw1
            go_enter Tryd.func49, Tryd.ntmps49
            go_wp2_with fail
            refine hlay.mono ?_
            rintro e w2 ⟨rfl, v2, k1, k2⟩
            have hc := HC3.out v2 w2 k2
            have hnum := HNu.out v2 w2 k1
            have HK : Hid (Kept b wv v2 _ w2) := k2
            clear hlay k1 k2
            go_wp2_with fail
            refine hnum.mono ?_
            rintro e w3 ⟨rfl, v3, k1, k2⟩
            have HK3 : Hid (Kept b wv v3 (w.alloc (.cells #[.int .i64 2, .int .u64 n, .string s, .slice a N cap] 26)) w3) := HK.out.trans k2
            have hc3 := HC3.out v3 w3 HK3.out
            have HW3 : Hid (WR w3 b B v3 (l ++ [2] ++ be N 4)) := k1
            have HM : Hid ((l ++ [2] ++ be N 4).length ≤ 1048576) := by show _ ≤ _; simp [be_length]; omega
            clear hnum k1 k2 hc HK
            go_wp2_with fail
            go_loopw [60] (fun t60 wr => ∃ (i : Nat), i ≤ N ∧ t60 = .int .i64 i ∧ Hid (∃ v' m, WR wr b B v' m ∧ Kept b wv v' (w.alloc (.cells #[.int .i64 2, .int .u64 n, .string s, .slice a N cap] 26)) wr ∧ m.length ≤ 1048576 ∧ encL (ts.take i) D (l ++ [2] ++ be N 4) = .inr m)) (fun t60 _ => N - (intOf t60).toNat)
            case atStart => exact ⟨0, Nat.zero_le _, rfl, ⟨v3, _, HW3.out, HK3.out, HM.out, by simp [encL_nil]⟩⟩
            case round =>
              obtain ⟨i, hi, rfl, HV⟩ := hrel
              obtain ⟨v', m, g1, g2, g3, g4⟩ := HV.out
              by_cases c : i < N
              · have i1 : i < ts.length := by rw [← HN.out]; exact c
                obtain ⟨x, hx⟩ : ∃ x, a = some x := by
                  cases a with
                  | some x => exact ⟨x, rfl⟩
                  | none => rw [H0.out rfl] at i1; exact absurd i1 (by simp)
                subst hx
                have hxB := HS.out x rfl (fun e => by rw [e] at i1; exact absurd i1 (by simp))
                have hbw : Below B w wr := HB0.out.trans (g2.below HW1.out)
                obtain ⟨hsp, hli0⟩ := HX.out x i rfl i1
                obtain ⟨g, o, sp⟩ := x
                simp only at hsp
                subst hsp
                obtain ⟨l0, l1, l2, l3⟩ := hli0.same (w' := wr) (hbw.block g hxB)
                have hcs := (HRR.out i i1).kept (w' := wr) (fun k hk => hbw.block k hk)
                obtain ⟨ai, mi, ci, hus⟩ : ∃ ai mi ci, us i = .slice ai mi ci := by
                  obtain ⟨_, _, _, ai, mi, ci, e⟩ := hcs.form
                  unfold cellV at e
                  simp at e
                  exact ⟨ai, mi, ci, e.2.2.2⟩
                rw [hus] at l3 hcs
                have hcall := HI.out ts[i] _ v' D m (wr.alloc (.cells #[.int .i64 (ks i), .int .u64 (ns i), .string (ss i), .slice ai mi ci] 26)) (by have := deps_get i i1; have := HF.out; omega) (by omega) (hcs.kept (fun k hk => Below.heap_alloc wr _ k (by have := g1.base; omega))) (g1.alloc _) g3 _ rfl
                unfold cellV at hcall
                rw [show (64 : Int) - (D : Int) = 63 - (D : Int) + 1 by omega] at hcall
                have hnext := encL_take ts i i1 D _ m g4
                have HG1 : Hid (WR wr b B v' m) := g1
                have HG2 : Hid (Kept b wv v' (w.alloc (.cells #[.int .i64 2, .int .u64 n, .string s, .slice (some ⟨g, o, none⟩) N cap] 26)) wr) := g2
                have HBW : Hid (Below B w wr) := hbw
                clear hcs g1 g2 g4 hli0 hbw HV
                generalize hE : encT ts[i] D m = E at hcall hnext
                go_wp2_with fail
                refine hcall.mono ?_
                intro e w5 hwr
                clear hcall l0 l1 l2 l3
                cases E with
                | inl x =>
                  obtain ⟨rfl, hb5⟩ := hwr
                  have HQ : Hid (Wrote r b B wv w (gaveUp x) w5) := by
                    have e1 : r = .inl x := by rw [HR2.out]; exact encL_stop ts (i + 1) D _ x hnext
                    show Wrote r b B wv w (gaveUp x) w5
                    rw [e1]
                    exact ⟨rfl, HBW.out.trans (((Below.refl _ _).alloc HG1.out.base _).trans hb5)⟩
                  clear hnext hb5 hE
                  unfold gaveUp at HQ ⊢
                  go_wp2
                  exact ⟨rfl, HQ.out⟩
                | inr m2 =>
                  obtain ⟨rfl, v5, q1, q2, q3⟩ := hwr
                  have HV5 : Hid (∃ v' m, WR w5 b B v' m ∧ Kept b wv v' (w.alloc (.cells #[.int .i64 2, .int .u64 n, .string s, .slice (some ⟨g, o, none⟩) N cap] 26)) w5 ∧ m.length ≤ 1048576 ∧ encL (ts.take (i + 1)) D (l ++ [2] ++ be N 4) = .inr m) := ⟨v5, m2, q1, HG2.out.trans q2.alloc, q3, hnext⟩
                  clear q1 q2 q3 hnext hE
                  go_wp2
                  go_roundw
                  case rel => exact ⟨i + 1, by omega, by go_num, HV5⟩
                  case measure => simp [intOf]; omega
              · have e : i = N := by omega
                subst e
                have HQ : Hid (Wrote r b B wv w (.returned (.tuple #[])) wr) := by
                  rw [HN.out, List.take_length] at g4
                  have e1 : r = .inr m := by rw [HR2.out, HN.out]; exact g4
                  show Wrote r b B wv w (.returned (.tuple #[])) wr
                  rw [e1]
                  exact ⟨rfl, v', g1, g2.alloc, g3⟩
                clear g1 g2 g3 g4 HV
                go_wp2
                go_end0
                exact HQ.out
          · have HNu : Hid (∀ v2 w2, WR w2 b B v2 (l ++ [2]) → _) := fun v2 w2 k1 => number_long b B N 4 v2 (l ++ [2]) w2 k1 (by rw [List.length_append]; simp; omega) (by rw [List.length_append]; simp; omega) (by decide)
            clear hw1
            go_enter Tryd.func49, Tryd.ntmps49
            go_wp2_with fail
            refine hlay.mono ?_
            rintro e w2 ⟨rfl, v2, k1, k2⟩
            have hc := HC3.out v2 w2 k2
            have hnum := HNu.out v2 w2 k1
            have HK : Hid (Below B w w2) := HB0.out.trans (k2.below HW1.out)
            clear hlay k1 k2
            go_wp2_with fail
            refine hnum.mono ?_
            rintro e w3 ⟨rfl, k1⟩
            have HQ : Hid (Wrote r b B wv w (gaveUp 2) w3) := HG.out (by omega) _ (HK.out.trans k1)
            clear hnum
            unfold gaveUp
            go_wp2
            exact ⟨rfl, HQ.out⟩
    · have e : r = .inl 1 := by rw [hr]; simp [encT_mk, k0, k1, k2]
      rw [e]
      exact wcell_bad b B k n s _ wv _ l w hw k0 k1 k2

end Go.Proofs.YtjngknnkffbnmaaDoor
