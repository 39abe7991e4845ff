/-
  HpDrop3
-/
import Derived.Test.YthmocdabakkfhaaGreatDoorZ18

/-
  Layer 9: drop, where the buckets stay as many.
-/
namespace Go.Proofs.YthmocdabakkfhaaGreatDoor
set_option maxRecDepth 100000
open Go.RowKit

set_option maxHeartbeats 4000000 in
theorem drop_stay (tb g n c m : Nat) (cs : Nat → List En) (W : Nat → Nat) (s : Nat) (xo : List En) (e : En) (yo : List En) (w : World) (h : Dr w tb g n c m cs W s xo e yo) (hns : ¬ (4 < n ∧ xo.length + yo.length < n / 4)) (hfew : xo.length + yo.length < 1099511627776) :
    Calls Tryz.prog 67 #[.pointer (some ⟨tb, 0, none⟩), .pointer (some ⟨e.b, 0, none⟩)] w fun x w' => x = .returned (.tuple #[]) ∧
      ∃ p r w1 w2 w3, cs (bk e.H n) = p ++ e :: r ∧ Wr [linkOf g (bk e.H n) p] w w1 ∧ Wr (dropA tb xo yo) w1 w2 ∧ Wr [(c, bitN m e.K e.N / 64), (tb, 9)] w2 w3 ∧ Or w3 tb (xo ++ yo) ∧ Bk w3 g n (cutC cs (bk e.H n) (p ++ r)) (xo ++ yo) ∧
        Ct w3 tb c m (disW m W e.K e.N) (disS m s e.K e.N) ∧ Wr [] w3 w' := by
  have he : e ∈ xo ++ e :: yo := by simp
  have hlies := h.kb.lies e he
  have c8 := hlies.1.2.2.2.2.2.2.2.2
  have hH : e.H < 18446744073709551616 := by rw [h.kb.hash e he]; exact hN_lt _ _ _ _
  have hbuck := bucket_any tb g n n e.H w h.row h.kb.pos h.kb.few hH
  have hj := bk_lt e.H h.kb.pos
  obtain ⟨j, hjj⟩ : ∃ j, bk e.H n = j := ⟨_, rfl⟩
  rw [hjj] at hbuck hj
  have hin : e ∈ cs j := (h.kb.mem j hj e).2 ⟨he, hjj⟩
  have HL : Hid (∀ p r, cs j = p ++ r → w.cell? ⟨(linkOf g j p).1, (linkOf g j p).2, none⟩ = some (hd r)) := fun p r hc => h.kb.link hj hc
  have HF : Hid (∀ p r, cs j = p ++ r → w.frozen? ⟨(linkOf g j p).1, (linkOf g j p).2, none⟩ = false) := fun p r hc => by
    unfold linkOf
    cases hp : p.getLast? with
    | none => exact h.zg j
    | some x =>
      have hx : x ∈ cs j := by rw [hc]; exact List.mem_append_left _ (List.mem_of_getLast? hp)
      exact h.efree x ((h.kb.mem j hj x).1 hx).1 9
  have HNE : Hid (∀ f ∈ cs j, f ≠ e → f.b ≠ e.b) := fun f hf hne k => hne (h.kb.block f ((h.kb.mem j hj f).1 hf).1 e he k)
  have HND : Hid ((cs j).Nodup) := h.kb.once j hj
  have HIN : Hid (e ∈ cs j) := hin
  have HB9 : Hid (∀ p r, cs j = p ++ e :: r → w.cell? ⟨e.b, 9, none⟩ = some (hd r)) := fun p r hc => by
    have k := h.kb.chain j hj
    rw [hc] at k
    exact lkAfter k
  have HJ : Hid (bk e.H n = j) := hjj
  have HBL : Hid (∀ f ∈ cs j, Blk w f.b) := fun f hf => h.blk f ((h.kb.mem j hj f).1 hf).1
  have HBE : Hid (Blk w e.b) := h.blk e he
  have HD : Hid (Dr w tb g n c m cs W s xo e yo) := h
  clear h hlies hjj hin hH
  go_enter Tryz.func67, Tryz.ntmps67
  go_wp2_with fail
  refine hbuck.mono ?_
  rintro x w1 ⟨rfl, rfl⟩
  clear hbuck
  go_wp2_with fail
  go_loopg [4] (cs j).length (fun k t4 wr => ∃ p r : List En, t4 = .pointer (some ⟨(linkOf g j p).1, (linkOf g j p).2, none⟩) ∧ wr = w.drew ∧ Hid (k = r.length ∧ cs j = p ++ r ∧ e ∈ r))
  case atStart => exact ⟨[], cs j, rfl, rfl, ⟨rfl, rfl, HIN.out⟩⟩
  case round =>
    obtain ⟨p, r, rfl, rfl, HI⟩ := hrel
    obtain ⟨hk, hpr, hm⟩ := HI.out
    rcases r with _ | ⟨f, r⟩
    · simp at hm
    · have kl := HL.out p (f :: r) hpr
      rw [hd] at kl
      have fl := HF.out p (f :: r) hpr
      by_cases cf : f = e
      · subst cf
        have k9 := HB9.out p r hpr
        obtain ⟨u9, hu9⟩ : ∃ u, hd r = .pointer u := by cases r <;> exact ⟨_, rfl⟩
        rw [hu9] at k9
        have hsame := fun w => neq_ptr_same w f.b
        obtain ⟨W1, hW1⟩ : ∃ W1, W1 = (w.setCell ⟨(linkOf g j p).1, (linkOf g j p).2, none⟩ (.pointer u9)).drew := ⟨_, rfl⟩
        have hwr1 : Wr [linkOf g j p] w W1 := by
          rw [hW1]
          have := (Wr.set w (linkOf g j p).1 (linkOf g j p).2 (.pointer u9)).trans (Wr.drew _)
          exact this.more (fun a ha => by simpa using ha)
        have hd2 : D2 W1 tb g n c m (cutC cs (bk f.H n) (p ++ r)) W s xo f yo := by
          refine HD.out.cut (by rw [HJ.out]; exact hpr) (by rw [HJ.out]; exact hwr1) ?_
          rw [HJ.out, hW1, hu9]
          exact World.cell?_setCell_same _ _ _ kl
        have HW1 : Hid (W1 = (w.setCell ⟨(linkOf g j p).1, (linkOf g j p).2, none⟩ (.pointer u9)).drew) := hW1
        have HPR : Hid (cs (bk f.H n) = p ++ f :: r) := by rw [HJ.out]; exact hpr
        have HWR1 : Hid (Wr [linkOf g (bk f.H n) p] w W1) := by rw [HJ.out]; exact hwr1
        generalize hq1 : (linkOf g j p).1 = q1 at *
        generalize hq2 : (linkOf g j p).2 = q2 at *
        clear HI hk hpr hm hwr1 hW1 hu9 HL HF HNE HND HIN HB9 HBL HBE HD HJ
        go_upto_region 4 with fail
        rw [← HW1.out]
        have ko := hd2.ko
        have hrev : (xo ++ f :: yo).reverse = yo.reverse ++ f :: xo.reverse := by simp
        have k10 : W1.cell? ⟨f.b, 10, none⟩ = some (hd xo.reverse) := by
          have k := ko.ahead
          rw [hrev] at k
          exact lkAfter k
        have k11 : W1.cell? ⟨f.b, 11, none⟩ = some (hd yo) := lkAfter ko.behind
        have k4 := ko.keys
        have k6 := ko.last
        obtain ⟨v5, k5⟩ : ∃ v, W1.cell? ⟨tb, 5, none⟩ = some v := ⟨_, ko.first⟩
        obtain ⟨v6, k6⟩ : ∃ v, W1.cell? ⟨tb, 6, none⟩ = some v := ⟨_, k6⟩
        have hlen : (xo ++ f :: yo).length = xo.length + yo.length + 1 := by simp; omega
        rw [hlen] at k4
        have z4 := hd2.tfree 4
        have z5 := hd2.tfree 5
        have z6 := hd2.tfree 6
        obtain ⟨e0, e1, e2, e3, _⟩ := hd2.lies
        have hft : f.b ≠ tb := ko.apart f he
        have HPUT : Hid (∀ W2, Wr (dropA tb xo yo) W1 W2 → W2.cell? ⟨tb, 4, none⟩ = some (.int .i64 ((xo.length + yo.length : Nat) : Int)) → (match xo.getLast? with
            | none => W2.cell? ⟨tb, 5, none⟩ = some (hd yo)
            | some z => W2.cell? ⟨z.b, 11, none⟩ = some (hd yo)) → (yo = [] → W2.cell? ⟨tb, 6, none⟩ = some (hd xo.reverse)) → (∀ y l, yo = y :: l → W2.cell? ⟨y.b, 10, none⟩ = some (hd xo.reverse)) →
            Calls Tryz.prog 77 #[.pointer (some ⟨tb, 0, none⟩), .agg #[.int .i64 f.K, .int .u64 f.N, .string f.S, .int .i64 f.O]] W2 fun x w' => x = .returned (.tuple #[]) ∧ w'.cell? ⟨tb, 4, none⟩ = some (.int .i64 ((xo.length + yo.length : Nat) : Int)) ∧ w'.cell? ⟨tb, 7, none⟩ = some (.slice (some ⟨g, 0, none⟩) n n) ∧
              ∃ p r w1 w2, cs (bk f.H n) = p ++ f :: r ∧ Wr [linkOf g (bk f.H n) p] w w1 ∧ Wr (dropA tb xo yo) w1 w2 ∧ Wr [(c, bitN m f.K f.N / 64), (tb, 9)] w2 w' ∧ Or w' tb (xo ++ yo) ∧ Bk w' g n (cutC cs (bk f.H n) (p ++ r)) (xo ++ yo) ∧
                Ct w' tb c m (disW m W f.K f.N) (disS m s f.K f.N)) := by
          intro W2 a1 a2 a3 a4 a5
          refine (hd2.put a1 a2 a3 a4 a5).mono fun x w' ⟨b1, b2, b3, b4, b5, b6⟩ => ⟨b1, ?_, b6, p, r, W1, W2, HPR.out, HWR1.out, a1, b2, b3, b4, b5⟩
          have := b3.keys
          rw [List.length_append] at this
          exact this
        have HZ : Hid (∀ z, xo.getLast? = some z → z.b ≠ f.b ∧ z.b ≠ tb ∧ (∃ u, W1.cell? ⟨z.b, 11, none⟩ = some (.pointer u)) ∧ W1.frozen? ⟨z.b, 11, none⟩ = false) := by
          intro z hz
          have hm := List.mem_of_getLast? hz
          have hm2 : z ∈ xo ++ f :: yo := List.mem_append_left _ hm
          refine ⟨once_ne ko.once rfl (Or.inl hm), ko.apart z hm2, lkSome ko.behind z hm2, hd2.efree z hm2 11⟩
        have HY : Hid (∀ y l, yo = y :: l → y.b ≠ f.b ∧ y.b ≠ tb ∧ (∃ u, W1.cell? ⟨y.b, 10, none⟩ = some (.pointer u)) ∧ W1.frozen? ⟨y.b, 10, none⟩ = false) := by
          intro y l hy
          have hm : y ∈ yo := by rw [hy]; simp
          have hm2 : y ∈ xo ++ f :: yo := List.mem_append_right _ (List.mem_cons_of_mem _ hm)
          exact ⟨once_ne ko.once rfl (Or.inr hm), ko.apart y hm2, lkSome ko.ahead y (List.mem_reverse.2 hm2), hd2.efree y hm2 10⟩
        have hn4 : n ≤ 1099511627776 := hd2.kb.few
        clear hd2 ko hrev hlen HW1 HPR HWR1 he c8 kl fl k9 hsame
        generalize hfb : f.b = fb at *
        obtain ⟨ln, hln⟩ : ∃ ln, xo.length + yo.length = ln := ⟨_, rfl⟩
        rw [hln] at hns hfew k4 HPUT
        have k4' : W1.cell? ⟨tb, 4, none⟩ = some (.int .i64 ((ln : Int) + 1)) := k4
        clear k4 hln
        have HDA : Hid (∀ a, a ∈ dropA tb xo yo → a ∈ dropA tb xo yo) := fun _ h => h
        rcases hxo : xo.getLast? with _ | z
        · have hx0 : xo = [] := List.getLast?_eq_none_iff.1 hxo
          subst hx0
          rw [show hd ([] : List En).reverse = .pointer none from rfl] at k10 HPUT
          clear hxo
          rcases yo with _ | ⟨y, yl⟩
          · rw [show hd ([] : List En) = .pointer none from rfl] at k11 HPUT
            have HDA : Hid (∀ a, a ∈ [(tb, 5), (tb, 6), (tb, 4)] → a ∈ dropA tb [] []) := fun _ h => h
            go_wp2_with fail
            refine (HPUT.out _ ?_ ?_ ?_ ?_ ?_).mono ?_
            · refine Wr.more (A := [(tb, 5)] ++ [(tb, 6)] ++ [(tb, 4)]) ?_ (fun a ha => HDA.out a (by simpa using ha))
              first
                | exact (((Wr.set W1 tb 5 _).trans (Wr.set _ tb 6 _)).trans (Wr.set _ tb 4 _))
                | exact ((((Wr.set W1 tb 5 _).trans (Wr.set _ tb 6 _)).trans (Wr.set _ tb 4 _)).trans (Wr.drew _)).more (fun a ha => by simpa using ha)
                | exact (((((Wr.set W1 tb 5 _).trans (Wr.set _ tb 6 _)).trans (Wr.set _ tb 4 _)).trans (Wr.drew _)).trans (Wr.drew _)).more (fun a ha => by simpa using ha)
            · go_simp
            · show _ = _; go_simp
            · intro _; go_simp
            · intro y l h; cases h
            · rintro x w3 ⟨rfl, d4, d7, q⟩
              have HQ : Hid _ := q
              clear q
              by_cases cn : 4 < n
              · have g1 : decide ((4 : Int) < (n : Int)) = true := decide_eq_true (by omega)
                have g2 : decide (((ln : Nat) : Int) < (n : Int) / 4) = false := decide_eq_false (by omega)
                have g3 : decide (4 < n) = true := decide_eq_true cn
                have g4 : decide (ln < n / 4) = false := decide_eq_false (by omega)
                go_wp2_with fail
                go_quiet (fail)
                go_wp2
                go_end0
                obtain ⟨p, r, w1, w2, b1, b2, b3, b4, b5, b6, b7⟩ := HQ.out
                exact ⟨rfl, p, r, w1, w2, w3, b1, b2, b3, b4, b5, b6, b7, Wr.of_below ⟨rfl, rfl, rfl, Nat.le_refl _, fun _ _ => rfl⟩⟩
              · have g1 : decide ((4 : Int) < (n : Int)) = false := decide_eq_false (by omega)
                have g3 : decide (4 < n) = false := decide_eq_false cn
                go_wp2_with fail
                go_quiet (fail)
                go_wp2
                go_end0
                obtain ⟨p, r, w1, w2, b1, b2, b3, b4, b5, b6, b7⟩ := HQ.out
                exact ⟨rfl, p, r, w1, w2, w3, b1, b2, b3, b4, b5, b6, b7, Wr.of_below ⟨rfl, rfl, rfl, Nat.le_refl _, fun _ _ => rfl⟩⟩
          · obtain ⟨y1, y2, ⟨uy, y3⟩, y4⟩ := HY.out y yl rfl
            have HDA : Hid (∀ a, a ∈ [(tb, 5), (y.b, 10), (tb, 4)] → a ∈ dropA tb [] (y :: yl)) := fun _ h => h
            rw [show hd (y :: yl) = .pointer (some ⟨y.b, 0, none⟩) from rfl] at k11 HPUT
            have HPUT2 : Hid (∀ W2, Wr (dropA tb [] (y :: yl)) W1 W2 → _) := HPUT.out
            generalize hyb : y.b = yb at *
            go_wp2_with fail
            go_region
            go_wp2_with fail
            refine (HPUT.out _ ?_ ?_ ?_ ?_ ?_).mono ?_
            · refine Wr.more (A := [(tb, 5)] ++ [(yb, 10)] ++ [(tb, 4)]) ?_ (fun a ha => HDA.out a (by simpa using ha))
              first
                | exact (((Wr.set W1 tb 5 _).trans (Wr.set _ yb 10 _)).trans (Wr.set _ tb 4 _))
                | exact ((((Wr.set W1 tb 5 _).trans (Wr.set _ yb 10 _)).trans (Wr.set _ tb 4 _)).trans (Wr.drew _)).more (fun a ha => by simpa using ha)
                | exact (((((Wr.set W1 tb 5 _).trans (Wr.set _ yb 10 _)).trans (Wr.set _ tb 4 _)).trans (Wr.drew _)).trans (Wr.drew _)).more (fun a ha => by simpa using ha)
            · go_simp
            · show _ = _; go_simp
            · intro h; cases h
            · intro y' l h; injection h with h _; rw [← h, hyb]; go_simp
            · rintro x w3 ⟨rfl, d4, d7, q⟩
              have HQ : Hid _ := q
              clear q
              by_cases cn : 4 < n
              · have g1 : decide ((4 : Int) < (n : Int)) = true := decide_eq_true (by omega)
                have g2 : decide (((ln : Nat) : Int) < (n : Int) / 4) = false := decide_eq_false (by omega)
                have g3 : decide (4 < n) = true := decide_eq_true cn
                have g4 : decide (ln < n / 4) = false := decide_eq_false (by omega)
                go_wp2_with fail
                go_quiet (fail)
                go_wp2
                go_end0
                obtain ⟨p, r, w1, w2, b1, b2, b3, b4, b5, b6, b7⟩ := HQ.out
                exact ⟨rfl, p, r, w1, w2, w3, b1, b2, b3, b4, b5, b6, b7, Wr.of_below ⟨rfl, rfl, rfl, Nat.le_refl _, fun _ _ => rfl⟩⟩
              · have g1 : decide ((4 : Int) < (n : Int)) = false := decide_eq_false (by omega)
                have g3 : decide (4 < n) = false := decide_eq_false cn
                go_wp2_with fail
                go_quiet (fail)
                go_wp2
                go_end0
                obtain ⟨p, r, w1, w2, b1, b2, b3, b4, b5, b6, b7⟩ := HQ.out
                exact ⟨rfl, p, r, w1, w2, w3, b1, b2, b3, b4, b5, b6, b7, Wr.of_below ⟨rfl, rfl, rfl, Nat.le_refl _, fun _ _ => rfl⟩⟩
        · obtain ⟨z1, z2, ⟨uz, z3⟩, z4'⟩ := HZ.out z hxo
          have hrv : hd xo.reverse = .pointer (some ⟨z.b, 0, none⟩) := by
            have : xo.reverse.head? = some z := by rw [List.head?_reverse]; exact hxo
            cases hr : xo.reverse with
            | nil => rw [hr] at this; cases this
            | cons a l => rw [hr] at this; injection this with this; subst this; rfl
          rw [hrv] at k10 HPUT
          clear hrv
          generalize hzb : z.b = zb at *
          rcases yo with _ | ⟨y, yl⟩
          · rw [show hd ([] : List En) = .pointer none from rfl] at k11 HPUT
            have HDA : Hid (∀ a, a ∈ [(zb, 11), (tb, 6), (tb, 4)] → a ∈ dropA tb xo []) := fun a h => by unfold dropA; rw [hxo]; simpa [hzb] using h
            go_wp2_with fail
            go_region
            go_wp2_with fail
            refine (HPUT.out _ ?_ ?_ ?_ ?_ ?_).mono ?_
            · refine Wr.more (A := [(zb, 11)] ++ [(tb, 6)] ++ [(tb, 4)]) ?_ (fun a ha => HDA.out a (by simpa using ha))
              first
                | exact (((Wr.set W1 zb 11 _).trans (Wr.set _ tb 6 _)).trans (Wr.set _ tb 4 _))
                | exact ((((Wr.set W1 zb 11 _).trans (Wr.set _ tb 6 _)).trans (Wr.set _ tb 4 _)).trans (Wr.drew _)).more (fun a ha => by simpa using ha)
                | exact (((((Wr.set W1 zb 11 _).trans (Wr.set _ tb 6 _)).trans (Wr.set _ tb 4 _)).trans (Wr.drew _)).trans (Wr.drew _)).more (fun a ha => by simpa using ha)
            · go_simp
            · rw [hxo]; show _ = _; rw [hzb]; go_simp
            · intro _; go_simp
            · intro y l h; cases h
            · rintro x w3 ⟨rfl, d4, d7, q⟩
              have HQ : Hid _ := q
              clear q
              by_cases cn : 4 < n
              · have g1 : decide ((4 : Int) < (n : Int)) = true := decide_eq_true (by omega)
                have g2 : decide (((ln : Nat) : Int) < (n : Int) / 4) = false := decide_eq_false (by omega)
                have g3 : decide (4 < n) = true := decide_eq_true cn
                have g4 : decide (ln < n / 4) = false := decide_eq_false (by omega)
                go_wp2_with fail
                go_quiet (fail)
                go_wp2
                go_end0
                obtain ⟨p, r, w1, w2, b1, b2, b3, b4, b5, b6, b7⟩ := HQ.out
                exact ⟨rfl, p, r, w1, w2, w3, b1, b2, b3, b4, b5, b6, b7, Wr.of_below ⟨rfl, rfl, rfl, Nat.le_refl _, fun _ _ => rfl⟩⟩
              · have g1 : decide ((4 : Int) < (n : Int)) = false := decide_eq_false (by omega)
                have g3 : decide (4 < n) = false := decide_eq_false cn
                go_wp2_with fail
                go_quiet (fail)
                go_wp2
                go_end0
                obtain ⟨p, r, w1, w2, b1, b2, b3, b4, b5, b6, b7⟩ := HQ.out
                exact ⟨rfl, p, r, w1, w2, w3, b1, b2, b3, b4, b5, b6, b7, Wr.of_below ⟨rfl, rfl, rfl, Nat.le_refl _, fun _ _ => rfl⟩⟩
          · obtain ⟨y1, y2, ⟨uy, y3⟩, y4⟩ := HY.out y yl rfl
            have HDA : Hid (∀ a, a ∈ [(zb, 11), (y.b, 10), (tb, 4)] → a ∈ dropA tb xo (y :: yl)) := fun a h => by unfold dropA; rw [hxo]; simpa [hzb] using h
            rw [show hd (y :: yl) = .pointer (some ⟨y.b, 0, none⟩) from rfl] at k11 HPUT
            have HPUT2 : Hid (∀ W2, Wr (dropA tb xo (y :: yl)) W1 W2 → _) := HPUT.out
            generalize hyb : y.b = yb at *
            go_wp2_with fail
            go_region
            go_wp2_with fail
            go_region
            go_wp2_with fail
            refine (HPUT.out _ ?_ ?_ ?_ ?_ ?_).mono ?_
            · refine Wr.more (A := [(zb, 11)] ++ [(yb, 10)] ++ [(tb, 4)]) ?_ (fun a ha => HDA.out a (by simpa using ha))
              first
                | exact (((Wr.set W1 zb 11 _).trans (Wr.set _ yb 10 _)).trans (Wr.set _ tb 4 _))
                | exact ((((Wr.set W1 zb 11 _).trans (Wr.set _ yb 10 _)).trans (Wr.set _ tb 4 _)).trans (Wr.drew _)).more (fun a ha => by simpa using ha)
                | exact (((((Wr.set W1 zb 11 _).trans (Wr.set _ yb 10 _)).trans (Wr.set _ tb 4 _)).trans (Wr.drew _)).trans (Wr.drew _)).more (fun a ha => by simpa using ha)
            · go_simp
            · rw [hxo]; show _ = _; rw [hzb]; go_simp
            · intro h; cases h
            · intro y' l h; injection h with h _; rw [← h, hyb]; go_simp
            · rintro x w3 ⟨rfl, d4, d7, q⟩
              have HQ : Hid _ := q
              clear q
              by_cases cn : 4 < n
              · have g1 : decide ((4 : Int) < (n : Int)) = true := decide_eq_true (by omega)
                have g2 : decide (((ln : Nat) : Int) < (n : Int) / 4) = false := decide_eq_false (by omega)
                have g3 : decide (4 < n) = true := decide_eq_true cn
                have g4 : decide (ln < n / 4) = false := decide_eq_false (by omega)
                go_wp2_with fail
                go_quiet (fail)
                go_wp2
                go_end0
                obtain ⟨p, r, w1, w2, b1, b2, b3, b4, b5, b6, b7⟩ := HQ.out
                exact ⟨rfl, p, r, w1, w2, w3, b1, b2, b3, b4, b5, b6, b7, Wr.of_below ⟨rfl, rfl, rfl, Nat.le_refl _, fun _ _ => rfl⟩⟩
              · have g1 : decide ((4 : Int) < (n : Int)) = false := decide_eq_false (by omega)
                have g3 : decide (4 < n) = false := decide_eq_false cn
                go_wp2_with fail
                go_quiet (fail)
                go_wp2
                go_end0
                obtain ⟨p, r, w1, w2, b1, b2, b3, b4, b5, b6, b7⟩ := HQ.out
                exact ⟨rfl, p, r, w1, w2, w3, b1, b2, b3, b4, b5, b6, b7, Wr.of_below ⟨rfl, rfl, rfl, Nat.le_refl _, fun _ _ => rfl⟩⟩
      · have hne := HNE.out f (by rw [hpr]; simp) cf
        have HNX : Hid (r.length < gk ∧ cs j = (p ++ [f]) ++ r ∧ e ∈ r) := by
          refine ⟨by rw [hk]; simp, by rw [hpr]; simp, ?_⟩
          rcases List.mem_cons.1 hm with k | k
          · exact absurd k.symm cf
          · exact k
        have hls := linkOf_snoc g j p f
        have hneq := neq_ptr w f.b e.b hne (HBL.out f (by rw [hpr]; simp)) HBE.out
        generalize hq1 : (linkOf g j p).1 = q1 at *
        generalize hq2 : (linkOf g j p).2 = q2 at *
        generalize hfb : f.b = fb at *
        clear HI hk hpr hm
        go_wp2_with fail
        go_roundg r.length
        case measure => exact HNX.out.1
        case rel => exact ⟨p ++ [f], r, by rw [hls], rfl, ⟨rfl, HNX.out.2⟩⟩

end Go.Proofs.YthmocdabakkfhaaGreatDoor
