/-
  Layer 19: the landed Load, walked.
-/
import Derived.Test.YtjngknnkffbnmaaDoorSnLand5q
namespace Go.Proofs.YtjngknnkffbnmaaDoor
set_option maxRecDepth 100000
open Go.RowKit Crc Sn

set_option maxHeartbeats 2000000 in
theorem lLoad_any (v : Value) (l : List Nat) (w : World) (h : BR w v l) (hT : Tb w) (h0 : 0 < w.heap.size) :
    Calls Tryd.prog 14 #[v] w (LdR w l) := by
  have HBR := hide_p h
  have HSM8 : Hid (Sm8 l) := h.1
  obtain ⟨R, hR⟩ : ∃ R, R = LdR w l := ⟨_, rfl⟩
  rw [← hR]
  have HRZ : Hid ((loadV l).1 = false → ∀ e w', LdP w zS 4 e w' → R e w') := by
    intro h1 e w' hp
    have h2 : (loadV l).2 = zS := by
      unfold loadV at h1 ⊢
      split
      · next h3 =>
        rw [if_pos h3] at h1
        cases e : decD (frsB l) with
        | inl y => rfl
        | inr t =>
          rw [e] at h1
          simp only at h1 ⊢
          split
          · next h4 => rw [if_pos h4] at h1; cases h1
          · rfl
      · rfl
    rw [hR]
    unfold LdR
    rw [h1, h2]
    exact hp
  have HRG : Hid (∀ t, frsE l = 0 → decD (frsB l) = .inr t → eqB (saveV (readS t)) l = true → ∀ e w', LdP w (readS t) 0 e w' → R e w') := by
    intro t h1 h2 h3 e w' hp
    have h4 : loadV l = (true, readS t) := by unfold loadV; rw [if_pos h1, h2]; simp only [h3, if_true]
    rw [hR]
    unfold LdR
    rw [h4]
    exact hp
  have HLF : Hid (∀ t, frsE l = 0 → decD (frsB l) = .inr t → eqB (saveV (readS t)) l = false → (loadV l).1 = false) := by
    intro t h1 h2 h3
    unfold loadV
    rw [if_pos h1, h2]
    simp only [h3, Bool.false_eq_true, if_false]
  have HFI : Hid (∀ w', Below w.heap.size w w' → Calls Tryd.prog 35 #[v] w' (FA w' l)) := fun w' hb => first_any v l w' (HBR.out.below hb (Nat.le_refl _)) (hT.below hb h0) (Nat.lt_of_lt_of_le h0 hb.size)
  obtain ⟨a, cap, rfl⟩ : ∃ a cap, v = .slice a l.length cap := by obtain ⟨-, a, cap, e, -⟩ := h; exact ⟨a, cap, e⟩
  obtain ⟨nl, hnl⟩ : ∃ nl, nl = l.length := ⟨_, rfl⟩
  have HNL := hide_p hnl
  rw [← hnl] at HFI ⊢
  clear h hR hT h0 HBR hnl
  obtain ⟨w1, hw1⟩ : ∃ w1, w1 = w.alloc (.cells #[.int .u64 0, .int .u64 0, .slice none 0 0, .int .i64 0, .int .u64 0, .string ⟨#[]⟩, .slice none 0 0, .int .i64 0, .int .u64 0, .string ⟨#[]⟩, .slice none 0 0] 28) := ⟨_, rfl⟩
  have HS1 : Hid (w1.heap.size = w.heap.size + 1) := by show _ = _; rw [hw1]; simp
  have HB1 : Hid (Below w.heap.size w w1) := by show Below _ _ _; rw [hw1]; exact (Below.refl _ _).alloc (Nat.le_refl _) _
  have HA1 : Hid (w1.heap[w.heap.size]? = some (.cells #[.int .u64 0, .int .u64 0, .slice none 0 0, .int .i64 0, .int .u64 0, .string ⟨#[]⟩, .slice none 0 0, .int .i64 0, .int .u64 0, .string ⟨#[]⟩, .slice none 0 0] 28 (0, 0))) := by show _ = _; rw [hw1]; exact heap_alloc_new _ _
  have HX : Hid (∀ wq, Below (w.heap.size + 1) w1 wq → wq.heap[w.heap.size]? = some (.cells #[.int .u64 0, .int .u64 0, .slice none 0 0, .int .i64 0, .int .u64 0, .string ⟨#[]⟩, .slice none 0 0, .int .i64 0, .int .u64 0, .string ⟨#[]⟩, .slice none 0 0] 28 (0, 0)) ∧ Below w.heap.size w wq) := fun wq hq => ⟨(hq.block _ (Nat.lt_succ_self _)).trans HA1.out, HB1.out.trans (hq.mono (Nat.le_succ _))⟩
  go_enter Tryd.func14, Tryd.ntmps14
  go_upto_region 1 with fail
  rw [← hw1]
  clear hw1
  go_wp2_with fail
  refine (HFI.out w1 HB1.out).mono ?_
  rintro e w2 ⟨v2, rfl, hw2, hb2⟩
  have HB2 : Hid (Below (w.heap.size + 1) w1 w2) := hb2.mono (by have := HS1.out; omega)
  have HF2 := hide_p hw2
  obtain ⟨a2, c2, rfl⟩ : ∃ a c, v2 = .slice a (frsB l).length c := by obtain ⟨a, c, e, -⟩ := hw2.shape; exact ⟨a, c, e⟩
  clear hw2 hb2 HFI
  obtain ⟨fE, hfE⟩ : ∃ fE, fE = frsE l := ⟨_, rfl⟩
  have HFE := hide_p hfE
  obtain ⟨fN, hfN⟩ : ∃ fN, fN = frsN l := ⟨_, rfl⟩
  have HFN := hide_p hfN
  rw [← hfE, ← hfN]
  clear hfE hfN
  by_cases ce : fE = 0
  · subst ce
    obtain ⟨r, hr⟩ : ∃ r, r = decD (frsB l) := ⟨_, rfl⟩
    have HD := hide_p hr
    have hcall := decode_any _ _ (frsB l) w2 HF2.out r hr
    clear hr
    generalize (frsB l).length = fl at *
    by_cases cl : fN = nl
    · subst cl
      have dcl : ((fN : Int) != (fN : Int)) = false := by simp
      go_wp2_with fail
      refine hcall.mono ?_
      rintro e w3 ⟨cv, x, rfl, hb3, hdv⟩
      have HB3 : Hid (Below (w.heap.size + 1) w1 w3) := HB2.out.trans (hb3.mono (by have := HB2.out.size; have := HS1.out; omega))
      have HL3 : Hid (w.heap.size + 1 ≤ w2.heap.size ∧ w2.heap.size ≤ w3.heap.size) := ⟨by have := HB2.out.size; have := HS1.out; omega, hb3.size⟩
      clear hb3 hcall
      cases r with
      | inl y =>
        obtain ⟨rfl, rfl⟩ := hdv
        have hy := decD_err HD.out.symm
        have hyb : ((y : Int) != 0) = true := by simp; omega
        have HLV : Hid ((loadV l).1 = false) := by show _ = _; unfold loadV; rw [if_pos HFE.out.symm, ← HD.out]
        have HB4 : Hid (∀ o, Below (w.heap.size + 1) w1 (w3.alloc o)) := fun o => HB3.out.alloc (by have := HL3.out; omega) o
        unfold cellV
        obtain ⟨w4, hw4⟩ : ∃ w4, w4 = w3.alloc (.cells #[.int .i64 0, .int .u64 0, .string ⟨#[]⟩, .slice none 0 0] 26) := ⟨_, rfl⟩
        have HB5 : Hid (Below (w.heap.size + 1) w1 w4) := by show Below _ _ _; rw [hw4]; exact HB4.out _
        go_upto_region 5 with fail
        rw [← hw4]
        clear hw4 hy
        obtain ⟨q1, q2⟩ := HX.out w4 HB5.out
        obtain ⟨r0, r1, r2, r3, r4, r5, r6, r7, r8, r9, r10⟩ := block11 q1
        have fz := Lib.frozen_of_heap q1
        have f0 := fz 0
        have f1 := fz 1
        have f2 := fz 2
        have f3 := fz 3
        have f4 := fz 4
        have f5 := fz 5
        have f6 := fz 6
        have f7 := fz 7
        have f8 := fz 8
        have f9 := fz 9
        have f10 := fz 10
        have HZ := hide_p (fun W => ld_zero (W := W) q1 (Nat.le_refl _) q2)
        have HW := hide_p (HRZ.out HLV.out)
        clear q1 q2 fz HRZ
        go_wp2
        obtain ⟨y1, y2⟩ := HZ.out _ rfl
        exact bodyPost_ret (Sn.results_cell_tmp (p := 2) (q := 3) rfl _ _ w.heap.size _ _ _ _ rfl y1 Tryd.underlying28 rfl sz28) rfl (HW.out _ _ y2)
      | inr t =>
        obtain ⟨hcs, rfl⟩ := hdv
        obtain ⟨hcnt, hst⟩ := decD_bd HD.out.symm
        have HCS := hide_p hcs
        have HIF : Hid (eqB (saveV (readS t)) l = true ↔ okS t = true) := by
          have := load_iff HSM8.out HFE.out.symm HD.out.symm hcs.cr.nt
          rw [this]
          exact ⟨fun h => h.2, fun h => ⟨by rw [← HFN.out, HNL.out], h⟩⟩
        obtain ⟨k, n, s, a3, m3, c3, rfl⟩ := hcs.form
        clear hcs
        unfold cellV at HCS ⊢
        obtain ⟨w4, hw4⟩ : ∃ w4, w4 = w3.alloc (.cells #[.int .i64 k, .int .u64 n, .string s, .slice a3 m3 c3] 26) := ⟨_, rfl⟩
        obtain ⟨b4, hb4⟩ : ∃ b4, b4 = w3.heap.size := ⟨_, rfl⟩
        have HB34 : Hid (Below w3.heap.size w3 w4 ∧ w4.heap[b4]? = some (.cells #[.int .i64 k, .int .u64 n, .string s, .slice a3 m3 c3] 26 (0, 0))) := by
          show _ ∧ _
          rw [hw4, hb4]
          exact ⟨(Below.refl _ _).alloc (Nat.le_refl _) _, heap_alloc_new _ _⟩
        have HB4 : Hid (Below (w.heap.size + 1) w1 w4) := HB3.out.trans (HB34.out.1.mono (by have := HL3.out; omega))
        have HL4 : Hid (w.heap.size + 1 ≤ w4.heap.size) := Nat.le_trans (by have := HL3.out; omega) HB34.out.1.size
        have HCR : Hid (CS w4 (fun k => w.heap.size + 1 ≤ k) t (.agg #[.int .i64 k, .int .u64 n, .string s, .slice a3 m3 c3])) := (csLater HCS.out HB34.out.1).widen (fun q hq => Nat.le_trans HL3.out.1 hq)
        have hcall := readSnap_any _ t _ w4 HCR.out (by have h1 := len_cnt (atT t 2); have h2 := at_cnt t 2; omega)
        have HG := (show Hid (okS t = true → ∀ e w', LdP w (readS t) 0 e w' → R e w') from fun hk => HRG.out t HFE.out.symm HD.out.symm (HIF.out.2 hk))
        have HF := (show Hid (okS t = false → (loadV l).1 = false) from fun hk => HLF.out t HFE.out.symm HD.out.symm (by
          cases e : eqB (saveV (readS t)) l with
          | false => rfl
          | true => rw [HIF.out.1 e] at hk; cases hk))
        have HZZ : Hid ((readS t).ix = (atT t 0).n ∧ (readS t).tm = (atT t 1).n ∧ (readS t).ms = numsL (atT t 2) ∧ (readS t).ss = atT t 3 ∧ (readS t).st = atT t 4) := ⟨rfl, rfl, rfl, rfl, rfl⟩
        obtain ⟨x0, x1, x2, x3⟩ := block4 HB34.out.2
        clear hcnt hst HRG HCR HCS HIF HLF
        go_upto_region 7 with fail
        rw [← hw4, ← hb4]
        clear hw4 hb4
        go_wp2_with fail
        refine hcall.mono ?_
        rintro e w5 ⟨ix, tm, a, m, c, k1, k2, n1, n2, s1, s2, a1, m1, c1, a2, m2, c2, rfl, hb5, hok⟩
        have HB5' : Hid (Below (w.heap.size + 1) w1 w5) := HB4.out.trans (hb5.mono HL4.out)
        have HL5 : Hid (w.heap.size + 1 ≤ w5.heap.size) := Nat.le_trans HL4.out hb5.size
        have HOK := hide_p hok
        generalize okS t = OK at *
        clear hcall hok hb5 x0 x1 x2 x3
        obtain ⟨w6, hw6⟩ : ∃ w6, w6 = w5.alloc (.cells #[.int .u64 ix, .int .u64 tm, .slice a m c, .int .i64 k1, .int .u64 n1, .string s1, .slice a1 m1 c1, .int .i64 k2, .int .u64 n2, .string s2, .slice a2 m2 c2] 28) := ⟨_, rfl⟩
        obtain ⟨b6, hb6⟩ : ∃ b6, b6 = w5.heap.size := ⟨_, rfl⟩
        have HA6 : Hid (Below w5.heap.size w5 w6 ∧ w6.heap[b6]? = some (.cells #[.int .u64 ix, .int .u64 tm, .slice a m c, .int .i64 k1, .int .u64 n1, .string s1, .slice a1 m1 c1, .int .i64 k2, .int .u64 n2, .string s2, .slice a2 m2 c2] 28 (0, 0))) := by
          show _ ∧ _
          rw [hw6, hb6]
          exact ⟨(Below.refl _ _).alloc (Nat.le_refl _) _, heap_alloc_new _ _⟩
        have HB5 : Hid (Below (w.heap.size + 1) w1 w6) := HB5'.out.trans (HA6.out.1.mono HL5.out)
        go_upto_region 8 with fail
        rw [← hw6, ← hb6]
        clear hw6 hb6
        cases OK with
        | false =>
          have HLV := hide_p (HF.out rfl)
          clear HG HF HOK
          obtain ⟨q1, q2⟩ := HX.out w6 HB5.out
          obtain ⟨r0, r1, r2, r3, r4, r5, r6, r7, r8, r9, r10⟩ := block11 q1
          have fz := Lib.frozen_of_heap q1
          have f0 := fz 0
          have f1 := fz 1
          have f2 := fz 2
          have f3 := fz 3
          have f4 := fz 4
          have f5 := fz 5
          have f6 := fz 6
          have f7 := fz 7
          have f8 := fz 8
          have f9 := fz 9
          have f10 := fz 10
          have HZ := hide_p (fun W => ld_zero (W := W) q1 (Nat.le_refl _) q2)
          have HW := hide_p (HRZ.out HLV.out)
          clear q1 q2 fz HRZ
          go_wp2
          obtain ⟨y1, y2⟩ := HZ.out _ rfl
          exact bodyPost_ret (Sn.results_cell_tmp (p := 2) (q := 3) rfl _ _ w.heap.size _ _ _ _ rfl y1 Tryd.underlying28 rfl sz28) rfl (HW.out _ _ y2)
        | true =>
          have HGG := hide_p (HG.out rfl)
          obtain ⟨rfl, rfl, hno, hs1, hs2⟩ := HOK.out rfl
          obtain ⟨y1, y2, y3, y4, y5⟩ := HZZ.out
          rw [← y3] at hno
          rw [← y4] at hs1
          rw [← y5] at hs2
          rw [← y1, ← y2] at HA6 ⊢
          have hno6 := hno.far HA6.out.1 (Nat.le_refl _)
          have hs16 := csKeep hs1 HA6.out.1
          have hs26 := csKeep hs2 HA6.out.1
          obtain ⟨q1, q2⟩ := HX.out w6 HB5.out
          obtain ⟨r0, r1, r2, r3, r4, r5, r6, r7, r8, r9, r10⟩ := block11 q1
          have fz := Lib.frozen_of_heap q1
          have f0 := fz 0
          have f1 := fz 1
          have f2 := fz 2
          have f3 := fz 3
          have f4 := fz 4
          have f5 := fz 5
          have f6 := fz 6
          have f7 := fz 7
          have f8 := fz 8
          have f9 := fz 9
          have f10 := fz 10
          obtain ⟨z0, z1, z2, z3, z4, z5, z6, z7, z8, z9, z10⟩ := block11 HA6.out.2
          have HQ := hide_p (fun W => ld_good (W := W) q1 (Nat.le_refl _) q2 hno6.nr (fun k hk => by have h1 := World.ownsRow.lt hno6 k hk; have h2 := HL4.out; omega) hs16 hs26)
          clear q1 q2 fz hno hs1 hs2 hno6 hs16 hs26 y1 y2 y3 y4 y5 HZZ HOK HF HRZ
          generalize (readS t).ix = ix at *
          generalize (readS t).tm = tm at *
          go_wp2
          obtain ⟨y1, y2⟩ := HQ.out _ rfl
          exact bodyPost_ret (Sn.results_cell_tmp (p := 2) (q := 3) rfl _ _ w.heap.size _ _ _ _ rfl y1 Tryd.underlying28 rfl sz28) rfl (HGG.out _ _ y2)
    · have HLV : Hid ((loadV l).1 = false) := by
        show _ = _
        cases r with
        | inl y => unfold loadV; rw [if_pos HFE.out.symm, ← HD.out]
        | inr t =>
          refine HLF.out t HFE.out.symm HD.out.symm ?_
          cases e : eqB (saveV (readS t)) l with
          | false => rfl
          | true =>
            exfalso
            refine cl ?_
            rw [HFN.out, HNL.out]
            obtain ⟨m, hm⟩ : ∃ m, saveV (readS t) = .inr m := by
              cases q : saveV (readS t) with
              | inl y => rw [q] at e; cases e
              | inr m => exact ⟨m, rfl⟩
            have hml : m = l := by rw [hm] at e; simpa [eqB] using e
            unfold saveV at hm
            split at hm
            · cases hm
            · split at hm
              · cases hm
              · cases q2 : encT (snapT (readS t)) 64 [] with
                | inl y => rw [q2] at hm; cases hm
                | inr m2 =>
                  rw [q2] at hm
                  have hm2 : frm m2 = m := by simpa [frmR] using hm
                  obtain ⟨e1, hlen, -⟩ := enc_top q2
                  have hsm : Sm8 m2 := by
                    have := HSM8.out.drop 8
                    rw [← hml, ← hm2] at this
                    have e8 : (frm m2).drop 8 = m2 := by unfold frm be4; simp
                    rw [e8] at this
                    exact this
                  obtain ⟨f1, f2, f3⟩ := first_frm2 [] hsm hlen
                  rw [List.append_nil, hm2, hml] at f3
                  rw [f3, ← hml, ← hm2, frm_length]
      have dcl : ((fN : Int) != (nl : Int)) = true := by simp; omega
      have HB5 := HB2
      clear hcall HD
      obtain ⟨q1, q2⟩ := HX.out w2 HB5.out
      obtain ⟨r0, r1, r2, r3, r4, r5, r6, r7, r8, r9, r10⟩ := block11 q1
      have fz := Lib.frozen_of_heap q1
      have f0 := fz 0
      have f1 := fz 1
      have f2 := fz 2
      have f3 := fz 3
      have f4 := fz 4
      have f5 := fz 5
      have f6 := fz 6
      have f7 := fz 7
      have f8 := fz 8
      have f9 := fz 9
      have f10 := fz 10
      have HZ := hide_p (fun W => ld_zero (W := W) q1 (Nat.le_refl _) q2)
      have HW := hide_p (HRZ.out HLV.out)
      clear q1 q2 fz HRZ
      go_wp2
      obtain ⟨y1, y2⟩ := HZ.out _ rfl
      exact bodyPost_ret (Sn.results_cell_tmp (p := 2) (q := 3) rfl _ _ w.heap.size _ _ _ _ rfl y1 Tryd.underlying28 rfl sz28) rfl (HW.out _ _ y2)
  · have ceb : ((fE : Int) != 0) = true := by simp; omega
    have HLV : Hid ((loadV l).1 = false) := by show _ = _; unfold loadV; rw [if_neg (by rw [← HFE.out]; exact ce)]
    have HB5 := HB2
    generalize (frsB l).length = fl at *
    obtain ⟨q1, q2⟩ := HX.out w2 HB5.out
    obtain ⟨r0, r1, r2, r3, r4, r5, r6, r7, r8, r9, r10⟩ := block11 q1
    have fz := Lib.frozen_of_heap q1
    have f0 := fz 0
    have f1 := fz 1
    have f2 := fz 2
    have f3 := fz 3
    have f4 := fz 4
    have f5 := fz 5
    have f6 := fz 6
    have f7 := fz 7
    have f8 := fz 8
    have f9 := fz 9
    have f10 := fz 10
    have HZ := hide_p (fun W => ld_zero (W := W) q1 (Nat.le_refl _) q2)
    have HW := hide_p (HRZ.out HLV.out)
    clear q1 q2 fz HRZ
    go_wp2
    obtain ⟨y1, y2⟩ := HZ.out _ rfl
    exact bodyPost_ret (Sn.results_cell_tmp (p := 2) (q := 3) rfl _ _ w.heap.size _ _ _ _ rfl y1 Tryd.underlying28 rfl sz28) rfl (HW.out _ _ y2)

end Go.Proofs.YtjngknnkffbnmaaDoor
