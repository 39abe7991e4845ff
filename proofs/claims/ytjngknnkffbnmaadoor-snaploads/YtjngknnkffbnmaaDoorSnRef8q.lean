/-
  Layer 19: the reference's Load, walked.
-/
import Derived.Test.YtjngknnkffbnmaaDoorSnLdq
import Derived.Test.YtjngknnkffbnmaaDoorCdRead3q
import Derived.Test.YtjngknnkffbnmaaDoorSnRegq
namespace Go.Proofs.YtjngknnkffbnmaaDoor
set_option maxRecDepth 100000
open Go.RowKit Crc Sn

namespace Sn
theorem save_err8 {s : Sp} {y : Nat} (h : saveV s = .inl y) : y = 1 ∨ y = 2 := by
  unfold saveV at h
  split at h
  · injection h with h; omega
  · split at h
    · injection h with h; omega
    · cases e : encT (snapT s) 64 [] with
      | inl z =>
        rw [e] at h
        injection h with h
        have := enc_err _ _ _ _ e
        omega
      | inr m => rw [e] at h; cases h
theorem csKeep8 {w w' : World} {S : Nat → Prop} {t : Tr} {v : Value} (h : CS w S t v) (hb : Below w.heap.size w w') : CS w' S t v := (h.real.kept (fun q hq => hb.block q hq.2)).widen (fun _ hq => hq.1)
def NR5 (w : World) (B : Nat) (v : Value) (l : List Int) : Prop := (∃ a c, v = .slice a l.length c) ∧ NO w B v l
theorem NR5.below {w w' : World} {B : Nat} {v : Value} {l : List Int} (h : NR5 w B v l) (hb : Below w.heap.size w w') : NR5 w' B v l := ⟨h.1, h.2.far hb (Nat.le_refl _)⟩
/-- A row of whole numbers stays where something of another type is written. -/
theorem no_other {w : World} {B g : Nat} {v : Value} {l : List Int} {cs : Array Value} {T : TypeId} {fr : Nat × Nat} (h : NO w B v l) (hg : w.heap[g]? = some (.cells cs T fr)) (hT : T ≠ 3) (W : World) (ho : ∀ k, k ≠ g → W.heap[k]? = w.heap[k]?) : NO W B v l := by
  obtain ⟨l1, l2⟩ := h
  refine ⟨l1, ?_⟩
  rcases l2 with l2 | ⟨g', cap, cur, e1, b1, hg', r⟩
  · exact Or.inl l2
  · refine Or.inr ⟨g', cap, cur, e1, b1, ?_, r⟩
    rw [ho g' (fun e => ?_)]
    · exact hg'
    · subst e
      rw [hg] at hg'
      injection hg' with hg'
      injection hg' with _ hg' _
      exact hT hg'
end Sn

set_option maxHeartbeats 16000000 in
theorem rLoad_any (v : Value) (l : List Nat) (w : World) (h : BR w v l) :
    Calls Tryd.prog 16 #[v] w (LdR w l) := by
  have HBR := hide_p h
  have HSM8 : Hid (Sm8 l) := h.1
  obtain ⟨R, hR⟩ : ∃ R, R = LdR w l := ⟨_, rfl⟩
  rw [← hR]
  have HRZ : Hid ((loadV l).1 = false → ∀ e w', LdP w zS 4 e w' → R e w') := by
    intro h1 e w' hp
    have h2 : (loadV l).2 = zS := by
      unfold loadV at h1 ⊢
      split
      · next h3 =>
        rw [if_pos h3] at h1
        cases e : decD (frsB l) with
        | inl y => rfl
        | inr t =>
          rw [e] at h1
          simp only at h1 ⊢
          split
          · next h4 => rw [if_pos h4] at h1; cases h1
          · rfl
      · rfl
    rw [hR]
    unfold LdR
    rw [h1, h2]
    exact hp
  have HRG : Hid (∀ t, frsE l = 0 → decD (frsB l) = .inr t → eqB (saveV (readS t)) l = true → ∀ e w', LdP w (readS t) 0 e w' → R e w') := by
    intro t h1 h2 h3 e w' hp
    have h4 : loadV l = (true, readS t) := by unfold loadV; rw [if_pos h1, h2]; simp only [h3, if_true]
    rw [hR]
    unfold LdR
    rw [h4]
    exact hp
  have HFI : Hid (∀ w', Below w.heap.size w w' → Calls Tryd.prog 38 #[v] w' (FA w' l)) := fun w' hb => refFirst_any v l w' (HBR.out.below hb (Nat.le_refl _))
  have HCV : Hid (∀ w', Below w.heap.size w w' → (convert 31 9 v).run Tryd.prog w' = .ok (.string (bsF l)) w') := fun w' hb => convF_any (HBR.out.below hb (Nat.le_refl _))
  obtain ⟨a, cap, rfl⟩ : ∃ a cap, v = .slice a l.length cap := by obtain ⟨-, a, cap, e, -⟩ := h; exact ⟨a, cap, e⟩
  clear h hR
  generalize l.length = nl at *
  obtain ⟨w1, hw1⟩ : ∃ w1, w1 = w.alloc (.cells #[.int .u64 0, .int .u64 0, .slice none 0 0, .int .i64 0, .int .u64 0, .string ⟨#[]⟩, .slice none 0 0, .int .i64 0, .int .u64 0, .string ⟨#[]⟩, .slice none 0 0] 28) := ⟨_, rfl⟩
  have HS1 : Hid (w1.heap.size = w.heap.size + 1) := by show _ = _; rw [hw1]; simp
  have HB1 : Hid (Below w.heap.size w w1) := by show Below _ _ _; rw [hw1]; exact (Below.refl _ _).alloc (Nat.le_refl _) _
  have HA1 : Hid (w1.heap[w.heap.size]? = some (.cells #[.int .u64 0, .int .u64 0, .slice none 0 0, .int .i64 0, .int .u64 0, .string ⟨#[]⟩, .slice none 0 0, .int .i64 0, .int .u64 0, .string ⟨#[]⟩, .slice none 0 0] 28 (0, 0))) := by show _ = _; rw [hw1]; exact heap_alloc_new _ _
  have HX : Hid (∀ wq, Below (w.heap.size + 1) w1 wq → wq.heap[w.heap.size]? = some (.cells #[.int .u64 0, .int .u64 0, .slice none 0 0, .int .i64 0, .int .u64 0, .string ⟨#[]⟩, .slice none 0 0, .int .i64 0, .int .u64 0, .string ⟨#[]⟩, .slice none 0 0] 28 (0, 0)) ∧ Below w.heap.size w wq) := fun wq hq => ⟨(hq.block _ (Nat.lt_succ_self _)).trans HA1.out, HB1.out.trans (hq.mono (Nat.le_succ _))⟩
  go_enter Tryd.func16, Tryd.ntmps16
  go_upto_region 1 with fail
  rw [← hw1]
  clear hw1
  go_wp2_with fail
  refine (HFI.out w1 HB1.out).mono ?_
  rintro e w2 ⟨v2, rfl, hw2, hb2⟩
  have HB2 : Hid (Below (w.heap.size + 1) w1 w2) := hb2.mono (by have := HS1.out; omega)
  have HF2 := hide_p hw2
  obtain ⟨a2, c2, rfl⟩ : ∃ a c, v2 = .slice a (frsB l).length c := by obtain ⟨a, c, e, -⟩ := hw2.shape; exact ⟨a, c, e⟩
  clear hw2 hb2 HFI
  obtain ⟨fE, hfE⟩ : ∃ fE, fE = frsE l := ⟨_, rfl⟩
  have HFE := hide_p hfE
  rw [← hfE]
  clear hfE
  generalize frsN l = fN at *
  by_cases ce : fE = 0
  · subst ce
    obtain ⟨r, hr⟩ : ∃ r, r = decD (frsB l) := ⟨_, rfl⟩
    have HD := hide_p hr
    have hcall := rdecode_any _ (frsB l) w2 HF2.out.br r hr
    clear hr
    generalize (frsB l).length = fl at *
    go_wp2_with fail
    refine hcall.mono ?_
    rintro e w3 ⟨cv, x, rfl, hb3, hdv⟩
    have HB3 : Hid (Below (w.heap.size + 1) w1 w3) := HB2.out.trans (hb3.mono (by have := HB2.out.size; have := HS1.out; omega))
    have HL3 : Hid (w.heap.size + 1 ≤ w2.heap.size ∧ w2.heap.size ≤ w3.heap.size) := ⟨by have := HB2.out.size; have := HS1.out; omega, hb3.size⟩
    clear hb3 hcall
    cases r with
    | inl y =>
      obtain ⟨rfl, rfl⟩ := hdv
      have hy := decD_err HD.out.symm
      have hyb : ((y : Int) != 0) = true := by simp; omega
      have HLV : Hid ((loadV l).1 = false) := by show _ = _; unfold loadV; rw [if_pos HFE.out.symm, ← HD.out]
      have HB4 : Hid (∀ o, Below (w.heap.size + 1) w1 (w3.alloc o)) := fun o => HB3.out.alloc (by have := HL3.out; omega) o
      unfold cellV
      obtain ⟨w4, hw4⟩ : ∃ w4, w4 = w3.alloc (.cells #[.int .i64 0, .int .u64 0, .string ⟨#[]⟩, .slice none 0 0] 26) := ⟨_, rfl⟩
      have HB5 : Hid (Below (w.heap.size + 1) w1 w4) := by show Below _ _ _; rw [hw4]; exact HB4.out _
      go_upto_region 5 with fail
      rw [← hw4]
      clear hw4 hy
      obtain ⟨q1, q2⟩ := HX.out w4 HB5.out
      obtain ⟨r0, r1, r2, r3, r4, r5, r6, r7, r8, r9, r10⟩ := block11 q1
      have fz := Lib.frozen_of_heap q1
      have f0 := fz 0
      have f1 := fz 1
      have f2 := fz 2
      have f3 := fz 3
      have f4 := fz 4
      have f5 := fz 5
      have f6 := fz 6
      have f7 := fz 7
      have f8 := fz 8
      have f9 := fz 9
      have f10 := fz 10
      have HZ := hide_p (fun W => ld_zero (W := W) q1 (Nat.le_refl _) q2)
      have HW := hide_p (HRZ.out HLV.out)
      clear q1 q2 fz HRZ HRG
      go_wp2
      obtain ⟨y1, y2⟩ := HZ.out _ rfl
      exact bodyPost_ret (Sn.results_cell_tmp (p := 2) (q := 3) rfl _ _ w.heap.size _ _ _ _ rfl y1 Tryd.underlying28 rfl sz28) rfl (HW.out _ _ y2)
    | inr t =>
      obtain ⟨hcs, rfl⟩ := hdv
      obtain ⟨hcnt, hst⟩ := decD_bd HD.out.symm
      have HCS := hide_p hcs
      obtain ⟨k, n, s, a3, m3, c3, rfl⟩ := hcs.form
      clear hcs
      unfold cellV at HCS ⊢
      obtain ⟨w4, hw4⟩ : ∃ w4, w4 = w3.alloc (.cells #[.int .i64 k, .int .u64 n, .string s, .slice a3 m3 c3] 26) := ⟨_, rfl⟩
      obtain ⟨b4, hb4⟩ : ∃ b4, b4 = w3.heap.size := ⟨_, rfl⟩
      have HB34 : Hid (Below w3.heap.size w3 w4 ∧ w4.heap[b4]? = some (.cells #[.int .i64 k, .int .u64 n, .string s, .slice a3 m3 c3] 26 (0, 0))) := by
        show _ ∧ _
        rw [hw4, hb4]
        exact ⟨(Below.refl _ _).alloc (Nat.le_refl _) _, heap_alloc_new _ _⟩
      have HB4 : Hid (Below (w.heap.size + 1) w1 w4) := HB3.out.trans (HB34.out.1.mono (by have := HL3.out; omega))
      have HL4 : Hid (w.heap.size + 1 ≤ w4.heap.size) := Nat.le_trans (by have := HL3.out; omega) HB34.out.1.size
      have HCR : Hid (CS w4 (fun k => w.heap.size + 1 ≤ k) t (.agg #[.int .i64 k, .int .u64 n, .string s, .slice a3 m3 c3])) := (csLater HCS.out HB34.out.1).widen (fun q hq => Nat.le_trans HL3.out.1 hq)
      obtain ⟨p0, e0, hr0, hp0⟩ := rpart_cs _ t _ w4 HCR.out 0
      obtain ⟨p1, e1, hr1, hp1⟩ := rpart_cs _ t _ w4 HCR.out 1
      obtain ⟨p2, e2, hr2, hp2⟩ := rpart_cs _ t _ w4 HCR.out 2
      obtain ⟨p3, e3, hr3, hp3⟩ := rpart_cs _ t _ w4 HCR.out 3
      obtain ⟨p4, e4, hr4, hp4⟩ := rpart_cs _ t _ w4 HCR.out 4
      have hl2 : (atT t 2).l.length ≤ 209715 := Nat.le_trans (len_cnt _) (Nat.le_trans (at_cnt t 2) hcnt)
      have hnl : (numsL (atT t 2)).length ≤ 1000000 := by unfold numsL; split <;> simp; omega
      have HNU : Hid (∀ w', Below w4.heap.size w4 w' → Calls Tryd.prog 41 #[cellV (atT t 2).k (atT t 2).n (atT t 2).s (.slice p2 (atT t 2).l.length e2)] w' fun e w'' => ∃ u, e = .returned u ∧ NO w'' w'.heap.size u (numsL (atT t 2)) ∧ Below w'.heap.size w' w'') := fun w' hb => rnumbers_any (atT t 2) _ w' (hr2.cr.kept hb (Nat.le_refl _)) (by omega)
      have HSV : Hid (∀ mv w', NR w' mv (numsL (atT t 2)) → Below w4.heap.size w4 w' → Calls Tryd.prog 11 #[.agg #[.int .u64 (atT t 0).n, .int .u64 (atT t 1).n, mv, .int .i64 (atT t 3).k, .int .u64 (atT t 3).n, .string (atT t 3).s, .slice p3 (atT t 3).l.length e3, .int .i64 (atT t 4).k, .int .u64 (atT t 4).n, .string (atT t 4).s, .slice p4 (atT t 4).l.length e4]] w' (Encd (saveV (readS t)) w')) := fun mv w' hm hb => rSave_any (readS t) mv _ _ _ _ _ _ _ _ w' hm (hr3.cr.kept hb (Nat.le_refl _)) (hr4.cr.kept hb (Nat.le_refl _)) (crN hr0.cr) (crN hr1.cr) hnl (Nat.le_trans (at_cnt t 3) (by omega)) (Nat.le_trans (at_cnt t 4) (by omega)) (at_st hst 3) (at_st hst 4)
      have HR3 : Hid (CS w4 (fun k => w.heap.size + 1 ≤ k) (readS t).ss (cellV (atT t 3).k (atT t 3).n (atT t 3).s (.slice p3 (atT t 3).l.length e3))) := hr3
      have HR4 : Hid (CS w4 (fun k => w.heap.size + 1 ≤ k) (readS t).st (cellV (atT t 4).k (atT t 4).n (atT t 4).s (.slice p4 (atT t 4).l.length e4))) := hr4
      have HR1 := hide_p (HRG.out t HFE.out.symm HD.out.symm)
      have HR0 : Hid (eqB (saveV (readS t)) l = false → ∀ e w', LdP w zS 4 e w' → R e w') := by
        intro h1
        refine HRZ.out ?_
        unfold loadV
        rw [if_pos HFE.out.symm, ← HD.out]
        simp only [h1, Bool.false_eq_true, if_false]
      have HIX : Hid ((readS t).ix = (atT t 0).n ∧ (readS t).tm = (atT t 1).n ∧ (readS t).ms = numsL (atT t 2)) := ⟨rfl, rfl, rfl⟩
      clear hr0 hr1 hr2 hr3 hr4 hl2 hnl hcnt hst HRZ HRG HCR HCS
      have HY : Hid (∀ y, saveV (readS t) = .inl y → y = 1 ∨ y = 2) := fun y e => save_err8 e
      generalize saveV (readS t) = SV at *
      obtain ⟨zz, hzz⟩ : ∃ zz, zz = readS t := ⟨_, rfl⟩
      rw [← hzz] at HR3 HR4 HR1 HIX
      clear hzz
      generalize numsL (atT t 2) = ns at *
      generalize (atT t 0).n = v0n at *
      generalize (atT t 0).k = v0k at *
      generalize (atT t 0).s = v0s at *
      generalize (atT t 0).l.length = v0m at *
      generalize (atT t 1).n = v1n at *
      generalize (atT t 1).k = v1k at *
      generalize (atT t 1).s = v1s at *
      generalize (atT t 1).l.length = v1m at *
      generalize (atT t 2).n = v2n at *
      generalize (atT t 2).k = v2k at *
      generalize (atT t 2).s = v2s at *
      generalize (atT t 2).l.length = v2m at *
      generalize (atT t 3).n = v3n at *
      generalize (atT t 3).k = v3k at *
      generalize (atT t 3).s = v3s at *
      generalize (atT t 3).l.length = v3m at *
      generalize (atT t 4).n = v4n at *
      generalize (atT t 4).k = v4k at *
      generalize (atT t 4).s = v4s at *
      generalize (atT t 4).l.length = v4m at *
      unfold cellV at hp0 hp1 hp2 hp3 hp4 HNU HR3 HR4
      have HP0 := hide_p hp0
      have HP1 := hide_p hp1
      have HP2 := hide_p hp2
      have HP3 := hide_p hp3
      have HP4 := hide_p hp4
      clear hp0 hp1 hp2 hp3 hp4
      have hf0 := fieldN v0k v0n v0s (.slice p0 v0m e0)
      have hf1 := fieldN v1k v1n v1s (.slice p1 v1m e1)
      obtain ⟨z0, z1, z2, z3⟩ := block4 HB34.out.2
      have HK4 : Hid (∀ wq, Below w4.heap.size w4 wq → wq.cell? ⟨b4, 0, none⟩ = some (.int .i64 k) ∧ wq.cell? ⟨b4, 1, none⟩ = some (.int .u64 n) ∧ wq.cell? ⟨b4, 2, none⟩ = some (.string s) ∧ wq.cell? ⟨b4, 3, none⟩ = some (.slice a3 m3 c3)) := fun wq hq => keep4s ⟨z0, z1, z2, z3⟩ hq
      clear z0 z1 z2 z3
      go_upto_region 7 with fail
      rw [← hw4, ← hb4]
      clear hw4 hb4
      go_cut [8] (fun t8 wc => ∃ g8, t8 = .pointer (some ⟨g8, 0, none⟩) ∧ Hid (∃ (a9 : Option Addr) (c9 : Nat), wc.heap[g8]? = some (.cells #[.int .u64 v0n, .int .u64 v1n, .slice a9 ns.length c9, .int .i64 v3k, .int .u64 v3n, .string v3s, .slice p3 v3m e3, .int .i64 v4k, .int .u64 v4n, .string v4s, .slice p4 v4m e4] 28 (0, 0)) ∧ NO wc w4.heap.size (.slice a9 ns.length c9) ns ∧ w4.heap.size ≤ g8 ∧ Below w4.heap.size w4 wc))
      case first =>
        refine wp_region_inv2 (by kernel_rfl) [27, 28, 29, 30, 31, 32, 33, 34, 35, 36, 37, 38, 39, 40, 8] (fun L vs w' => ∃ (v27 : Value) (v28 : Value) (v29 : Value) (v30 : Value) (v31 : Value) (v32 : Value) (v33 : Value) (v34 : Value) (v35 : Value) (v36 : Value) (v37 : Value) (v38 : Value) (v39 : Value) (v40 : Value) (v8 : Value), vs = [v27, v28, v29, v30, v31, v32, v33, v34, v35, v36, v37, v38, v39, v40, v8] ∧ (L 0 = true → v27 = (.agg #[.int .i64 k, .int .u64 n, .string s, .slice a3 m3 c3])) ∧ (L 1 = true → v28 = (.agg #[.int .i64 v0k, .int .u64 v0n, .string v0s, .slice p0 v0m e0])) ∧ (L 2 = true → v29 = (.int .u64 v0n)) ∧ (L 3 = true → v30 = (.agg #[.int .i64 k, .int .u64 n, .string s, .slice a3 m3 c3])) ∧ (L 4 = true → v31 = (.agg #[.int .i64 v1k, .int .u64 v1n, .string v1s, .slice p1 v1m e1])) ∧ (L 5 = true → v32 = (.int .u64 v1n)) ∧ (L 6 = true → v33 = (.agg #[.int .i64 k, .int .u64 n, .string s, .slice a3 m3 c3])) ∧ (L 7 = true → v34 = (.agg #[.int .i64 v2k, .int .u64 v2n, .string v2s, .slice p2 v2m e2])) ∧ (L 9 = true → v36 = (.agg #[.int .i64 k, .int .u64 n, .string s, .slice a3 m3 c3])) ∧ (L 10 = true → v37 = (.agg #[.int .i64 v3k, .int .u64 v3n, .string v3s, .slice p3 v3m e3])) ∧ (L 11 = true → v38 = (.agg #[.int .i64 k, .int .u64 n, .string s, .slice a3 m3 c3])) ∧ (L 12 = true → v39 = (.agg #[.int .i64 v4k, .int .u64 v4n, .string v4s, .slice p4 v4m e4])) ∧ (L 1 = true → L 0 = true) ∧ (L 2 = true → L 1 = true) ∧ (L 4 = true → L 1 = true ∧ L 3 = true) ∧ (L 5 = true → L 4 = true) ∧ (L 7 = true → L 4 = true ∧ L 6 = true) ∧ (L 8 = true → L 7 = true) ∧ (L 10 = true → L 8 = true ∧ L 9 = true) ∧ (L 12 = true → L 10 = true ∧ L 11 = true) ∧ (L 13 = true → L 2 = true ∧ L 5 = true ∧ L 8 = true ∧ L 10 = true ∧ L 12 = true) ∧ (L 15 = true → L 12 = true ∧ L 13 = true ∧ L 14 = true) ∧ Hid (Below w4.heap.size w4 w') ∧ Hid (L 8 = true → NR5 w' w4.heap.size v35 ns) ∧ Hid (L 13 = true → v40 = .agg #[.int .u64 v0n, .int .u64 v1n, v35, .int .i64 v3k, .int .u64 v3n, .string v3s, .slice p3 v3m e3, .int .i64 v4k, .int .u64 v4n, .string v4s, .slice p4 v4m e4]) ∧ Hid (L 14 = true → L 15 = false → Bx w' w4.heap.size v8 #[.int .u64 0, .int .u64 0, .slice none 0 0, .int .i64 0, .int .u64 0, .string ⟨#[]⟩, .slice none 0 0, .int .i64 0, .int .u64 0, .string ⟨#[]⟩, .slice none 0 0] 28) ∧ Hid (L 15 = true → Bx w' w4.heap.size v8 #[.int .u64 v0n, .int .u64 v1n, v35, .int .i64 v3k, .int .u64 v3n, .string v3s, .slice p3 v3m e3, .int .i64 v4k, .int .u64 v4n, .string v4s, .slice p4 v4m e4] 28)) (by kernel_rfl) (by decide) (by simp) ?_ ⟨?_, ?_, ?_, ?_, ?_, ?_, ?_, ?_, ?_, ?_, ?_, ?_, ?_, ?_, ?_, ?_, trivial⟩ ?_
        · exact ⟨_, _, _, _, _, _, _, _, _, _, _, _, _, _, _, rfl, fun q => by (cases q), fun q => by (cases q), fun q => by (cases q), fun q => by (cases q), fun q => by (cases q), fun q => by (cases q), fun q => by (cases q), fun q => by (cases q), fun q => by (cases q), fun q => by (cases q), fun q => by (cases q), fun q => by (cases q), fun q => by (cases q), fun q => by (cases q), fun q => by (cases q), fun q => by (cases q), fun q => by (cases q), fun q => by (cases q), fun q => by (cases q), fun q => by (cases q), fun q => by (cases q), fun q => by (cases q), ((Below.refl _ _).drew), (fun a0 => absurd (show false = true from a0) (by decide)), (fun a0 => absurd (show false = true from a0) (by decide)), (fun a0 a1 => absurd (show false = true from a0) (by decide)), (fun a0 => absurd (show false = true from a0) (by decide))⟩
        · rintro A L vs w' F G ⟨v27, v28, v29, v30, v31, v32, v33, v34, v35, v36, v37, v38, v39, v40, v8, rfl, d0, d1, d2, d3, d4, d5, d6, d7, d9, d10, d11, d12, m1, m2, m4, m5, m7, m8, m10, m12, m13, m15, HB, N35, Q40, Z8, F8⟩ hL hdep K' hK hK0
          have n1 : L 1 = false := not_yet hL (fun q => (m1 q))
          have n2 : L 2 = false := not_yet hL (fun q => (m1 ((m2 q))))
          have n4 : L 4 = false := not_yet hL (fun q => (m1 ((m4 q).1)))
          have n5 : L 5 = false := not_yet hL (fun q => (m1 ((m4 ((m5 q))).1)))
          have n7 : L 7 = false := not_yet hL (fun q => (m1 ((m4 ((m7 q).1)).1)))
          have n8 : L 8 = false := not_yet hL (fun q => (m1 ((m4 ((m7 ((m8 q))).1)).1)))
          have n10 : L 10 = false := not_yet hL (fun q => (m1 ((m4 ((m7 ((m8 ((m10 q).1)))).1)).1)))
          have n12 : L 12 = false := not_yet hL (fun q => (m1 ((m4 ((m7 ((m8 ((m10 ((m12 q).1)).1)))).1)).1)))
          have n13 : L 13 = false := not_yet hL (fun q => (m1 ((m2 ((m13 q).1)))))
          have n15 : L 15 = false := not_yet hL (fun q => (m1 ((m2 ((m13 ((m15 q).2.1)).1)))))
          obtain ⟨b0, b1, b2, b3⟩ := HK4.out w' HB.out
          have gt : A.tmps[7]?.getD undef = .pointer (some ⟨b4, 0, none⟩) := evT ((G 7 (by decide)).trans rfl)
          clear F G
          go_simp
          refine hK 0 27 _ w' rfl ⟨_, _, _, _, _, _, _, _, _, _, _, _, _, _, _, rfl, (fun _ => rfl), d1, d2, d3, d4, d5, d6, d7, d9, d10, d11, d12, (fun q => laterT (m1 q)), (fun q => laterT (m2 q)), (fun q => ⟨laterT (m4 q).1, laterT (m4 q).2⟩), (fun q => laterT (m5 q)), (fun q => ⟨laterT (m7 q).1, laterT (m7 q).2⟩), (fun q => laterT (m8 q)), (fun q => ⟨laterT (m10 q).1, laterT (m10 q).2⟩), (fun q => ⟨laterT (m12 q).1, laterT (m12 q).2⟩), (fun q => ⟨laterT (m13 q).1, laterT (m13 q).2.1, laterT (m13 q).2.2.1, laterT (m13 q).2.2.2.1, laterT (m13 q).2.2.2.2⟩), (fun q => ⟨laterT (m15 q).1, laterT (m15 q).2.1, laterT (m15 q).2.2⟩), HB, (fun a0 => absurd (show L 8 = true from a0) (by rw [n8]; decide)), (fun a0 => absurd (show L 13 = true from a0) (by rw [n13]; decide)), Z8, (fun a0 => absurd (show L 15 = true from a0) (by rw [n15]; decide))⟩
        · rintro A L vs w' F G ⟨v27, v28, v29, v30, v31, v32, v33, v34, v35, v36, v37, v38, v39, v40, v8, rfl, d0, d1, d2, d3, d4, d5, d6, d7, d9, d10, d11, d12, m1, m2, m4, m5, m7, m8, m10, m12, m13, m15, HB, N35, Q40, Z8, F8⟩ hL hdep K' hK hK0
          have p0 : L 0 = true := hdep { on := 0, ground := Ground.data } (by simp) rfl
          have n2 : L 2 = false := not_yet hL (fun q => (m2 q))
          have n4 : L 4 = false := not_yet hL (fun q => (m4 q).1)
          have n5 : L 5 = false := not_yet hL (fun q => (m4 ((m5 q))).1)
          have n7 : L 7 = false := not_yet hL (fun q => (m4 ((m7 q).1)).1)
          have n8 : L 8 = false := not_yet hL (fun q => (m4 ((m7 ((m8 q))).1)).1)
          have n10 : L 10 = false := not_yet hL (fun q => (m4 ((m7 ((m8 ((m10 q).1)))).1)).1)
          have n12 : L 12 = false := not_yet hL (fun q => (m4 ((m7 ((m8 ((m10 ((m12 q).1)).1)))).1)).1)
          have n13 : L 13 = false := not_yet hL (fun q => (m2 ((m13 q).1)))
          have n15 : L 15 = false := not_yet hL (fun q => (m2 ((m13 ((m15 q).2.1)).1)))
          have q := d0 p0
          subst q
          have g0 := evT (F 0 27 _ rfl rfl)
          clear F G
          go_simp
          refine (HP0.out w' HB.out).mono ?_
          rintro e w2 ⟨rfl, hb⟩
          refine hK 1 28 _ w2 rfl ⟨_, _, _, _, _, _, _, _, _, _, _, _, _, _, _, rfl, d0, (fun _ => rfl), d2, d3, d4, d5, d6, d7, d9, d10, d11, d12, (fun _ => laterT p0), (fun q => laterT (m2 q)), (fun q => ⟨laterT (m4 q).1, laterT (m4 q).2⟩), (fun q => laterT (m5 q)), (fun q => ⟨laterT (m7 q).1, laterT (m7 q).2⟩), (fun q => laterT (m8 q)), (fun q => ⟨laterT (m10 q).1, laterT (m10 q).2⟩), (fun q => ⟨laterT (m12 q).1, laterT (m12 q).2⟩), (fun q => ⟨laterT (m13 q).1, laterT (m13 q).2.1, laterT (m13 q).2.2.1, laterT (m13 q).2.2.2.1, laterT (m13 q).2.2.2.2⟩), (fun q => ⟨laterT (m15 q).1, laterT (m15 q).2.1, laterT (m15 q).2.2⟩), ((HB.out)).trans (hb.mono ((HB.out)).size), (fun a0 => absurd (show L 8 = true from a0) (by rw [n8]; decide)), (fun a0 => absurd (show L 13 = true from a0) (by rw [n13]; decide)), (fun a0 a1 => ((Z8.out a0 a1)).below hb), (fun a0 => absurd (show L 15 = true from a0) (by rw [n15]; decide))⟩
        · rintro A L vs w' F G ⟨v27, v28, v29, v30, v31, v32, v33, v34, v35, v36, v37, v38, v39, v40, v8, rfl, d0, d1, d2, d3, d4, d5, d6, d7, d9, d10, d11, d12, m1, m2, m4, m5, m7, m8, m10, m12, m13, m15, HB, N35, Q40, Z8, F8⟩ hL hdep K' hK hK0
          have p1 : L 1 = true := hdep { on := 1, ground := Ground.data } (by simp) rfl
          have n13 : L 13 = false := not_yet hL (fun q => (m13 q).1)
          have n15 : L 15 = false := not_yet hL (fun q => (m13 ((m15 q).2.1)).1)
          have q := d1 p1
          subst q
          have g1 := evT (F 1 28 _ rfl rfl)
          clear F G
          go_simp
          refine hK 2 29 _ w' rfl ⟨_, _, _, _, _, _, _, _, _, _, _, _, _, _, _, rfl, d0, d1, (fun _ => rfl), d3, d4, d5, d6, d7, d9, d10, d11, d12, (fun q => laterT (m1 q)), (fun _ => laterT p1), (fun q => ⟨laterT (m4 q).1, laterT (m4 q).2⟩), (fun q => laterT (m5 q)), (fun q => ⟨laterT (m7 q).1, laterT (m7 q).2⟩), (fun q => laterT (m8 q)), (fun q => ⟨laterT (m10 q).1, laterT (m10 q).2⟩), (fun q => ⟨laterT (m12 q).1, laterT (m12 q).2⟩), (fun q => ⟨laterT (m13 q).1, laterT (m13 q).2.1, laterT (m13 q).2.2.1, laterT (m13 q).2.2.2.1, laterT (m13 q).2.2.2.2⟩), (fun q => ⟨laterT (m15 q).1, laterT (m15 q).2.1, laterT (m15 q).2.2⟩), HB, N35, (fun a0 => absurd (show L 13 = true from a0) (by rw [n13]; decide)), Z8, (fun a0 => absurd (show L 15 = true from a0) (by rw [n15]; decide))⟩
        · rintro A L vs w' F G ⟨v27, v28, v29, v30, v31, v32, v33, v34, v35, v36, v37, v38, v39, v40, v8, rfl, d0, d1, d2, d3, d4, d5, d6, d7, d9, d10, d11, d12, m1, m2, m4, m5, m7, m8, m10, m12, m13, m15, HB, N35, Q40, Z8, F8⟩ hL hdep K' hK hK0
          have n4 : L 4 = false := not_yet hL (fun q => (m4 q).2)
          have n5 : L 5 = false := not_yet hL (fun q => (m4 ((m5 q))).2)
          have n7 : L 7 = false := not_yet hL (fun q => (m4 ((m7 q).1)).2)
          have n8 : L 8 = false := not_yet hL (fun q => (m4 ((m7 ((m8 q))).1)).2)
          have n10 : L 10 = false := not_yet hL (fun q => (m4 ((m7 ((m8 ((m10 q).1)))).1)).2)
          have n12 : L 12 = false := not_yet hL (fun q => (m4 ((m7 ((m8 ((m10 ((m12 q).1)).1)))).1)).2)
          have n13 : L 13 = false := not_yet hL (fun q => (m4 ((m5 ((m13 q).2.1)))).2)
          have n15 : L 15 = false := not_yet hL (fun q => (m4 ((m5 ((m13 ((m15 q).2.1)).2.1)))).2)
          obtain ⟨b0, b1, b2, b3⟩ := HK4.out w' HB.out
          have gt : A.tmps[7]?.getD undef = .pointer (some ⟨b4, 0, none⟩) := evT ((G 7 (by decide)).trans rfl)
          clear F G
          go_simp
          refine hK 3 30 _ w' rfl ⟨_, _, _, _, _, _, _, _, _, _, _, _, _, _, _, rfl, d0, d1, d2, (fun _ => rfl), d4, d5, d6, d7, d9, d10, d11, d12, (fun q => laterT (m1 q)), (fun q => laterT (m2 q)), (fun q => ⟨laterT (m4 q).1, laterT (m4 q).2⟩), (fun q => laterT (m5 q)), (fun q => ⟨laterT (m7 q).1, laterT (m7 q).2⟩), (fun q => laterT (m8 q)), (fun q => ⟨laterT (m10 q).1, laterT (m10 q).2⟩), (fun q => ⟨laterT (m12 q).1, laterT (m12 q).2⟩), (fun q => ⟨laterT (m13 q).1, laterT (m13 q).2.1, laterT (m13 q).2.2.1, laterT (m13 q).2.2.2.1, laterT (m13 q).2.2.2.2⟩), (fun q => ⟨laterT (m15 q).1, laterT (m15 q).2.1, laterT (m15 q).2.2⟩), HB, (fun a0 => absurd (show L 8 = true from a0) (by rw [n8]; decide)), (fun a0 => absurd (show L 13 = true from a0) (by rw [n13]; decide)), Z8, (fun a0 => absurd (show L 15 = true from a0) (by rw [n15]; decide))⟩
        · rintro A L vs w' F G ⟨v27, v28, v29, v30, v31, v32, v33, v34, v35, v36, v37, v38, v39, v40, v8, rfl, d0, d1, d2, d3, d4, d5, d6, d7, d9, d10, d11, d12, m1, m2, m4, m5, m7, m8, m10, m12, m13, m15, HB, N35, Q40, Z8, F8⟩ hL hdep K' hK hK0
          have p3 : L 3 = true := hdep { on := 3, ground := Ground.data } (by simp) rfl
          have p1 : L 1 = true := hdep { on := 1, ground := Ground.chain } (by simp) rfl
          have n5 : L 5 = false := not_yet hL (fun q => (m5 q))
          have n7 : L 7 = false := not_yet hL (fun q => (m7 q).1)
          have n8 : L 8 = false := not_yet hL (fun q => (m7 ((m8 q))).1)
          have n10 : L 10 = false := not_yet hL (fun q => (m7 ((m8 ((m10 q).1)))).1)
          have n12 : L 12 = false := not_yet hL (fun q => (m7 ((m8 ((m10 ((m12 q).1)).1)))).1)
          have n13 : L 13 = false := not_yet hL (fun q => (m5 ((m13 q).2.1)))
          have n15 : L 15 = false := not_yet hL (fun q => (m5 ((m13 ((m15 q).2.1)).2.1)))
          have q := d3 p3
          subst q
          have g3 := evT (F 3 30 _ rfl rfl)
          clear F G
          go_simp
          refine (HP1.out w' HB.out).mono ?_
          rintro e w2 ⟨rfl, hb⟩
          refine hK 4 31 _ w2 rfl ⟨_, _, _, _, _, _, _, _, _, _, _, _, _, _, _, rfl, d0, d1, d2, d3, (fun _ => rfl), d5, d6, d7, d9, d10, d11, d12, (fun q => laterT (m1 q)), (fun q => laterT (m2 q)), (fun _ => ⟨laterT p1, laterT p3⟩), (fun q => laterT (m5 q)), (fun q => ⟨laterT (m7 q).1, laterT (m7 q).2⟩), (fun q => laterT (m8 q)), (fun q => ⟨laterT (m10 q).1, laterT (m10 q).2⟩), (fun q => ⟨laterT (m12 q).1, laterT (m12 q).2⟩), (fun q => ⟨laterT (m13 q).1, laterT (m13 q).2.1, laterT (m13 q).2.2.1, laterT (m13 q).2.2.2.1, laterT (m13 q).2.2.2.2⟩), (fun q => ⟨laterT (m15 q).1, laterT (m15 q).2.1, laterT (m15 q).2.2⟩), ((HB.out)).trans (hb.mono ((HB.out)).size), (fun a0 => absurd (show L 8 = true from a0) (by rw [n8]; decide)), (fun a0 => absurd (show L 13 = true from a0) (by rw [n13]; decide)), (fun a0 a1 => ((Z8.out a0 a1)).below hb), (fun a0 => absurd (show L 15 = true from a0) (by rw [n15]; decide))⟩
        · rintro A L vs w' F G ⟨v27, v28, v29, v30, v31, v32, v33, v34, v35, v36, v37, v38, v39, v40, v8, rfl, d0, d1, d2, d3, d4, d5, d6, d7, d9, d10, d11, d12, m1, m2, m4, m5, m7, m8, m10, m12, m13, m15, HB, N35, Q40, Z8, F8⟩ hL hdep K' hK hK0
          have p4 : L 4 = true := hdep { on := 4, ground := Ground.data } (by simp) rfl
          have n13 : L 13 = false := not_yet hL (fun q => (m13 q).2.1)
          have n15 : L 15 = false := not_yet hL (fun q => (m13 ((m15 q).2.1)).2.1)
          have q := d4 p4
          subst q
          have g4 := evT (F 4 31 _ rfl rfl)
          clear F G
          go_simp
          refine hK 5 32 _ w' rfl ⟨_, _, _, _, _, _, _, _, _, _, _, _, _, _, _, rfl, d0, d1, d2, d3, d4, (fun _ => rfl), d6, d7, d9, d10, d11, d12, (fun q => laterT (m1 q)), (fun q => laterT (m2 q)), (fun q => ⟨laterT (m4 q).1, laterT (m4 q).2⟩), (fun _ => laterT p4), (fun q => ⟨laterT (m7 q).1, laterT (m7 q).2⟩), (fun q => laterT (m8 q)), (fun q => ⟨laterT (m10 q).1, laterT (m10 q).2⟩), (fun q => ⟨laterT (m12 q).1, laterT (m12 q).2⟩), (fun q => ⟨laterT (m13 q).1, laterT (m13 q).2.1, laterT (m13 q).2.2.1, laterT (m13 q).2.2.2.1, laterT (m13 q).2.2.2.2⟩), (fun q => ⟨laterT (m15 q).1, laterT (m15 q).2.1, laterT (m15 q).2.2⟩), HB, N35, (fun a0 => absurd (show L 13 = true from a0) (by rw [n13]; decide)), Z8, (fun a0 => absurd (show L 15 = true from a0) (by rw [n15]; decide))⟩
        · rintro A L vs w' F G ⟨v27, v28, v29, v30, v31, v32, v33, v34, v35, v36, v37, v38, v39, v40, v8, rfl, d0, d1, d2, d3, d4, d5, d6, d7, d9, d10, d11, d12, m1, m2, m4, m5, m7, m8, m10, m12, m13, m15, HB, N35, Q40, Z8, F8⟩ hL hdep K' hK hK0
          have n7 : L 7 = false := not_yet hL (fun q => (m7 q).2)
          have n8 : L 8 = false := not_yet hL (fun q => (m7 ((m8 q))).2)
          have n10 : L 10 = false := not_yet hL (fun q => (m7 ((m8 ((m10 q).1)))).2)
          have n12 : L 12 = false := not_yet hL (fun q => (m7 ((m8 ((m10 ((m12 q).1)).1)))).2)
          have n13 : L 13 = false := not_yet hL (fun q => (m7 ((m8 ((m13 q).2.2.1)))).2)
          have n15 : L 15 = false := not_yet hL (fun q => (m7 ((m8 ((m13 ((m15 q).2.1)).2.2.1)))).2)
          obtain ⟨b0, b1, b2, b3⟩ := HK4.out w' HB.out
          have gt : A.tmps[7]?.getD undef = .pointer (some ⟨b4, 0, none⟩) := evT ((G 7 (by decide)).trans rfl)
          clear F G
          go_simp
          refine hK 6 33 _ w' rfl ⟨_, _, _, _, _, _, _, _, _, _, _, _, _, _, _, rfl, d0, d1, d2, d3, d4, d5, (fun _ => rfl), d7, d9, d10, d11, d12, (fun q => laterT (m1 q)), (fun q => laterT (m2 q)), (fun q => ⟨laterT (m4 q).1, laterT (m4 q).2⟩), (fun q => laterT (m5 q)), (fun q => ⟨laterT (m7 q).1, laterT (m7 q).2⟩), (fun q => laterT (m8 q)), (fun q => ⟨laterT (m10 q).1, laterT (m10 q).2⟩), (fun q => ⟨laterT (m12 q).1, laterT (m12 q).2⟩), (fun q => ⟨laterT (m13 q).1, laterT (m13 q).2.1, laterT (m13 q).2.2.1, laterT (m13 q).2.2.2.1, laterT (m13 q).2.2.2.2⟩), (fun q => ⟨laterT (m15 q).1, laterT (m15 q).2.1, laterT (m15 q).2.2⟩), HB, (fun a0 => absurd (show L 8 = true from a0) (by rw [n8]; decide)), (fun a0 => absurd (show L 13 = true from a0) (by rw [n13]; decide)), Z8, (fun a0 => absurd (show L 15 = true from a0) (by rw [n15]; decide))⟩
        · rintro A L vs w' F G ⟨v27, v28, v29, v30, v31, v32, v33, v34, v35, v36, v37, v38, v39, v40, v8, rfl, d0, d1, d2, d3, d4, d5, d6, d7, d9, d10, d11, d12, m1, m2, m4, m5, m7, m8, m10, m12, m13, m15, HB, N35, Q40, Z8, F8⟩ hL hdep K' hK hK0
          have p6 : L 6 = true := hdep { on := 6, ground := Ground.data } (by simp) rfl
          have p4 : L 4 = true := hdep { on := 4, ground := Ground.chain } (by simp) rfl
          have n8 : L 8 = false := not_yet hL (fun q => (m8 q))
          have n10 : L 10 = false := not_yet hL (fun q => (m8 ((m10 q).1)))
          have n12 : L 12 = false := not_yet hL (fun q => (m8 ((m10 ((m12 q).1)).1)))
          have n13 : L 13 = false := not_yet hL (fun q => (m8 ((m13 q).2.2.1)))
          have n15 : L 15 = false := not_yet hL (fun q => (m8 ((m13 ((m15 q).2.1)).2.2.1)))
          have q := d6 p6
          subst q
          have g6 := evT (F 6 33 _ rfl rfl)
          clear F G
          go_simp
          refine (HP2.out w' HB.out).mono ?_
          rintro e w2 ⟨rfl, hb⟩
          refine hK 7 34 _ w2 rfl ⟨_, _, _, _, _, _, _, _, _, _, _, _, _, _, _, rfl, d0, d1, d2, d3, d4, d5, d6, (fun _ => rfl), d9, d10, d11, d12, (fun q => laterT (m1 q)), (fun q => laterT (m2 q)), (fun q => ⟨laterT (m4 q).1, laterT (m4 q).2⟩), (fun q => laterT (m5 q)), (fun _ => ⟨laterT p4, laterT p6⟩), (fun q => laterT (m8 q)), (fun q => ⟨laterT (m10 q).1, laterT (m10 q).2⟩), (fun q => ⟨laterT (m12 q).1, laterT (m12 q).2⟩), (fun q => ⟨laterT (m13 q).1, laterT (m13 q).2.1, laterT (m13 q).2.2.1, laterT (m13 q).2.2.2.1, laterT (m13 q).2.2.2.2⟩), (fun q => ⟨laterT (m15 q).1, laterT (m15 q).2.1, laterT (m15 q).2.2⟩), ((HB.out)).trans (hb.mono ((HB.out)).size), (fun a0 => absurd (show L 8 = true from a0) (by rw [n8]; decide)), (fun a0 => absurd (show L 13 = true from a0) (by rw [n13]; decide)), (fun a0 a1 => ((Z8.out a0 a1)).below hb), (fun a0 => absurd (show L 15 = true from a0) (by rw [n15]; decide))⟩
        · rintro A L vs w' F G ⟨v27, v28, v29, v30, v31, v32, v33, v34, v35, v36, v37, v38, v39, v40, v8, rfl, d0, d1, d2, d3, d4, d5, d6, d7, d9, d10, d11, d12, m1, m2, m4, m5, m7, m8, m10, m12, m13, m15, HB, N35, Q40, Z8, F8⟩ hL hdep K' hK hK0
          have p7 : L 7 = true := hdep { on := 7, ground := Ground.data } (by simp) rfl
          have n10 : L 10 = false := not_yet hL (fun q => (m10 q).1)
          have n12 : L 12 = false := not_yet hL (fun q => (m10 ((m12 q).1)).1)
          have n13 : L 13 = false := not_yet hL (fun q => (m13 q).2.2.1)
          have n15 : L 15 = false := not_yet hL (fun q => (m13 ((m15 q).2.1)).2.2.1)
          have q := d7 p7
          subst q
          have g7 := evT (F 7 34 _ rfl rfl)
          clear F G
          go_simp
          refine (HNU.out w' HB.out).mono ?_
          rintro e w2 ⟨u35, rfl, hno, hb⟩
          have HN5 : Hid (NR5 w2 w4.heap.size u35 ns) := ⟨NO.form hno, hno.low HB.out.size⟩
          clear hno
          refine hK 8 35 _ w2 rfl ⟨_, _, _, _, _, _, _, _, _, _, _, _, _, _, _, rfl, d0, d1, d2, d3, d4, d5, d6, d7, d9, d10, d11, d12, (fun q => laterT (m1 q)), (fun q => laterT (m2 q)), (fun q => ⟨laterT (m4 q).1, laterT (m4 q).2⟩), (fun q => laterT (m5 q)), (fun q => ⟨laterT (m7 q).1, laterT (m7 q).2⟩), (fun _ => laterT p7), (fun q => ⟨laterT (m10 q).1, laterT (m10 q).2⟩), (fun q => ⟨laterT (m12 q).1, laterT (m12 q).2⟩), (fun q => ⟨laterT (m13 q).1, laterT (m13 q).2.1, laterT (m13 q).2.2.1, laterT (m13 q).2.2.2.1, laterT (m13 q).2.2.2.2⟩), (fun q => ⟨laterT (m15 q).1, laterT (m15 q).2.1, laterT (m15 q).2.2⟩), ((HB.out)).trans (hb.mono ((HB.out)).size), (fun _ => HN5.out), (fun a0 => absurd (show L 13 = true from a0) (by rw [n13]; decide)), (fun a0 a1 => ((Z8.out a0 a1)).below hb), (fun a0 => absurd (show L 15 = true from a0) (by rw [n15]; decide))⟩
        · rintro A L vs w' F G ⟨v27, v28, v29, v30, v31, v32, v33, v34, v35, v36, v37, v38, v39, v40, v8, rfl, d0, d1, d2, d3, d4, d5, d6, d7, d9, d10, d11, d12, m1, m2, m4, m5, m7, m8, m10, m12, m13, m15, HB, N35, Q40, Z8, F8⟩ hL hdep K' hK hK0
          have n10 : L 10 = false := not_yet hL (fun q => (m10 q).2)
          have n12 : L 12 = false := not_yet hL (fun q => (m10 ((m12 q).1)).2)
          have n13 : L 13 = false := not_yet hL (fun q => (m10 ((m13 q).2.2.2.1)).2)
          have n15 : L 15 = false := not_yet hL (fun q => (m10 ((m12 ((m15 q).1)).1)).2)
          obtain ⟨b0, b1, b2, b3⟩ := HK4.out w' HB.out
          have gt : A.tmps[7]?.getD undef = .pointer (some ⟨b4, 0, none⟩) := evT ((G 7 (by decide)).trans rfl)
          clear F G
          go_simp
          refine hK 9 36 _ w' rfl ⟨_, _, _, _, _, _, _, _, _, _, _, _, _, _, _, rfl, d0, d1, d2, d3, d4, d5, d6, d7, (fun _ => rfl), d10, d11, d12, (fun q => laterT (m1 q)), (fun q => laterT (m2 q)), (fun q => ⟨laterT (m4 q).1, laterT (m4 q).2⟩), (fun q => laterT (m5 q)), (fun q => ⟨laterT (m7 q).1, laterT (m7 q).2⟩), (fun q => laterT (m8 q)), (fun q => ⟨laterT (m10 q).1, laterT (m10 q).2⟩), (fun q => ⟨laterT (m12 q).1, laterT (m12 q).2⟩), (fun q => ⟨laterT (m13 q).1, laterT (m13 q).2.1, laterT (m13 q).2.2.1, laterT (m13 q).2.2.2.1, laterT (m13 q).2.2.2.2⟩), (fun q => ⟨laterT (m15 q).1, laterT (m15 q).2.1, laterT (m15 q).2.2⟩), HB, N35, (fun a0 => absurd (show L 13 = true from a0) (by rw [n13]; decide)), Z8, (fun a0 => absurd (show L 15 = true from a0) (by rw [n15]; decide))⟩
        · rintro A L vs w' F G ⟨v27, v28, v29, v30, v31, v32, v33, v34, v35, v36, v37, v38, v39, v40, v8, rfl, d0, d1, d2, d3, d4, d5, d6, d7, d9, d10, d11, d12, m1, m2, m4, m5, m7, m8, m10, m12, m13, m15, HB, N35, Q40, Z8, F8⟩ hL hdep K' hK hK0
          have p9 : L 9 = true := hdep { on := 9, ground := Ground.data } (by simp) rfl
          have p8 : L 8 = true := hdep { on := 8, ground := Ground.chain } (by simp) rfl
          have n12 : L 12 = false := not_yet hL (fun q => (m12 q).1)
          have n13 : L 13 = false := not_yet hL (fun q => (m13 q).2.2.2.1)
          have n15 : L 15 = false := not_yet hL (fun q => (m12 ((m15 q).1)).1)
          have q := d9 p9
          subst q
          have g9 := evT (F 9 36 _ rfl rfl)
          clear F G
          go_simp
          refine (HP3.out w' HB.out).mono ?_
          rintro e w2 ⟨rfl, hb⟩
          refine hK 10 37 _ w2 rfl ⟨_, _, _, _, _, _, _, _, _, _, _, _, _, _, _, rfl, d0, d1, d2, d3, d4, d5, d6, d7, d9, (fun _ => rfl), d11, d12, (fun q => laterT (m1 q)), (fun q => laterT (m2 q)), (fun q => ⟨laterT (m4 q).1, laterT (m4 q).2⟩), (fun q => laterT (m5 q)), (fun q => ⟨laterT (m7 q).1, laterT (m7 q).2⟩), (fun q => laterT (m8 q)), (fun _ => ⟨laterT p8, laterT p9⟩), (fun q => ⟨laterT (m12 q).1, laterT (m12 q).2⟩), (fun q => ⟨laterT (m13 q).1, laterT (m13 q).2.1, laterT (m13 q).2.2.1, laterT (m13 q).2.2.2.1, laterT (m13 q).2.2.2.2⟩), (fun q => ⟨laterT (m15 q).1, laterT (m15 q).2.1, laterT (m15 q).2.2⟩), ((HB.out)).trans (hb.mono ((HB.out)).size), (fun a0 => ((N35.out a0)).below hb), (fun a0 => absurd (show L 13 = true from a0) (by rw [n13]; decide)), (fun a0 a1 => ((Z8.out a0 a1)).below hb), (fun a0 => absurd (show L 15 = true from a0) (by rw [n15]; decide))⟩
        · rintro A L vs w' F G ⟨v27, v28, v29, v30, v31, v32, v33, v34, v35, v36, v37, v38, v39, v40, v8, rfl, d0, d1, d2, d3, d4, d5, d6, d7, d9, d10, d11, d12, m1, m2, m4, m5, m7, m8, m10, m12, m13, m15, HB, N35, Q40, Z8, F8⟩ hL hdep K' hK hK0
          have n12 : L 12 = false := not_yet hL (fun q => (m12 q).2)
          have n13 : L 13 = false := not_yet hL (fun q => (m12 ((m13 q).2.2.2.2)).2)
          have n15 : L 15 = false := not_yet hL (fun q => (m12 ((m15 q).1)).2)
          obtain ⟨b0, b1, b2, b3⟩ := HK4.out w' HB.out
          have gt : A.tmps[7]?.getD undef = .pointer (some ⟨b4, 0, none⟩) := evT ((G 7 (by decide)).trans rfl)
          clear F G
          go_simp
          refine hK 11 38 _ w' rfl ⟨_, _, _, _, _, _, _, _, _, _, _, _, _, _, _, rfl, d0, d1, d2, d3, d4, d5, d6, d7, d9, d10, (fun _ => rfl), d12, (fun q => laterT (m1 q)), (fun q => laterT (m2 q)), (fun q => ⟨laterT (m4 q).1, laterT (m4 q).2⟩), (fun q => laterT (m5 q)), (fun q => ⟨laterT (m7 q).1, laterT (m7 q).2⟩), (fun q => laterT (m8 q)), (fun q => ⟨laterT (m10 q).1, laterT (m10 q).2⟩), (fun q => ⟨laterT (m12 q).1, laterT (m12 q).2⟩), (fun q => ⟨laterT (m13 q).1, laterT (m13 q).2.1, laterT (m13 q).2.2.1, laterT (m13 q).2.2.2.1, laterT (m13 q).2.2.2.2⟩), (fun q => ⟨laterT (m15 q).1, laterT (m15 q).2.1, laterT (m15 q).2.2⟩), HB, N35, (fun a0 => absurd (show L 13 = true from a0) (by rw [n13]; decide)), Z8, (fun a0 => absurd (show L 15 = true from a0) (by rw [n15]; decide))⟩
        · rintro A L vs w' F G ⟨v27, v28, v29, v30, v31, v32, v33, v34, v35, v36, v37, v38, v39, v40, v8, rfl, d0, d1, d2, d3, d4, d5, d6, d7, d9, d10, d11, d12, m1, m2, m4, m5, m7, m8, m10, m12, m13, m15, HB, N35, Q40, Z8, F8⟩ hL hdep K' hK hK0
          have p11 : L 11 = true := hdep { on := 11, ground := Ground.data } (by simp) rfl
          have p10 : L 10 = true := hdep { on := 10, ground := Ground.chain } (by simp) rfl
          have n13 : L 13 = false := not_yet hL (fun q => (m13 q).2.2.2.2)
          have n15 : L 15 = false := not_yet hL (fun q => (m15 q).1)
          have q := d11 p11
          subst q
          have g11 := evT (F 11 38 _ rfl rfl)
          clear F G
          go_simp
          refine (HP4.out w' HB.out).mono ?_
          rintro e w2 ⟨rfl, hb⟩
          refine hK 12 39 _ w2 rfl ⟨_, _, _, _, _, _, _, _, _, _, _, _, _, _, _, rfl, d0, d1, d2, d3, d4, d5, d6, d7, d9, d10, d11, (fun _ => rfl), (fun q => laterT (m1 q)), (fun q => laterT (m2 q)), (fun q => ⟨laterT (m4 q).1, laterT (m4 q).2⟩), (fun q => laterT (m5 q)), (fun q => ⟨laterT (m7 q).1, laterT (m7 q).2⟩), (fun q => laterT (m8 q)), (fun q => ⟨laterT (m10 q).1, laterT (m10 q).2⟩), (fun _ => ⟨laterT p10, laterT p11⟩), (fun q => ⟨laterT (m13 q).1, laterT (m13 q).2.1, laterT (m13 q).2.2.1, laterT (m13 q).2.2.2.1, laterT (m13 q).2.2.2.2⟩), (fun q => ⟨laterT (m15 q).1, laterT (m15 q).2.1, laterT (m15 q).2.2⟩), ((HB.out)).trans (hb.mono ((HB.out)).size), (fun a0 => ((N35.out a0)).below hb), (fun a0 => absurd (show L 13 = true from a0) (by rw [n13]; decide)), (fun a0 a1 => ((Z8.out a0 a1)).below hb), (fun a0 => absurd (show L 15 = true from a0) (by rw [n15]; decide))⟩
        · rintro A L vs w' F G ⟨v27, v28, v29, v30, v31, v32, v33, v34, v35, v36, v37, v38, v39, v40, v8, rfl, d0, d1, d2, d3, d4, d5, d6, d7, d9, d10, d11, d12, m1, m2, m4, m5, m7, m8, m10, m12, m13, m15, HB, N35, Q40, Z8, F8⟩ hL hdep K' hK hK0
          have p2 : L 2 = true := hdep { on := 2, ground := Ground.data } (by simp) rfl
          have p5 : L 5 = true := hdep { on := 5, ground := Ground.data } (by simp) rfl
          have p8 : L 8 = true := hdep { on := 8, ground := Ground.data } (by simp) rfl
          have p10 : L 10 = true := hdep { on := 10, ground := Ground.data } (by simp) rfl
          have p12 : L 12 = true := hdep { on := 12, ground := Ground.data } (by simp) rfl
          have n15 : L 15 = false := not_yet hL (fun q => (m15 q).2.1)
          obtain ⟨⟨a35, c35, q35⟩, q36⟩ := N35.out p8
          have N35' := hide_p q36
          subst q35
          clear q36
          have q := d2 p2
          subst q
          have g2 := evT (F 2 29 _ rfl rfl)
          have q := d5 p5
          subst q
          have g5 := evT (F 5 32 _ rfl rfl)
          have g8 := evT (F 8 35 _ rfl rfl)
          have q := d10 p10
          subst q
          have g10 := evT (F 10 37 _ rfl rfl)
          have q := d12 p12
          subst q
          have g12 := evT (F 12 39 _ rfl rfl)
          clear F G
          go_simp
          refine hK 13 40 _ w' rfl ⟨_, _, _, _, _, _, _, _, _, _, _, _, _, _, _, rfl, d0, d1, d2, d3, d4, d5, d6, d7, d9, d10, d11, d12, (fun q => laterT (m1 q)), (fun q => laterT (m2 q)), (fun q => ⟨laterT (m4 q).1, laterT (m4 q).2⟩), (fun q => laterT (m5 q)), (fun q => ⟨laterT (m7 q).1, laterT (m7 q).2⟩), (fun q => laterT (m8 q)), (fun q => ⟨laterT (m10 q).1, laterT (m10 q).2⟩), (fun q => ⟨laterT (m12 q).1, laterT (m12 q).2⟩), (fun _ => ⟨laterT p2, laterT p5, laterT p8, laterT p10, laterT p12⟩), (fun q => ⟨laterT (m15 q).1, laterT (m15 q).2.1, laterT (m15 q).2.2⟩), HB, (fun _ => ⟨⟨a35, c35, rfl⟩, N35'.out⟩), (fun _ => rfl), Z8, (fun a0 => absurd (show L 15 = true from a0) (by rw [n15]; decide))⟩
        · rintro A L vs w' F G ⟨v27, v28, v29, v30, v31, v32, v33, v34, v35, v36, v37, v38, v39, v40, v8, rfl, d0, d1, d2, d3, d4, d5, d6, d7, d9, d10, d11, d12, m1, m2, m4, m5, m7, m8, m10, m12, m13, m15, HB, N35, Q40, Z8, F8⟩ hL hdep K' hK hK0
          have n15 : L 15 = false := not_yet hL (fun q => (m15 q).2.2)
          have hb : Below w'.heap.size w' (w'.alloc (.cells #[.int .u64 0, .int .u64 0, .slice none 0 0, .int .i64 0, .int .u64 0, .string ⟨#[]⟩, .slice none 0 0, .int .i64 0, .int .u64 0, .string ⟨#[]⟩, .slice none 0 0] 28)) := (Below.refl _ _).alloc (Nat.le_refl _) _
          clear F G
          go_simp
          refine hK 14 8 _ _ rfl ⟨_, _, _, _, _, _, _, _, _, _, _, _, _, _, _, rfl, d0, d1, d2, d3, d4, d5, d6, d7, d9, d10, d11, d12, (fun q => laterT (m1 q)), (fun q => laterT (m2 q)), (fun q => ⟨laterT (m4 q).1, laterT (m4 q).2⟩), (fun q => laterT (m5 q)), (fun q => ⟨laterT (m7 q).1, laterT (m7 q).2⟩), (fun q => laterT (m8 q)), (fun q => ⟨laterT (m10 q).1, laterT (m10 q).2⟩), (fun q => ⟨laterT (m12 q).1, laterT (m12 q).2⟩), (fun q => ⟨laterT (m13 q).1, laterT (m13 q).2.1, laterT (m13 q).2.2.1, laterT (m13 q).2.2.2.1, laterT (m13 q).2.2.2.2⟩), (fun q => ⟨laterT (m15 q).1, laterT (m15 q).2.1, laterT (m15 q).2.2⟩), ((HB.out)).trans (hb.mono ((HB.out)).size), (fun a0 => ((N35.out a0)).below hb), (fun a0 => ((Q40.out a0))), (fun _ _ => Bx.new _ _ (HB.out.size)), (fun a0 => absurd (show L 15 = true from a0) (by rw [n15]; decide))⟩
        · rintro A L vs w' F G ⟨v27, v28, v29, v30, v31, v32, v33, v34, v35, v36, v37, v38, v39, v40, v8, rfl, d0, d1, d2, d3, d4, d5, d6, d7, d9, d10, d11, d12, m1, m2, m4, m5, m7, m8, m10, m12, m13, m15, HB, N35, Q40, Z8, F8⟩ hL hdep K' hK hK0
          have p14 : L 14 = true := hdep { on := 14, ground := Ground.data } (by simp) rfl
          have p13 : L 13 = true := hdep { on := 13, ground := Ground.data } (by simp) rfl
          have p12 : L 12 = true := hdep { on := 12, ground := Ground.chain } (by simp) rfl
          obtain ⟨g8, e8, hg8, hh8⟩ := Z8.out p14 hL
          subst e8
          obtain ⟨⟨a35, c35, q35⟩, q36⟩ := N35.out (m13 p13).2.2.1
          have hno := no_other q36 hh8 (by decide) ((((((((((((w'.setCell ⟨g8, 0, none⟩ (.int .u64 v0n)).setCell ⟨g8, 1, none⟩ (.int .u64 v1n)).setCell ⟨g8, 2, none⟩ (.slice a35 ns.length c35)).setCell ⟨g8, 3, none⟩ (.int .i64 v3k)).setCell ⟨g8, 4, none⟩ (.int .u64 v3n)).setCell ⟨g8, 5, none⟩ (.string v3s)).setCell ⟨g8, 6, none⟩ (.slice p3 v3m e3)).setCell ⟨g8, 7, none⟩ (.int .i64 v4k)).setCell ⟨g8, 8, none⟩ (.int .u64 v4n)).setCell ⟨g8, 9, none⟩ (.string v4s)).setCell ⟨g8, 10, none⟩ (.slice p4 v4m e4))) (fun k hk => set11_other hk _ _ _ _ _ _ _ _ _ _ _)
          have HN36 := hide_p hno
          subst q35
          have q40 := Q40.out p13
          subst q40
          obtain ⟨b0, b1, b2, b3, b4', b5, b6, b7, b8, b9, b10⟩ := block11 hh8
          have fz := Lib.frozen_of_heap hh8
          have f0 := fz 0
          have f1 := fz 1
          have f2 := fz 2
          have f3 := fz 3
          have f4 := fz 4
          have f5 := fz 5
          have f6 := fz 6
          have f7 := fz 7
          have f8 := fz 8
          have f9 := fz 9
          have f10 := fz 10
          have HBW : Hid (Below w4.heap.size w4 (((((((((((w'.setCell ⟨g8, 0, none⟩ (.int .u64 v0n)).setCell ⟨g8, 1, none⟩ (.int .u64 v1n)).setCell ⟨g8, 2, none⟩ (.slice a35 ns.length c35)).setCell ⟨g8, 3, none⟩ (.int .i64 v3k)).setCell ⟨g8, 4, none⟩ (.int .u64 v3n)).setCell ⟨g8, 5, none⟩ (.string v3s)).setCell ⟨g8, 6, none⟩ (.slice p3 v3m e3)).setCell ⟨g8, 7, none⟩ (.int .i64 v4k)).setCell ⟨g8, 8, none⟩ (.int .u64 v4n)).setCell ⟨g8, 9, none⟩ (.string v4s)).setCell ⟨g8, 10, none⟩ (.slice p4 v4m e4))) := set11_below HB.out hg8 _ _ _ _ _ _ _ _ _ _ _
          have HFW : Hid (Bx (((((((((((w'.setCell ⟨g8, 0, none⟩ (.int .u64 v0n)).setCell ⟨g8, 1, none⟩ (.int .u64 v1n)).setCell ⟨g8, 2, none⟩ (.slice a35 ns.length c35)).setCell ⟨g8, 3, none⟩ (.int .i64 v3k)).setCell ⟨g8, 4, none⟩ (.int .u64 v3n)).setCell ⟨g8, 5, none⟩ (.string v3s)).setCell ⟨g8, 6, none⟩ (.slice p3 v3m e3)).setCell ⟨g8, 7, none⟩ (.int .i64 v4k)).setCell ⟨g8, 8, none⟩ (.int .u64 v4n)).setCell ⟨g8, 9, none⟩ (.string v4s)).setCell ⟨g8, 10, none⟩ (.slice p4 v4m e4)) w4.heap.size (.pointer (some ⟨g8, 0, none⟩)) #[.int .u64 v0n, .int .u64 v1n, .slice a35 ns.length c35, .int .i64 v3k, .int .u64 v3n, .string v3s, .slice p3 v3m e3, .int .i64 v4k, .int .u64 v4n, .string v4s, .slice p4 v4m e4] 28) := ⟨g8, rfl, hg8, set11_block hh8 _ _ _ _ _ _ _ _ _ _ _⟩
          have g14 := evT (F 14 8 _ rfl rfl)
          have g13 := evT (F 13 40 _ rfl rfl)
          clear F G fz hno q36 hh8
          go_simp
          refine hK0 _ ⟨_, _, _, _, _, _, _, _, _, _, _, _, _, _, _, rfl, d0, d1, d2, d3, d4, d5, d6, d7, d9, d10, d11, d12, (fun q => laterT (m1 q)), (fun q => laterT (m2 q)), (fun q => ⟨laterT (m4 q).1, laterT (m4 q).2⟩), (fun q => laterT (m5 q)), (fun q => ⟨laterT (m7 q).1, laterT (m7 q).2⟩), (fun q => laterT (m8 q)), (fun q => ⟨laterT (m10 q).1, laterT (m10 q).2⟩), (fun q => ⟨laterT (m12 q).1, laterT (m12 q).2⟩), (fun q => ⟨laterT (m13 q).1, laterT (m13 q).2.1, laterT (m13 q).2.2.1, laterT (m13 q).2.2.2.1, laterT (m13 q).2.2.2.2⟩), (fun _ => ⟨laterT p12, laterT p13, laterT p14⟩), HBW, (fun _ => ⟨⟨a35, c35, rfl⟩, HN36.out⟩), (fun _ => rfl), (fun a0 a1 => absurd (show true = false from a1) (by decide)), (fun _ => HFW.out)⟩
        · rintro L vs w' hall ⟨v27, v28, v29, v30, v31, v32, v33, v34, v35, v36, v37, v38, v39, v40, v8, rfl, d0, d1, d2, d3, d4, d5, d6, d7, d9, d10, d11, d12, m1, m2, m4, m5, m7, m8, m10, m12, m13, m15, HB, N35, Q40, Z8, F8⟩
          have f8 := F8.out (hall 15 (by decide))
          obtain ⟨⟨a35, c35, q35⟩, q36⟩ := N35.out (hall 8 (by decide))
          have hb := HB.out
          clear HB N35 Q40 Z8 F8
          subst q35
          obtain ⟨g8, rfl, hg8, hh8⟩ := f8
          have HRF : Hid (∃ (a9 : Option Addr) (c9 : Nat), w'.heap[g8]? = some (.cells #[.int .u64 v0n, .int .u64 v1n, .slice a9 ns.length c9, .int .i64 v3k, .int .u64 v3n, .string v3s, .slice p3 v3m e3, .int .i64 v4k, .int .u64 v4n, .string v4s, .slice p4 v4m e4] 28 (0, 0)) ∧ NO w' w4.heap.size (.slice a9 ns.length c9) ns ∧ w4.heap.size ≤ g8 ∧ Below w4.heap.size w4 w') := ⟨a35, c35, hh8, q36, hg8, hb⟩
          clear hh8 q36 hg8 hb
          simp only [puts]
          go_simp
          go_step
          go_meet
          exact ⟨g8, rfl, HRF⟩
      case rest =>
        obtain ⟨g8, rfl, HRF⟩ := hcut
        obtain ⟨a9, c9, d1, d2, d3, d4⟩ := HRF.out
        have HG8 : Hid (wc.heap[g8]? = some (.cells #[.int .u64 v0n, .int .u64 v1n, .slice a9 ns.length c9, .int .i64 v3k, .int .u64 v3n, .string v3s, .slice p3 v3m e3, .int .i64 v4k, .int .u64 v4n, .string v4s, .slice p4 v4m e4] 28 (0, 0))) := d1
        have HN9 := hide_p d2
        have HC4 := hide_p d4
        have hsv := HSV.out (.slice a9 ns.length c9) wc d2.nr d4
        obtain ⟨x0, x1, x2, x3, x4, x5, x6, x7, x8, x9, x10⟩ := block11 d1
        clear HRF d1 d2 d3 d4 HP0 HP1 HP2 HP3 HP4 HNU HSV hf0 hf1 HK4
        go_wp2_with fail
        refine hsv.mono ?_
        rintro e w10 ⟨v10, q10, rfl, hb10, hen10⟩
        have HB10 : Hid (Below w4.heap.size w4 w10) := HC4.out.trans (hb10.mono HC4.out.size)
        have HB11 : Hid (Below (w.heap.size + 1) w1 w10) := HB4.out.trans (HB10.out.mono HL4.out)
        have HG10 : Hid (w10.heap[g8]? = some (.cells #[.int .u64 v0n, .int .u64 v1n, .slice a9 ns.length c9, .int .i64 v3k, .int .u64 v3n, .string v3s, .slice p3 v3m e3, .int .i64 v4k, .int .u64 v4n, .string v4s, .slice p4 v4m e4] 28 (0, 0))) := (hb10.block _ (blk_lt HG8.out)).trans HG8.out
        have HN10 := hide_p (HN9.out.far hb10 (Nat.le_refl _))
        clear hsv hb10 x0 x1 x2 x3 x4 x5 x6 x7 x8 x9 x10 HG8 HN9
        cases SV with
        | inl y =>
          obtain ⟨rfl, rfl⟩ := hen10
          have hyb : ((y : Int) != 0) = true := by have := HY.out y rfl; simp; omega
          have hy0 : ¬ (y : Int) = 0 := by have := HY.out y rfl; omega
          have HW := hide_p (HR0.out rfl)
          obtain ⟨q1, q2⟩ := HX.out w10 HB11.out
          obtain ⟨r0, r1, r2, r3, r4, r5, r6, r7, r8, r9, r10⟩ := block11 q1
          have fz := Lib.frozen_of_heap q1
          have f0 := fz 0
          have f1 := fz 1
          have f2 := fz 2
          have f3 := fz 3
          have f4 := fz 4
          have f5 := fz 5
          have f6 := fz 6
          have f7 := fz 7
          have f8 := fz 8
          have f9 := fz 9
          have f10 := fz 10
          clear HX HR1 HR0
          have HZ := hide_p (fun W => ld_zero (W := W) q1 (Nat.le_refl _) q2)
          clear q1 q2 fz
          go_wp2
          obtain ⟨y1, y2⟩ := HZ.out _ rfl
          exact bodyPost_ret (Sn.results_cell_tmp (p := 2) (q := 3) rfl _ _ w.heap.size _ _ _ _ rfl y1 Tryd.underlying28 rfl sz28) rfl (HW.out _ _ y2)
        | inr m =>
          obtain ⟨ho10, rfl⟩ := hen10
          obtain ⟨a10, c10, rfl⟩ := ownsRow_slice ho10.2
          have hcv := HCV.out w10 (HX.out w10 HB11.out).2
          have hcv2 := convF_any ho10.br
          have hbe := bsF_eq ho10.1 HSM8.out
          generalize m.length = ml at *
          clear ho10
          by_cases cm : m = l
          · subst cm
            have HW := hide_p (HR1.out (by simp [eqB]))
            generalize bsF m = T at *
            clear hbe HR1 HR0
            obtain ⟨q1, q2⟩ := HX.out w10 HB11.out
            obtain ⟨r0, r1, r2, r3, r4, r5, r6, r7, r8, r9, r10⟩ := block11 q1
            have fz := Lib.frozen_of_heap q1
            have f0 := fz 0
            have f1 := fz 1
            have f2 := fz 2
            have f3 := fz 3
            have f4 := fz 4
            have f5 := fz 5
            have f6 := fz 6
            have f7 := fz 7
            have f8 := fz 8
            have f9 := fz 9
            have f10 := fz 10
            obtain ⟨x0, x1, x2, x3, x4, x5, x6, x7, x8, x9, x10⟩ := block11 HG10.out
            have HZ := hide_p (fun W => ld_good (W := W) (z := zz) (k1 := v3k) (n1 := v3n) (s1 := v3s) (u1 := .slice p3 v3m e3) (k2 := v4k) (n2 := v4n) (s2 := v4s) (u2 := .slice p4 v4m e4) (mv := .slice a9 ns.length c9) q1 (Nat.le_refl _) q2 (by rw [HIX.out.2.2]; exact HN10.out.nr) (fun k hk => by have h1 := (World.ownsRow.lt HN10.out k hk).1; have h2 := HL4.out; omega) (csKeep8 HR3.out HB10.out) (csKeep8 HR4.out HB10.out))
            rw [HIX.out.1, HIX.out.2.1] at HZ
            clear q1 q2 fz HX
            go_wp2
            obtain ⟨y1, y2⟩ := HZ.out _ rfl
            exact bodyPost_ret (Sn.results_cell_tmp (p := 2) (q := 3) rfl _ _ w.heap.size _ _ _ _ rfl y1 Tryd.underlying28 rfl sz28) rfl (HW.out _ _ y2)
          · rw [decide_eq_false cm] at hbe
            have HW := hide_p (HR0.out (by simp [eqB, cm]))
            generalize bsF m = T at *
            generalize bsF l = T' at *
            clear HR1 HR0
            obtain ⟨q1, q2⟩ := HX.out w10 HB11.out
            obtain ⟨r0, r1, r2, r3, r4, r5, r6, r7, r8, r9, r10⟩ := block11 q1
            have fz := Lib.frozen_of_heap q1
            have f0 := fz 0
            have f1 := fz 1
            have f2 := fz 2
            have f3 := fz 3
            have f4 := fz 4
            have f5 := fz 5
            have f6 := fz 6
            have f7 := fz 7
            have f8 := fz 8
            have f9 := fz 9
            have f10 := fz 10
            clear HX
            have HZ := hide_p (fun W => ld_zero (W := W) q1 (Nat.le_refl _) q2)
            clear q1 q2 fz
            go_wp2
            obtain ⟨y1, y2⟩ := HZ.out _ rfl
            exact bodyPost_ret (Sn.results_cell_tmp (p := 2) (q := 3) rfl _ _ w.heap.size _ _ _ _ rfl y1 Tryd.underlying28 rfl sz28) rfl (HW.out _ _ y2)
  · have ceb : ((fE : Int) != 0) = true := by simp; omega
    have HLV : Hid ((loadV l).1 = false) := by show _ = _; unfold loadV; rw [if_neg (by rw [← HFE.out]; exact ce)]
    have HB5 := HB2
    generalize (frsB l).length = fl at *
    obtain ⟨q1, q2⟩ := HX.out w2 HB5.out
    obtain ⟨r0, r1, r2, r3, r4, r5, r6, r7, r8, r9, r10⟩ := block11 q1
    have fz := Lib.frozen_of_heap q1
    have f0 := fz 0
    have f1 := fz 1
    have f2 := fz 2
    have f3 := fz 3
    have f4 := fz 4
    have f5 := fz 5
    have f6 := fz 6
    have f7 := fz 7
    have f8 := fz 8
    have f9 := fz 9
    have f10 := fz 10
    have HZ := hide_p (fun W => ld_zero (W := W) q1 (Nat.le_refl _) q2)
    have HW := hide_p (HRZ.out HLV.out)
    clear q1 q2 fz HRZ HRG
    go_wp2
    obtain ⟨y1, y2⟩ := HZ.out _ rfl
    exact bodyPost_ret (Sn.results_cell_tmp (p := 2) (q := 3) rfl _ _ w.heap.size _ _ _ _ rfl y1 Tryd.underlying28 rfl sz28) rfl (HW.out _ _ y2)

end Go.Proofs.YtjngknnkffbnmaaDoor
