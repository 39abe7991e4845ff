/-
  Layer 7: the reference's Decode, walked.
-/
import Derived.Test.YtjngknnkffbnmaaDoorGR
namespace Go.Proofs.YtjngknnkffbnmaaDoor
set_option maxRecDepth 100000
open Go.RowKit Crc

set_option maxRecDepth 100000 in
set_option maxHeartbeats 4000000 in
theorem rdecode_any (v : Value) (l : List Nat) (w : World) (h : BR w v l) (r : Nat ⊕ Tr) (hr : r = decD l) :
    Calls Tryd.prog 39 #[v] w (Decd r w) := by
  have HR : Hid (r = decD l) := hr
  have HBR : Hid (BR w v l) := h
  obtain ⟨a, cap, rfl, hcap⟩ : ∃ a cap, v = .slice a l.length cap ∧ (l.length ≤ cap ∧ cap ≤ 9223372036854775807) := by
    obtain ⟨_, a, cap, e, h1, h2, _⟩ := h
    unfold maxLen at h2
    exact ⟨a, cap, e, h1, by omega⟩
  obtain ⟨w1, hw1⟩ : ∃ w1, w1 = w.alloc (.cells #[.int .i64 0, .int .u64 0, .string ⟨#[]⟩, .slice none 0 0] 26) := ⟨_, rfl⟩
  have hs1 : w1.heap.size = w.heap.size + 1 := by rw [hw1]; simp
  have hb1 : Below w.heap.size w w1 := by rw [hw1]; exact (Below.refl _ _).alloc (Nat.le_refl _) _
  have q1 : Qc w1 w.heap.size 0 0 ⟨#[]⟩ (.slice none 0 0) := by rw [hw1]; exact heap_alloc_new _ _
  have HQ1 : Hid (Qc w1 w.heap.size 0 0 ⟨#[]⟩ (.slice none 0 0)) := q1
  have HB1 : Hid (Below w.heap.size w w1) := hb1
  have HE : Hid (∀ (z : Nat) (W : World), r = .inl z → Below w.heap.size w W → Decd r w (.returned (.tuple #[.agg #[.int .i64 0, .int .u64 0, .string ⟨#[]⟩, .slice none 0 0], .int .i64 z])) W) := by
    intro z W hz hb
    rw [hz]
    exact ⟨_, _, rfl, hb, rfl, rfl⟩
  by_cases c : 1048576 < l.length
  · have ci : (l.length : Int) > 1048576 := by omega
    have HQ : Hid _ := HE.out 2 w1 (by rw [HR.out]; unfold decD; rw [if_pos c]) hb1
    have y0 := q1.c0
    have y1 := q1.c1
    have y2 := q1.c2
    have y3 := q1.c3
    clear h hr q1 hb1
    go_enter Tryd.func39, Tryd.ntmps39
    go_wp2
    rw [← hw1]
    clear hw1
    refine bodyPost_ret ?_ rfl HQ.out
    simp [results, Tryd.results39, go_sem, y0, y1, y2, y3]
  · have ci : ¬ (l.length : Int) > 1048576 := by omega
    have hcall := read_any 64 (Nat.le_refl _) _ l 0 w1 (HBR.out.below hb1 (Nat.le_refl _)) (by omega) (Nat.zero_le _)
    rw [show (64 : Int) - ((64 : Nat) : Int) = 0 from rfl, List.drop_zero, show ((0 : Nat) : Int) = 0 from rfl] at hcall
    have HRR : Hid (r = match decT 64 l with
      | .inl x => .inl x
      | .inr p => if p.2.length = 0 then .inr p.1 else .inl 4) := by
      show _ = _
      rw [HR.out]; unfold decD; rw [if_neg c]
      cases decT 64 l <;> rfl
    have HDE : Hid (∀ z, decT 64 l = .inl z → z = 2 ∨ z = 3 ∨ z = 4) := fun z hz => dec_err 64 l z hz
    clear h hr q1 hb1
    generalize decT 64 l = E at hcall HRR HDE
    go_enter Tryd.func39, Tryd.ntmps39
    go_wp2_with fail
    rw [← hw1]
    clear hw1
    refine hcall.mono ?_
    rintro e w2 ⟨cv, x2, y2, rfl, hb2, hm⟩
    clear hcall
    obtain ⟨k2, n2, s2, a2, m2, cap2, rfl⟩ : ∃ k n s a m cap, cv = cellV k n s (.slice a m cap) := by
      cases E with
      | inl z => exact ⟨0, 0, ⟨#[]⟩, none, 0, 0, hm.1⟩
      | inr p => exact hm.1.form
    obtain ⟨w3, hw3⟩ : ∃ w3, w3 = w2.alloc (.cells #[.int .i64 k2, .int .u64 n2, .string s2, .slice a2 m2 cap2] 26) := ⟨_, rfl⟩
    have hb3 : Below w2.heap.size w2 w3 := by rw [hw3]; exact (Below.refl _ _).alloc (Nat.le_refl _) _
    have hs2 := hb2.size
    have hb13 : Below w1.heap.size w1 w3 := hb2.trans (hb3.mono hs2)
    have q3 : Qc w3 w.heap.size 0 0 ⟨#[]⟩ (.slice none 0 0) := HQ1.out.same (hb13.block _ (by omega))
    have HQ3 : Hid (Qc w3 w.heap.size 0 0 ⟨#[]⟩ (.slice none 0 0)) := q3
    have HB3 : Hid (Below w.heap.size w w3) := HB1.out.trans (hb13.mono (by omega))
    have y0 := q3.c0
    have y1 := q3.c1
    have y2' := q3.c2
    have y3 := q3.c3
    have g0 := q3.free 0
    have g1 := q3.free 1
    have g2 := q3.free 2
    have g3 := q3.free 3
    rw [hw3] at y0 y1 y2' y3 g0 g1 g2 g3
    have HZ : Hid (∀ (z : Nat) (W : World), r = .inl z → W = (((w3.setCell ⟨w.heap.size, 0, none⟩ (.int .i64 0)).setCell ⟨w.heap.size, 1, none⟩ (.int .u64 0)).setCell ⟨w.heap.size, 2, none⟩ (.string ⟨#[]⟩)).setCell ⟨w.heap.size, 3, none⟩ (.slice none 0 0) → (W.cell? ⟨w.heap.size, 0, none⟩ = some (.int .i64 0) ∧ W.cell? ⟨w.heap.size, 1, none⟩ = some (.int .u64 0) ∧ W.cell? ⟨w.heap.size, 2, none⟩ = some (.string ⟨#[]⟩) ∧ W.cell? ⟨w.heap.size, 3, none⟩ = some (.slice none 0 0)) ∧ Decd r w (.returned (.tuple #[.agg #[.int .i64 0, .int .u64 0, .string ⟨#[]⟩, .slice none 0 0], .int .i64 z])) W) := by
      intro z W hz hW
      have hq : Qc W w.heap.size 0 0 ⟨#[]⟩ (.slice none 0 0) := (HQ3.out.rc.set 0 0 ⟨#[]⟩ _ hW).1
      refine ⟨⟨hq.c0, hq.c1, hq.c2, hq.c3⟩, HE.out z W hz ?_⟩
      rw [hW]
      exact (((HB3.out.setCell (by simp) _).setCell (by simp) _).setCell (by simp) _).setCell (by simp) _
    unfold cellV
    clear q3 hb13
    cases E with
    | inl z =>
      obtain ⟨e1, rfl, rfl⟩ := hm
      unfold cellV at e1
      simp at e1
      obtain ⟨rfl, rfl, rfl, rfl, rfl, rfl⟩ := e1
      rw [show ((0 : Nat) : Int) = 0 from rfl] at hw3 y0 y1 y2' y3 g0 g1 g2 g3 ⊢
      have hz := HDE.out z rfl
      have HRZ : Hid (r = .inl z) := HRR.out
      clear hb2 hb3 HE
      rcases hz with rfl | rfl | rfl
      all_goals
        go_wp2
        rw [← hw3]
        obtain ⟨⟨t0, t1, t2, t3⟩, hP⟩ := HZ.out _ _ HRZ.out rfl
        clear HZ hw3 y0 y1 y2' y3 g0 g1 g2 g3
        refine bodyPost_ret ?_ rfl hP
        generalize (((w3.setCell ⟨w.heap.size, 0, none⟩ (.int .i64 0)).setCell ⟨w.heap.size, 1, none⟩ (.int .u64 0)).setCell ⟨w.heap.size, 2, none⟩ (.string ⟨#[]⟩)).setCell ⟨w.heap.size, 3, none⟩ (.slice none 0 0) = W at *
        simp [results, Tryd.results39, go_sem, t0, t1, t2, t3]
    | inr p =>
      obtain ⟨t, r2⟩ := p
      obtain ⟨q2, rfl, j, rfl, hj, er⟩ := hm
      simp only at q2 er HRR
      subst er
      rw [List.length_drop] at HRR
      by_cases cj : j < l.length
      · have cji : (j : Int) < (l.length : Int) := by omega
        have HRZ : Hid (r = .inl 4) := by show _ = _; rw [HRR.out, if_neg (by omega)]
        clear hb2 hb3 HE q2
        go_wp2
        rw [← hw3]
        obtain ⟨⟨t0, t1, t2, t3⟩, hP⟩ := HZ.out 4 _ HRZ.out rfl
        clear HZ hw3 y0 y1 y2' y3 g0 g1 g2 g3
        refine bodyPost_ret ?_ rfl hP
        generalize (((w3.setCell ⟨w.heap.size, 0, none⟩ (.int .i64 0)).setCell ⟨w.heap.size, 1, none⟩ (.int .u64 0)).setCell ⟨w.heap.size, 2, none⟩ (.string ⟨#[]⟩)).setCell ⟨w.heap.size, 3, none⟩ (.slice none 0 0) = W at *
        simp [results, Tryd.results39, go_sem, t0, t1, t2, t3]
      · have cji : ¬ (j : Int) < (l.length : Int) := by omega
        have HP : Hid (∀ W : World, W = (((w3.setCell ⟨w.heap.size, 0, none⟩ (.int .i64 k2)).setCell ⟨w.heap.size, 1, none⟩ (.int .u64 n2)).setCell ⟨w.heap.size, 2, none⟩ (.string s2)).setCell ⟨w.heap.size, 3, none⟩ (.slice a2 m2 cap2) → (W.cell? ⟨w.heap.size, 0, none⟩ = some (.int .i64 k2) ∧ W.cell? ⟨w.heap.size, 1, none⟩ = some (.int .u64 n2) ∧ W.cell? ⟨w.heap.size, 2, none⟩ = some (.string s2) ∧ W.cell? ⟨w.heap.size, 3, none⟩ = some (.slice a2 m2 cap2)) ∧ Decd r w (.returned (.tuple #[.agg #[.int .i64 k2, .int .u64 n2, .string s2, .slice a2 m2 cap2], .int .i64 0])) W) := by
          intro W hW
          obtain ⟨h1, h2⟩ := HQ3.out.rc.set k2 n2 s2 _ hW
          have hq : Qc W w.heap.size k2 n2 s2 (.slice a2 m2 cap2) := h1
          refine ⟨⟨hq.c0, hq.c1, hq.c2, hq.c3⟩, ?_⟩
          rw [HRR.out, if_pos (by omega)]
          refine ⟨_, _, rfl, ?_, ?_, rfl⟩
          · rw [hW]
            exact (((HB3.out.setCell (by simp) _).setCell (by simp) _).setCell (by simp) _).setCell (by simp) _
          · exact ((q2.real.kept (fun k hk => hb3.block k hk.2)).kept (w' := W) (fun k hk => h2 k (by omega))).widen (fun k hk => by omega)
        clear hb2 HE q2 HZ
        go_wp2
        rw [← hw3]
        obtain ⟨⟨t0, t1, t2, t3⟩, hP⟩ := HP.out _ rfl
        clear HP hw3 y0 y1 y2' y3 g0 g1 g2 g3 hb3
        refine bodyPost_ret ?_ rfl hP
        generalize (((w3.setCell ⟨w.heap.size, 0, none⟩ (.int .i64 k2)).setCell ⟨w.heap.size, 1, none⟩ (.int .u64 n2)).setCell ⟨w.heap.size, 2, none⟩ (.string s2)).setCell ⟨w.heap.size, 3, none⟩ (.slice a2 m2 cap2) = W at *
        simp [results, Tryd.results39, go_sem, t0, t1, t2, t3]

end Go.Proofs.YtjngknnkffbnmaaDoor
