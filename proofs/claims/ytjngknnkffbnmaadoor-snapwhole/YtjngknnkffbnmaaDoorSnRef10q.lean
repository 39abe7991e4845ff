/-
  Layer 19: the reference's Plain, walked.
-/
import Derived.Test.YtjngknnkffbnmaaDoorSnRef6q
import Derived.Test.YtjngknnkffbnmaaDoorHpInv
namespace Go.Proofs.YtjngknnkffbnmaaDoor
set_option maxRecDepth 100000
open Go.RowKit Crc Sn

namespace Sn
/-- An entry without what plays no part. -/
def plainE (x : Ent) : Ent := ⟨x.tm, x.kd, if x.kd = 1 then x.dt else nob, if x.kd = 2 then x.ms else []⟩
def PlP (w : World) (z : Ent) (e : Ending) (w' : World) : Prop := ∃ u, e = .returned (.agg #[.int .u64 z.tm, .int .i64 z.kd, .string z.dt, u]) ∧ NR w' u z.ms ∧ Below w.heap.size w w'
theorem NR.src {w : World} {v : Value} {l : List Int} (h : NR w v l) : Src w 1 v l.length (l.map intV) := by
  obtain ⟨a, cap, rfl, h2, h3, h4, h5⟩ := h.form
  cases a with
  | none =>
    obtain ⟨e1, e2⟩ := h4 rfl
    subst e1 e2
    exact Or.inl ⟨rfl, rfl, rfl⟩
  | some x =>
    obtain ⟨h6, h7⟩ := h5 x rfl
    refine Or.inr ⟨x, cap, rfl, by simp, fun j u hu => ?_, fun u hu => ?_⟩
    · rw [List.getElem?_map] at hu
      by_cases hj : j < l.length
      · rw [List.getElem?_eq_getElem hj] at hu
        simp only [Option.map_some, Option.some.injEq] at hu
        subst hu
        have hs := h6 (by omega)
        obtain ⟨g, o, sp⟩ := x
        simp only at hs
        subst hs
        have ha : Addr.add ⟨g, o, none⟩ j = ⟨g, o + j, none⟩ := by unfold Addr.add; split <;> simp_all
        rw [ha]
        exact h7 j hj
      · rw [List.getElem?_eq_none (by omega)] at hu
        cases hu
    · obtain ⟨y, hy, rfl⟩ := List.mem_map.1 hu
      rfl
theorem pl_end {w W wk : World} {b : Nat} {x : Ent} {u x0 x1 x2 x3 : Value} (hblk : wk.heap[b]? = some (.cells #[x0, x1, x2, x3] 46 (0, 0))) (hb : w.heap.size ≤ b) (hB : Below w.heap.size w wk) (hn : NR wk u x.ms) (hu : 0 < x.ms.length → ∀ k, u.ownBlock = some k → k ≠ b)
    (hW : W = (((wk.setCell ⟨b, 0, none⟩ (.int .u64 x.tm)).setCell ⟨b, 1, none⟩ (.int .i64 x.kd)).setCell ⟨b, 2, none⟩ (.string x.dt)).setCell ⟨b, 3, none⟩ u) :
    W.heap[b]? = some (.cells #[.int .u64 x.tm, .int .i64 x.kd, .string x.dt, u] 46 (0, 0)) ∧ PlP w x (.returned (.agg #[.int .u64 x.tm, .int .i64 x.kd, .string x.dt, u])) W := by
  obtain ⟨h1, u', h2, h3, h4⟩ := fe_good hblk hb hB hn hu hW
  injection h2 with h2
  simp only [Value.tuple.injEq, Array.mk.injEq, List.cons.injEq, Value.agg.injEq, and_true, true_and] at h2
  subst h2
  exact ⟨h1, _, rfl, h3, h4⟩
end Sn

set_option maxHeartbeats 8000000 in
theorem rPlain_any (x : Ent) (v : Value) (w : World) (hm : NR w v x.ms) (hml : x.ms.length ≤ 1000000) :
    Calls Tryd.prog 24 #[.agg #[.int .u64 x.tm, .int .i64 x.kd, .string x.dt, v]] w (PlP w (plainE x)) := by
  obtain ⟨i0, hi0, hz0, hz1, hz2⟩ := info_parts infoInt
  have HM := hide_p hm
  obtain ⟨a, cap, rfl, -, -, -, -⟩ := hm.form
  obtain ⟨tm, kd, dt, ms⟩ := x
  simp only at hm hml HM ⊢
  obtain ⟨w1, hw1⟩ : ∃ w1, w1 = ((w.alloc (.cells #[.int .u64 tm, .int .i64 kd, .string dt, .slice a ms.length cap] 46)).alloc (.cells #[.int .u64 0, .int .i64 0, .string ⟨#[]⟩, .slice none 0 0] 46)).alloc (.cells #[.int .u64 tm, .int .i64 kd, .string ⟨#[]⟩, .slice none 0 0] 46) := ⟨_, rfl⟩
  have HS1 : Hid (w1.heap.size = w.heap.size + 3) := by show _ = _; rw [hw1]; simp
  have HB1 : Hid (Below w.heap.size w w1) := by show Below _ _ _; rw [hw1]; exact (((Below.refl _ _).alloc (Nat.le_refl _) _).alloc (by simp) _).alloc (by simp; omega) _
  have HA1 : Hid (w1.heap[w.heap.size]? = some (.cells #[.int .u64 tm, .int .i64 kd, .string dt, .slice a ms.length cap] 46 (0, 0)) ∧ w1.heap[w.heap.size + 1]? = some (.cells #[.int .u64 0, .int .i64 0, .string ⟨#[]⟩, .slice none 0 0] 46 (0, 0)) ∧ w1.heap[w.heap.size + 2]? = some (.cells #[.int .u64 tm, .int .i64 kd, .string nob, .slice none 0 0] 46 (0, 0))) := by
    show _ ∧ _ ∧ _
    rw [hw1]
    refine ⟨?_, ?_, heap_alloc_at _ _ _ (by simp)⟩
    · rw [Below.heap_alloc _ _ _ (by simp; omega), Below.heap_alloc _ _ _ (by simp)]
      exact heap_alloc_new _ _
    · rw [Below.heap_alloc _ _ _ (by simp)]
      exact heap_alloc_at _ _ _ (by simp)
  obtain ⟨x0, x1, x2, x3⟩ := block4 HA1.out.1
  obtain ⟨r0, r1, r2, r3⟩ := block4 HA1.out.2.1
  obtain ⟨p0, p1, p2, p3⟩ := block4 HA1.out.2.2
  have fz := Lib.frozen_of_heap HA1.out.2.1
  have f0 := fz 0
  have f1 := fz 1
  have f2 := fz 2
  have f3 := fz 3
  have fp := Lib.frozen_of_heap HA1.out.2.2
  have g2 := fp 2
  have g3 := fp 3
  have HNM : Hid (∀ w', Below w.heap.size w w' → Src w' 1 (.slice a ms.length cap) ms.length (ms.map intV)) := fun w' hb => (HM.out.kept hb (Nat.le_refl _)).src
  clear hm fz fp
  by_cases k1 : kd = 1
  · subst k1
    have hp : plainE ⟨tm, 1, dt, ms⟩ = ⟨tm, 1, dt, []⟩ := by unfold plainE; simp
    rw [hp]
    have HE : Hid (∀ W, W = ((((w1.setCell ⟨w.heap.size + 2, 2, none⟩ (.string dt)).setCell ⟨w.heap.size + 1, 0, none⟩ (.int .u64 tm)).setCell ⟨w.heap.size + 1, 1, none⟩ (.int .i64 1)).setCell ⟨w.heap.size + 1, 2, none⟩ (.string dt)).setCell ⟨w.heap.size + 1, 3, none⟩ (.slice none 0 0) → W.heap[w.heap.size + 1]? = some (.cells #[.int .u64 tm, .int .i64 1, .string dt, .slice none 0 0] 46 (0, 0)) ∧ PlP w ⟨tm, 1, dt, []⟩ (.returned (.agg #[.int .u64 tm, .int .i64 1, .string dt, .slice none 0 0])) W) :=
      fun W hW => pl_end (x := ⟨tm, 1, dt, []⟩) ((heap_setCell_other _ _ _ _ (show w.heap.size + 1 ≠ w.heap.size + 2 by omega)).trans HA1.out.2.1) (Nat.le_succ _) (HB1.out.setCell (p := ⟨w.heap.size + 2, 2, none⟩) (show w.heap.size ≤ w.heap.size + 2 by omega) _) (nr_nil _) (fun h => absurd h (Nat.lt_irrefl 0)) hW
    go_enter Tryd.func24, Tryd.ntmps24
    go_upto_region 2 with fail
    rw [← hw1]
    clear hw1
    go_wp2
    obtain ⟨y1, y2⟩ := HE.out _ rfl
    exact bodyPost_ret (results_cell_row rfl _ _ (w.heap.size + 1) _ _ _ _ rfl y1 Tryd.underlying46 rfl sz46) rfl y2
  · by_cases k2 : kd = 2
    · subst k2
      have hp : plainE ⟨tm, 2, dt, ms⟩ = ⟨tm, 2, nob, ms⟩ := by unfold plainE; simp
      rw [hp]
      obtain ⟨w2, hw2⟩ : ∃ w2, w2 = w1.alloc (.cells #[] 3) := ⟨_, rfl⟩
      have HB2 : Hid (Below w.heap.size w w2 ∧ w2.heap.size = w.heap.size + 4) := by
        show _ ∧ _
        rw [hw2]
        exact ⟨HB1.out.alloc HB1.out.size _, by simp; have := HS1.out; omega⟩
      have hown : w2.ownsRow (w.heap.size + 3) 3 1 (.slice (some ⟨w1.heap.size, 0, none⟩) 0 0) 0 [] := by
        have := World.ownsRow_made (e := 3) (size := 1) (base := w.heap.size + 3) w1 #[] 0 (by have := HS1.out; omega) (by decide) rfl
        rw [← hw2] at this
        simpa using this
      have HA2 : Hid (∀ k, k < w.heap.size + 3 → w2.heap[k]? = w1.heap[k]?) := by
        intro k hk
        rw [hw2, Below.heap_alloc _ _ _ (by have := HS1.out; omega)]
      clear x0 x1 x2 x3 r0 r1 r2 r3 p0 p1 p2 p3 f0 f1 f2 f3 g2 g3
      obtain ⟨x0, x1, x2, x3⟩ := block4 HA1.out.1
      go_enter Tryd.func24, Tryd.ntmps24
      go_upto_region 2 with fail
      rw [← hw1]
      clear hw1
      have hsrc := HNM.out w2 HB2.out.1
      have hs1 := HS1.out
      rw [hs1] at hown
      go_wp2_with (at_builtin; rw [← hw2]; refine wpList_append_src _ rfl _ _ 23 rfl (w.heap.size + 3) 3 i0 _ 1 8 Tryd.underlying23 hi0 hz0 hz1 hz2 rfl (by decide) _ 0 [] rfl hown _ _ _ rfl hsrc (by unfold maxLen; omega) (by omega) (by have := HB2.out.2; omega) ?_)
      intro a3 c3 w3 hown3 hgrow hat
      rw [← hw2] at hgrow
      have HGB : Hid (∀ k, k < w.heap.size + 3 → w3.heap[k]? = w1.heap[k]?) := by
        intro k hk
        rw [hgrow.block k (by have := HB2.out.2; omega) (fun e => by simp [Value.ownBlock] at e; omega), HA2.out k hk]
      have HB3 : Hid (Below w.heap.size w w3) := HB2.out.1.grown hgrow (by have := HB2.out.2; omega) (fun k hk => by simp [Value.ownBlock] at hk; omega)
      have hno : NO w3 (w.heap.size + 3) (.slice a3 ms.length c3) ms := by
        show World.ownsRow _ _ _ _ _ _ _
        simpa using hown3
      have HOB : Hid (∀ k, (Value.slice a3 ms.length c3).ownBlock = some k → w.heap.size + 3 ≤ k) := fun k hk => (World.ownsRow.lt hno k hk).1
      have HN3 := hide_p hno.nr
      have e0 := (HGB.out (w.heap.size + 1) (by omega)).trans HA1.out.2.1
      have e1 := (HGB.out (w.heap.size + 2) (by omega)).trans HA1.out.2.2
      have HE1 := hide_p e1
      have HE0 := hide_p e0
      obtain ⟨r0, r1, r2, r3⟩ := block4 e0
      obtain ⟨p0, p1, p2, p3⟩ := block4 e1
      have fz := Lib.frozen_of_heap e0
      have f0 := fz 0
      have f1 := fz 1
      have f2 := fz 2
      have f3 := fz 3
      have g3 := Lib.frozen_of_heap e1 3
      have HE : Hid (∀ W, W = ((((w3.setCell ⟨w.heap.size + 2, 3, none⟩ (.slice a3 ms.length c3)).setCell ⟨w.heap.size + 1, 0, none⟩ (.int .u64 tm)).setCell ⟨w.heap.size + 1, 1, none⟩ (.int .i64 2)).setCell ⟨w.heap.size + 1, 2, none⟩ (.string nob)).setCell ⟨w.heap.size + 1, 3, none⟩ (.slice a3 ms.length c3) → W.heap[w.heap.size + 1]? = some (.cells #[.int .u64 tm, .int .i64 2, .string nob, .slice a3 ms.length c3] 46 (0, 0)) ∧ PlP w ⟨tm, 2, nob, ms⟩ (.returned (.agg #[.int .u64 tm, .int .i64 2, .string nob, .slice a3 ms.length c3])) W) :=
        fun W hW => pl_end (x := ⟨tm, 2, nob, ms⟩) ((heap_setCell_other _ _ _ _ (show w.heap.size + 1 ≠ w.heap.size + 2 by omega)).trans HE0.out) (Nat.le_succ _) (HB3.out.setCell (p := ⟨w.heap.size + 2, 3, none⟩) (show w.heap.size ≤ w.heap.size + 2 by omega) _) (HN3.out.setc (fun k hk => by have := HOB.out k hk; omega) _ _) (fun _ k hk => by have := HOB.out k hk; omega) hW
      clear hown3 hgrow hat hno e0 e1 fz hsrc hown x0 x1 x2 x3 hw2
      go_wp2
      obtain ⟨y1, y2⟩ := HE.out _ rfl
      exact bodyPost_ret (results_cell_row rfl _ _ (w.heap.size + 1) _ _ _ _ rfl y1 Tryd.underlying46 rfl sz46) rfl y2
    · have hp : plainE ⟨tm, kd, dt, ms⟩ = ⟨tm, kd, nob, []⟩ := by unfold plainE; simp [k1, k2]
      rw [hp]
      have HE : Hid (∀ W, W = (((w1.setCell ⟨w.heap.size + 1, 0, none⟩ (.int .u64 tm)).setCell ⟨w.heap.size + 1, 1, none⟩ (.int .i64 kd)).setCell ⟨w.heap.size + 1, 2, none⟩ (.string nob)).setCell ⟨w.heap.size + 1, 3, none⟩ (.slice none 0 0) → W.heap[w.heap.size + 1]? = some (.cells #[.int .u64 tm, .int .i64 kd, .string nob, .slice none 0 0] 46 (0, 0)) ∧ PlP w ⟨tm, kd, nob, []⟩ (.returned (.agg #[.int .u64 tm, .int .i64 kd, .string nob, .slice none 0 0])) W) :=
        fun W hW => pl_end (x := ⟨tm, kd, nob, []⟩) HA1.out.2.1 (Nat.le_succ _) HB1.out (nr_nil _) (fun h => absurd h (Nat.lt_irrefl 0)) hW
      go_enter Tryd.func24, Tryd.ntmps24
      go_upto_region 2 with fail
      rw [← hw1]
      clear hw1
      go_wp2
      obtain ⟨y1, y2⟩ := HE.out _ rfl
      exact bodyPost_ret (results_cell_row rfl _ _ (w.heap.size + 1) _ _ _ _ rfl y1 Tryd.underlying46 rfl sz46) rfl y2

end Go.Proofs.YtjngknnkffbnmaaDoor
