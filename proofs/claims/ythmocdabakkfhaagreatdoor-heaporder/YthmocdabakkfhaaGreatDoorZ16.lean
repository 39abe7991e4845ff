/-
  HpLayW
-/
import Derived.Test.YthmocdabakkfhaaGreatDoorZ15

/-
  Layer 9: lay: a key put into its bucket, and counted.
-/
namespace Go.Proofs.YthmocdabakkfhaaGreatDoor
set_option maxRecDepth 100000
open Go.RowKit

theorem gapF_le (W : Nat → Nat) : ∀ f p, gapF W f p ≤ p + f ∧ (gapF W f p < p + f → W (gapF W f p) ≠ 18446744073709551615)
  | 0, p => ⟨Nat.le_refl _, fun h => absurd h (Nat.lt_irrefl _)⟩
  | f + 1, p => by
    rw [gapF]
    split
    · obtain ⟨a, b⟩ := gapF_le W f (p + 1)
      exact ⟨by omega, fun h => b (by omega)⟩
    · rename_i c
      exact ⟨by omega, fun _ => c⟩
theorem gapN_le (W : Nat → Nat) {m s : Nat} (hs : s ≤ m * 64) (hW : ∀ i, i < m → W i < 18446744073709551616) : gapN W m s ≤ m * 64 := by
  obtain ⟨a, b⟩ := gapF_le W (m - s / 64) (s / 64)
  have e : s / 64 + (m - s / 64) = m := by omega
  rw [e] at a b
  by_cases c : gapF W (m - s / 64) (s / 64) = m
  · rw [gapN_end c]; exact Nat.le_refl _
  · have hl := Nat.lt_of_le_of_ne a c
    have hn := b hl
    have hw := hW _ hl
    rw [gapN_at rfl c]
    have := (Lib.lowest_bit 64 (18446744073709551615 - W (gapF W (m - s / 64) (s / 64))) (by omega) (by omega)).2
    omega
theorem cntS_le {m s : Nat} {W : Nat → Nat} {K N : Int} (hs : s ≤ m * 64) (hW : ∀ i, i < m → cntW m W K N i < 18446744073709551616) : cntS m W s K N ≤ m * 64 := by
  unfold cntS
  split
  · split
    · exact gapN_le _ hs hW
    · exact hs
  · exact hs

theorem Ct.wr {A : List (Nat × Nat)} {w w' : World} {tb c m s : Nat} {W : Nat → Nat} (h : Ct w tb c m W s) (k : Wr A w w') (h8 : (tb, 8) ∉ A) (h9 : (tb, 9) ∉ A) (hc : ∀ i, (c, i) ∉ A) : Ct w' tb c m W s :=
  ⟨Nat.lt_of_lt_of_le h.tlt k.size, Nat.lt_of_lt_of_le h.clt k.size, h.ne, h.one, h.few, k.cell h8 h.row, k.cell h9 h.size, h.fit, fun j hj => ⟨(h.words j hj).1, k.cell (hc j) (h.words j hj).2⟩, fun i => (k.2.1 _ _ h.clt).trans (h.wfree i), (k.2.1 _ _ h.tlt).trans h.sfree⟩
theorem Bk.wr {A : List (Nat × Nat)} {w w' : World} {g n : Nat} {cs : Nat → List En} {es : List En} (h : Bk w g n cs es) (k : Wr A w w') (hg : ∀ j, (g, j) ∉ A) (he : ∀ e ∈ es, ∀ o, o ≤ 9 → (e.b, o) ∉ A) : Bk w' g n cs es :=
  ⟨h.pos, h.few, Nat.lt_of_lt_of_le h.lt k.size, fun j hj => k.cell (hg j) (h.head j hj), fun j hj => (h.chain j hj).off k.off fun e hm => he e ((h.mem j hj e).1 hm).1 9 (by omega), h.mem,
   fun e hm => ⟨(h.lies e hm).1.off k.off fun o ho => he e hm o (by omega), Nat.lt_of_lt_of_le (h.lies e hm).2 k.size⟩, h.hash, h.own, h.once, h.block, h.apart⟩

set_option maxHeartbeats 2000000 in
theorem lay_any (tb g n c m s : Nat) (W : Nat → Nat) (cs : Nat → List En) (es es' : List En) (e : En) (u : Option Addr) (w : World) (hct : Ct w tb c m W s) (hbk : Bk w g n cs es) (hT : Db w)
    (h7 : w.cell? ⟨tb, 7, none⟩ = some (.slice (some ⟨g, 0, none⟩) n n)) (hen : EnC w e ∧ e.b < w.heap.size) (hh : e.H = hN e.K e.N e.S e.O) (hN : Flo.U64 e.N) (h9 : w.cell? ⟨e.b, 9, none⟩ = some (.pointer u))
    (hz9 : w.frozen? ⟨e.b, 9, none⟩ = false) (hzg : ∀ j, w.frozen? ⟨g, j, none⟩ = false) (n1 : e.b ≠ tb) (n2 : e.b ≠ g) (n3 : e.b ≠ c) (n4 : g ≠ tb) (n5 : g ≠ c) (n6 : e.b ≠ 1) (n7 : g ≠ 1)
    (hes : ∀ x, x ∈ es' ↔ x = e ∨ x ∈ es) (hnew : ∀ f ∈ es, ¬ (e.K = f.K ∧ e.N = f.N ∧ e.S = f.S ∧ e.O = f.O)) (hb : ∀ f ∈ es, f.b ≠ e.b) (ha : ∀ f ∈ es, f.b ≠ tb ∧ f.b ≠ c) :
    Calls Tryz.prog 79 #[.pointer (some ⟨tb, 0, none⟩), .pointer (some ⟨e.b, 0, none⟩)] w fun x w' => x = .returned (.tuple #[]) ∧
      Wr [(e.b, 9), (g, bk e.H n), (c, bitN m e.K e.N / 64), (tb, 9)] w w' ∧ Bk w' g n (laidC cs (bk e.H n) e) es' ∧ Ct w' tb c m (cntW m W e.K e.N) (cntS m W s e.K e.N) := by
  have hH : e.H < 18446744073709551616 := by rw [hh]; exact hN_lt _ _ _ _
  have HBC := fun w' h => bucket_any tb g n n e.H w' h hbk.pos hbk.few hH
  have hj := bk_lt e.H hbk.pos
  have cg := hbk.head _ hj
  have fg := hzg (bk e.H n)
  obtain ⟨v, hv⟩ : ∃ v, hd (cs (bk e.H n)) = .pointer v := by cases cs (bk e.H n) <;> exact ⟨_, rfl⟩
  have HV : Hid (hd (cs (bk e.H n)) = .pointer v) := hv
  have HFin : Hid (∀ w3, Wr [(e.b, 9), (g, bk e.H n)] w w3 → w3.cell? ⟨e.b, 9, none⟩ = some (.pointer v) → w3.cell? ⟨g, bk e.H n, none⟩ = some (.pointer (some ⟨e.b, 0, none⟩)) →
      Calls Tryz.prog 89 #[.pointer (some ⟨tb, 0, none⟩), .agg #[.int .i64 e.K, .int .u64 e.N, .string e.S, .int .i64 e.O]] w3 fun x w' => x = .returned (.tuple #[]) ∧
        (Wr [(e.b, 9), (g, bk e.H n), (c, bitN m e.K e.N / 64), (tb, 9)] w w' ∧ Bk w' g n (laidC cs (bk e.H n) e) es' ∧ Ct w' tb c m (cntW m W e.K e.N) (cntS m W s e.K e.N))) := by
    intro w3 k k9 kg
    have b3 : Bk w3 g n (laidC cs (bk e.H n) e) es' := hbk.lay hes hen hh hnew hb n2 k.off (by rw [hv]; exact k9) kg
    have c3 : Ct w3 tb c m W s := hct.wr k (by simp; omega) (by simp; omega) (by intro i; simp; omega)
    have t3 : Db w3 := fun j hj => k.cell (by simp; omega) (hT j hj)
    refine (count_any tb c m s W e.K e.N e.S e.O w3 hN c3 t3).mono ?_
    rintro x w' ⟨rfl, k2, ws, sz⟩
    refine ⟨rfl, (k.trans k2).more (by simp), b3.wr k2 (by intro j; simp; omega) ?_, ?_⟩
    · intro f hf o ho
      rcases (hes f).1 hf with rfl | hf
      · simp; omega
      · have := ha f hf; simp; omega
    · exact ⟨Nat.lt_of_lt_of_le c3.tlt k2.size, Nat.lt_of_lt_of_le c3.clt k2.size, c3.ne, c3.one, c3.few, k2.cell (by have := c3.ne; simp; omega) c3.row, sz, cntS_le c3.fit fun i hi => (ws i hi).1, ws, fun i => (k2.2.1 _ _ c3.clt).trans (c3.wfree i), (k2.2.1 _ _ c3.tlt).trans c3.sfree⟩
  rw [hv] at cg
  obtain ⟨e0, e1, e2, e3, _, _, _, _, e8⟩ := hen.1
  generalize bk e.H n = j at *
  clear hct hbk hT hh hes hnew hb ha hv hN hH hen
  go_enter Tryz.func79, Tryz.ntmps79
  go_wp2_with fail
  refine (HBC _ h7).mono ?_
  rintro x w1 ⟨rfl, rfl⟩
  clear HBC
  go_wp2_with fail
  have hce : ((w.setCell ⟨e.b, 9, none⟩ (.pointer v)).setCell ⟨g, j, none⟩ (.pointer (some ⟨e.b, 0, none⟩))).cell? ⟨e.b, 9, none⟩ = some (.pointer v) := by
    rw [World.cell?_setCell_other _ _ _ _ (by simp <;> omega)]
    exact World.cell?_setCell_same _ _ _ h9
  have hcg : ((w.setCell ⟨e.b, 9, none⟩ (.pointer v)).setCell ⟨g, j, none⟩ (.pointer (some ⟨e.b, 0, none⟩))).cell? ⟨g, j, none⟩ = some (.pointer (some ⟨e.b, 0, none⟩)) := by
    refine World.cell?_setCell_same _ _ _ (u := .pointer v) ?_
    rw [World.cell?_setCell_other _ _ _ _ (by simp <;> omega)]
    exact cg
  refine (HFin.out _ ((((Wr.set w e.b 9 _).trans (Wr.set _ g j _)).trans (Wr.drew _)).more (by simp)) hce hcg).mono ?_
  rintro x w' ⟨rfl, hq⟩
  have HQ : Hid (Wr [(e.b, 9), (g, j), (c, bitN m e.K e.N / 64), (tb, 9)] w w' ∧ Bk w' g n (laidC cs j e) es' ∧ Ct w' tb c m (cntW m W e.K e.N) (cntS m W s e.K e.N)) := hq
  clear hq hce hcg HFin
  go_wp2
  go_end0
  exact ⟨rfl, HQ.out⟩
end Go.Proofs.YthmocdabakkfhaaGreatDoor
