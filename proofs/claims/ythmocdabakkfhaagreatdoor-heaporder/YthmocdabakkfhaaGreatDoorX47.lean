/-
  HpOrd
-/
import Derived.Test.YthmocdabakkfhaaGreatDoorX46

/-
  Layer 9: how a table is gone through, by lists.
-/
namespace Go.Proofs.YthmocdabakkfhaaGreatDoor
set_option maxRecDepth 100000
open Go.RowKit Flo

theorem place_once {es : List En} (hn : es.Nodup) (ho : ∀ e ∈ es, ∀ f ∈ es, e.K = f.K → e.N = f.N → e.S = f.S → e.O = f.O → e = f) {i : Nat} {e : En} (he : es[i]? = some e) : placeM (es.map En.k4) e.k4 = some i := by
  have hi : i < es.length := by
    rcases Nat.lt_or_ge i es.length with q | q
    · exact q
    · rw [List.getElem?_eq_none q] at he; cases he
  have hei : es[i] = e := by rw [List.getElem?_eq_getElem hi] at he; exact Option.some.inj he
  unfold placeM
  rw [List.findIdx?_eq_some_iff_getElem]
  refine ⟨by rw [List.length_map]; exact hi, ?_, fun j hj => ?_⟩
  · rw [List.getElem_map, hei]
    exact isV_eq.2 rfl
  · rw [List.getElem_map]
    intro c
    have h1 := isV_eq.1 c
    have hjl : j < es.length := by omega
    have h2 : es[j] = e := ho _ (List.getElem_mem hjl) e (by rw [← hei]; exact List.getElem_mem hi) (congrArg V4.K h1) (congrArg V4.N h1) (congrArg V4.S h1) (congrArg V4.O h1)
    exact absurd (h2.trans hei.symm) (List.pairwise_iff_getElem.1 hn j i hjl hi hj)
/-- A key that a table holds is its own key, and stands at its place alone. -/
theorem LH.keys {w : World} {hb lim : Nat} {L : List Om} {Z : Nat → Prop} (h : LH w hb lim L Z) {o : Int} {m : Om} (hm : tabM L o = some m) : ∀ (i : Nat) k, m.ks[i]? = some k → kok k.K k.N = true ∧ keyV k = k ∧ placeM m.ks k = some i ∧ U64 k.N := by
  obtain ⟨used, R, os, hv, rfl⟩ := h
  obtain ⟨j, tb, x, -, -, hx, ht, rfl⟩ := tabM_some hv hm
  obtain ⟨-, htv, hko⟩ := (hv.ob j x hx).tab tb ht
  intro i k hk
  have hk' : (x.es.map En.k4)[i]? = some k := hk
  rw [List.getElem?_map] at hk'
  cases he : x.es[i]? with
  | none => rw [he] at hk'; cases hk'
  | some e =>
    rw [he] at hk'
    simp only [Option.map_some, Option.some.injEq] at hk'
    subst hk'
    have hmem := List.mem_of_getElem? he
    obtain ⟨k1, k2, k3, k4, k5⟩ := hko e hmem
    have hnd : x.es.Nodup := List.Pairwise.of_map En.b (fun a b q k => q (by rw [k])) htv.ord.once
    refine ⟨k1, ?_, ?_, htv.u64 e hmem⟩
    · show (⟨yK e.K e.N, yN e.K e.N, yS e.K e.N e.S, yO e.K e.N e.O⟩ : V4) = ⟨e.K, e.N, e.S, e.O⟩
      unfold yK yN yS yO
      rw [k1]
      simp only [if_true]
      rw [k2, k3, k4, k5]
    · rcases htv.bod with ⟨e0, _⟩ | ⟨g, n, c, mm, cs, W, s, t⟩
      · rw [e0] at hmem; cases hmem
      · exact place_once hnd t.kb.own he
theorem kok_nz {K N : Int} (h : kok K N = true) : ¬ nK K = 0 := by
  intro c
  unfold kok at h
  rw [c] at h
  simp at h
/-- The key ahead of the one numbered i. -/
def ahead (m : Om) : Nat → V4
  | 0 => V0
  | i + 1 => (m.ks[i]?).getD V0
theorem ahead_u64 {w : World} {hb lim : Nat} {L : List Om} {Z : Nat → Prop} (h : LH w hb lim L Z) {o : Int} {m : Om} (hm : tabM L o = some m) (i : Nat) : U64 (ahead m i).N := by
  cases i with
  | zero => show U64 0; unfold U64; omega
  | succ j =>
    show U64 ((m.ks[j]?).getD V0).N
    cases hj : m.ks[j]? with
    | none => show U64 0; unfold U64; omega
    | some k => exact (h.keys hm j k hj).2.2.2
theorem ahead_size {L : List Om} (h : Sk L) {o : Int} {m : Om} (hm : tabM L o = some m) (i : Nat) : (ahead m i).S.size ≤ 9223372036854775807 := by
  cases i with
  | zero => exact Nat.zero_le _
  | succ j =>
    show ((m.ks[j]?).getD V0).S.size ≤ _
    cases hj : m.ks[j]? with
    | none => exact Nat.zero_le _
    | some k => exact h.tab hm k (List.mem_of_getElem? hj)
theorem next_of {w : World} {hb lim : Nat} {L : List Om} {Z : Nat → Prop} (h : LH w hb lim L Z) {o : Int} {m : Om} (hm : tabM L o = some m) (i : Nat) (hi : i ≤ m.ks.length) : nextM L o (ahead m i) = ((m.ks[i]?).getD V0, (m.vs[i]?).getD V0, 0) := by
  unfold nextM
  rw [hm]
  simp only
  cases i with
  | zero =>
    show (if nK V0.K = 0 then _ else _) = _
    rw [if_pos (by decide)]
  | succ j =>
    have hj : j < m.ks.length := by omega
    obtain ⟨k1, k2, k3, -⟩ := h.keys hm j m.ks[j] (List.getElem?_eq_getElem hj)
    have e : ahead m (j + 1) = m.ks[j] := by show (m.ks[j]?).getD V0 = _; rw [List.getElem?_eq_getElem hj]; rfl
    rw [e, if_neg (kok_nz k1), if_pos k1, k2, k3]
theorem get_of {w : World} {hb lim : Nat} {L : List Om} {Z : Nat → Prop} (h : LH w hb lim L Z) {o : Int} {m : Om} (hm : tabM L o = some m) {i : Nat} {k : V4} (hi : m.ks[i]? = some k) : getVal L o k = (m.vs[i]?).getD V0 := by
  obtain ⟨k1, k2, k3, -⟩ := h.keys hm i k hi
  unfold getVal
  rw [hm]
  simp only
  rw [if_pos k1, k2, k3]

end Go.Proofs.YthmocdabakkfhaaGreatDoor
