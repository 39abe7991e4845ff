/-
  Layer 7: a text's bytes, laid behind others.
-/
import Derived.Test.YtcblknghkgihcaaDoorCdShort2
import Derived.Lib.AppendStr
import Derived.Deep.RegionLaw
namespace Go.Proofs.YtcblknghkgihcaaDoor
set_option maxRecDepth 100000
open Go.RowKit Crc

/-- A text's bytes. -/
def tx (s : ByteArray) : List Nat := s.data.toList.map UInt8.toNat

theorem tx_length (s : ByteArray) : (tx s).length = s.size := by unfold tx; simp
theorem tx_sm (s : ByteArray) : Sm8 (tx s) := by
  intro d hd
  unfold tx at hd
  obtain ⟨b, _, rfl⟩ := List.mem_map.mp hd
  exact b.toNat_lt
theorem tx_cells (s : ByteArray) : Lib.strCells s = c8 (tx s) := by unfold Lib.strCells c8 tx; simp

theorem run_append_text {P : Program} (w : World) (base : Nat) (t u ty e : TypeId) (i : TypeInfo) (ht : P.underlying t = some (.slice e)) (hu : P.underlying u = some .string) (hi : P.info? e = some i) (hz : i.zero = some (.int .u8 0))
    (hsize : i.size = 1) (hby : i.bytes = 1) (v : Value) (n : Nat) (xs : List Value) (hown : w.ownsRow base e 1 v n xs) (s : ByteArray) (h63 : n + s.size ≤ maxLen) (hbytes : n + s.size ≤ 140737488355328) (hbase : base ≤ w.heap.size) :
    ∃ v' w', (Builtin.append_ #[t, u] ty #[v, .string s]).run P w = .ok v' w' ∧ w'.ownsRow base e 1 v' (n + s.size) (xs ++ Lib.strCells s) ∧ w.grownBy w' v.ownBlock ∧ (∀ k, v'.ownBlock = some k → v.ownBlock = some k ∨ k = w.heap.size) := by
  obtain ⟨v', w', hr, h2, h3, h4⟩ := Lib.run_append_own_string (P := P) w base t u ty e i ht hu hi hz hsize hby v n xs hown s h63 hbytes hbase
  refine ⟨v', w', hr, h2, h3, ?_⟩
  intro k hk
  have hsm : n + s.size ≤ 9223372036854775807 := by simp only [maxLen] at h63; omega
  have hxl : xs.length = n := by simpa using hown.1
  rcases hown.2 with ⟨e1, e2⟩ | ⟨g, cap, cur, e1, hbg, hg, hnc, hcm, hcs, htake⟩
  · subst e1 e2
    by_cases hm : s.size = 0
    · have := h4.mpr ⟨rfl, hm⟩
      subst this
      simp [Value.ownBlock] at hk
    · have hr2 := run_append_nil_string (P := P) w t u ty e i (.int .u8 0) ht hu hi hz s (by omega) (by omega) (by rw [hby]; omega)
      rw [hr2] at hr
      injection hr with e1 e2
      subst e1
      simp [Value.ownBlock] at hk
      exact Or.inr hk.symm
  · subst e1
    by_cases hroom : n + s.size ≤ cap
    · have hcs' : cur.size = cap := by simpa using hcs
      have hr2 := Lib.run_append_room_string (P := P) w t u ty e i ht hu hi hsize g n cap cur hg s hroom (by omega)
      rw [hr2] at hr
      injection hr with e1 e2
      subst e1
      exact Or.inl hk
    · have hr2 := Lib.run_append_grow_string (P := P) w t u ty e i (.int .u8 0) ht hu hi hz ⟨g, 0, none⟩ n cap xs (by rw [hsize]; simpa using hxl) (hown.cells (g := g) rfl) s (by omega) (by omega) (by rw [hby]; exact growslice_fits (by omega) (by omega))
      rw [hr2] at hr
      injection hr with e1 e2
      subst e1
      simp [Value.ownBlock] at hk
      exact Or.inr hk.symm

theorem step_append_text {P : Program} {ops : Array Oper} {o : Oper} {a : Act} {w : World} {K : Act → World → Prop} {Q : Exit → Act → World → Prop} {E : Prop} (hgd : o.guard = none) (sl x : Operand) (t u : TypeId)
    (ho : o.op = .call { callee := .builtin .append, args := #[sl, x], argTypes := #[t, u] })
    (base : Nat) (e : TypeId) (i : TypeInfo) (ht : P.underlying t = some (.slice e)) (hu : P.underlying u = some .string) (hi : P.info? e = some i) (hz : i.zero = some (.int .u8 0))
    (hsize : i.size = 1) (hby : i.bytes = 1)
    (v : Value) (n : Nat) (xs : List Value) (hs : a.eval sl = v) (hown : w.ownsRow base e 1 v n xs) (s : ByteArray) (hx : a.eval x = .string s)
    (h63 : n + s.size ≤ maxLen) (hbytes : n + s.size ≤ 140737488355328) (hbase : base ≤ w.heap.size)
    (h : ∀ v' w', w'.ownsRow base e 1 v' (n + s.size) (xs ++ Lib.strCells s) → w.grownBy w' v.ownBlock → (∀ k, v'.ownBlock = some k → v.ownBlock = some k ∨ k = w.heap.size) → K (a.put o.dst v') w') :
    if Region.wanted o (yielded ops a.tmps) = true then Oper.wp P o a w K Q else E := by
  have hw : Region.wanted o (yielded ops a.tmps) = true := by simp [Region.wanted, hgd]
  rw [if_pos hw]
  obtain ⟨v', w', hr, h2, h3, h4⟩ := run_append_text (P := P) w base t u o.type e i ht hu hi hz hsize hby v n xs hown s h63 hbytes hbase
  unfold Oper.wp
  simp [execOp, ho, resolve, invoke, builtin, hs, hx, hr, Result.andThen]
  exact h v' w' h2 h3 h4

/-- What is laid behind and then noted in the writer's block is the writer's again. -/
theorem WR.more {w w2 : World} {b B : Nat} {v v' : Value} {l m : List Nat} (h : WR w b B v l) (hm : Sm8 m)
    (hown : w2.ownsRow B 5 1 v' (l.length + m.length) (c8 l ++ c8 m)) (hgrow : w.grownBy w2 v.ownBlock) (hat : ∀ k, v'.ownBlock = some k → v.ownBlock = some k ∨ k = w.heap.size) :
    w2.cell? ⟨b, 0, none⟩ = some v ∧ w2.frozen? ⟨b, 0, none⟩ = false ∧ WR (w2.setCell ⟨b, 0, none⟩ v') b B v' (l ++ m) ∧ Kept b v v' w (w2.setCell ⟨b, 0, none⟩ v') := by
  have hlt := h.lt
  have hlo := h.lo
  have hbb : w2.heap[b]? = w.heap[b]? := hgrow.block b hlt (fun e => h.ne b e.symm rfl)
  have hc2 : w2.cell? ⟨b, 0, none⟩ = some v := by
    have := h.c
    unfold World.cell? at this ⊢
    simpa [hbb] using this
  have hf2 : ∀ i, w2.frozen? ⟨b, i, none⟩ = false := by
    intro i
    have := h.fz i
    unfold World.frozen? at this ⊢
    simpa [hbb] using this
  have hsz := hgrow.size
  have hb2 : Below B w w2 := (Below.refl B w).grown hgrow (by omega) (fun k hk => (h.ow.2.lt k hk).1)
  have hne : ∀ k, v'.ownBlock = some k → k ≠ b := by
    intro k hk e
    rcases hat k hk with e1 | e1
    · exact h.ne k e1 e
    · omega
  refine ⟨hc2, hf2 0, ⟨World.cell?_setCell_same _ _ _ hc2, fun i => by rw [World.frozen?_setCell]; exact hf2 i, ⟨h.ow.1.append hm, ?_⟩, hlo, by rw [World.size_setCell]; omega, hne⟩, ?_⟩
  rotate_left
  · refine ⟨hb2.os, hb2.tape, hb2.output, by rw [World.size_setCell]; omega, fun k hk hb hv => ?_, fun k hk => ?_⟩
    · rw [heap_setCell_other _ _ _ _ hb, hgrow.block k hk (fun e => hv e.symm)]
    · rcases hat k hk with e | e
      · exact Or.inl e
      · exact Or.inr (by omega)
  rw [c8_append, List.length_append]
  cases e : v'.ownBlock with
  | none =>
    obtain ⟨l1, l2⟩ := hown
    refine ⟨l1, ?_⟩
    rcases l2 with l2 | ⟨g, cap, cur, rfl, _⟩
    · exact Or.inl l2
    · simp [Value.ownBlock] at e
  | some g0 => exact ownsRow_far hown (heap_setCell_other _ _ _ _ (hne g0 e)) e

end Go.Proofs.YtcblknghkgihcaaDoor
