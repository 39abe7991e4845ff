/-
  HpIn, HpRow, HpClose2
-/
import Derived.Deep.AppendLies
import Derived.ChangeSlices
import Derived.Test.YtjkedocppbcncaaDoorY24

/-
  Layer 9: a row of numbers of one's own; the law's in.
-/
namespace Go.Proofs.YtjkedocppbcncaaDoor
set_option maxRecDepth 100000
open Go.RowKit Flo

/-- The slice v, in a block not below B that is all its own, holds the numbers l. -/
def HR (w : World) (B : Nat) (v : Value) (l : List Int) : Prop := w.ownsRow B 3 1 v l.length (l.map fun z => .int .i64 z)
theorem HR.wx {w w' : World} {B : Nat} {v : Value} {l : List Int} {X : Nat → Prop} (h : HR w B v l) (k : Wx X w w') (hX : ∀ g, v.ownBlock = some g → ¬ X g) : HR w' B v l :=
  rowStay h (fun g hg => k.block g (World.ownsRow.lt h g hg).2 (hX g hg))
theorem HR.below {w w' : World} {B : Nat} {v : Value} {l : List Int} (h : HR w B v l) (k : Below w.heap.size w w') : HR w' B v l := h.wx (Wx.of_below (fun _ => False) k) (fun _ _ c => c)
theorem HR.form {w : World} {B : Nat} {v : Value} {l : List Int} (h : HR w B v l) : ∃ a cap, v = .slice a l.length cap ∧ (0 < l.length → ∃ g, a = some ⟨g, 0, none⟩ ∧ g < w.heap.size ∧ ∀ j (hj : j < l.length), w.cell? ⟨g, j, none⟩ = some (.int .i64 l[j])) := by
  rcases rowForm h with ⟨e, e0⟩ | ⟨g, cap, e, hg⟩
  · exact ⟨none, 0, by rw [e, e0], fun c => by omega⟩
  · refine ⟨_, cap, e, fun _ => ⟨g, rfl, hg, fun j hj => ?_⟩⟩
    have h2 : w.ownsRow B 3 1 (.slice (some ⟨g, 0, none⟩) l.length cap) l.length (l.map fun z => .int .i64 z) := by rw [← e]; exact h
    rw [h2.cellAt j (by omega), List.getElem?_map, List.getElem?_eq_getElem hj]
    rfl

theorem take_mem (l : List Int) (x : Int) (k : Nat) (hk : k < l.length) : x ∈ l.take (k + 1) ↔ (x ∈ l.take k ∨ x = l[k]) := by
  rw [List.take_succ_eq_append_getElem hk, List.mem_append, List.mem_singleton]

set_option maxHeartbeats 1000000 in
theorem in_any (B : Nat) (v : Value) (l : List Int) (x : Int) (w : World) (h : HR w B v l) (hl : l.length ≤ 1000000) :
    Calls Tryd.prog 14 #[v, .int .i64 x] w fun e w' => e = .returned (.bool (decide (x ∈ l))) ∧ w' = w := by
  obtain ⟨a, cap, rfl, hf⟩ := h.form
  have HF : Hid (0 < l.length → ∃ g, a = some ⟨g, 0, none⟩ ∧ g < w.heap.size ∧ ∀ j (hj : j < l.length), w.cell? ⟨g, j, none⟩ = some (.int .i64 l[j])) := hf
  clear h hf
  obtain ⟨D, hD⟩ : ∃ D, D = decide (x ∈ l) := ⟨_, rfl⟩
  have HD : Hid (D = decide (x ∈ l)) := hD
  rw [← hD]
  clear hD
  obtain ⟨n, hn⟩ : ∃ n, n = l.length := ⟨_, rfl⟩
  have HN : Hid (n = l.length) := hn
  rw [← hn] at hl ⊢
  clear hn
  go_enter Tryd.func14, Tryd.ntmps14
  go_wp2
  go_loop [5] (fun i => ∃ k : Nat, k ≤ n ∧ i = .int .i64 (k : Int) ∧ Hid (x ∉ l.take k)) (fun i => n - (intOf i).toNat)
  case atStart => exact ⟨0, Nat.zero_le _, rfl, by show x ∉ l.take 0; simp⟩
  case round =>
    obtain ⟨k, hk, rfl, HX⟩ := hrel
    by_cases c : k < n
    · obtain ⟨g, rfl, hg, hc⟩ := HF.out (by rw [← HN.out]; omega)
      have hkl : k < l.length := by rw [← HN.out]; exact c
      have hck := hc k hkl
      obtain ⟨z, hz⟩ : ∃ z, z = l[k] := ⟨_, rfl⟩
      rw [← hz] at hck
      have HZ : Hid (z = l[k]) := hz
      clear hc hz
      by_cases d : z = x
      · have HE : Hid (D = true) := by
          show D = true
          rw [HD.out]
          exact decide_eq_true (by rw [← d, HZ.out]; exact List.getElem_mem hkl)
        subst d
        go_wp2
        go_ret
        exact ⟨by rw [HE.out]; rfl, rfl⟩
      · go_wp2
        go_round
        case rel =>
          refine ⟨k + 1, by omega, by go_num, ?_⟩
          show x ∉ l.take (k + 1)
          rw [take_mem l x k hkl]
          rintro (q | q)
          · exact HX.out q
          · exact d (by rw [HZ.out, q])
        case measure => simp [intOf]; omega
    · have HE : Hid (D = false) := by
        show D = false
        rw [HD.out]
        refine decide_eq_false fun q => HX.out ?_
        rw [List.take_of_length_le (by rw [← HN.out]; omega)]
        exact q
      go_wp2
      go_ret
      exact ⟨by rw [HE.out]; rfl, rfl⟩

end Go.Proofs.YtjkedocppbcncaaDoor

/-
  Layer 9: rows of small numbers that came in; a number laid behind a row of one's own.
-/
namespace Go.Proofs.YtjkedocppbcncaaDoor
set_option maxRecDepth 100000
open Go.RowKit Flo

/-- The slice v reads as the numbers ks of 16 bits. -/
structure I16 (w : World) (v : Value) (ks : List Int) : Prop where
  form : ∃ a cap, v = .slice a ks.length cap ∧ (0 < ks.length → ∃ xa : Addr, a = some xa ∧ xa.block < w.heap.size ∧ ∀ j (hj : j < ks.length), w.cell? (xa.add j) = some (.int .i16 ks[j]))
  len : ks.length ≤ 9223372036854775807
  fit : ∀ k ∈ ks, -32768 ≤ k ∧ k ≤ 32767
theorem add_blk (x : Addr) (i : Nat) {B : Nat} (h : x.block < B) : (x.add i).block < B := by
  unfold Addr.add
  split <;> exact h
theorem Wx.of_grown {w w' : World} {row : Option Nat} (h : w.grownBy w' row) : Wx (fun k => row = some k) w w' := ⟨h.os, h.tape, h.output, h.size, fun k hk hx => h.block k hk (fun e => hx e.symm)⟩
theorem infoInt : (Tryd.prog.info? 3).map (fun i => (i.zero, i.size, i.bytes)) = some (some (.int .i64 0), 1, 8) := by kernel_rfl

/-- A heap with one table, and a row of numbers beside it. -/
structure Bs (w0 w : World) (hb B u : Nat) (v : Value) (has : List Int) (Z : Nat → Prop) : Prop where
  nt : NT w hb B u has Z
  row : HR w B v has
  far : ∀ g, v.ownBlock = some g → ¬ Z g
  low : Below B w0 w
  two : 1 < B
theorem Bs.below {w0 w w' : World} {hb B u : Nat} {v : Value} {has : List Int} {Z : Nat → Prop} (h : Bs w0 w hb B u v has Z) (k : Below w.heap.size w w') : Bs w0 w' hb B u v has Z :=
  ⟨h.nt.below k, h.row.below k, h.far, h.low.trans (k.mono (by have := h.nt.le; omega)), h.two⟩
/-- Behind a Set. -/
theorem Bs.set {w0 w w' : World} {hb B u : Nat} {v : Value} {has : List Int} {Z Z' : Nat → Prop} (h : Bs w0 w hb B u v has Z) (hx : Wx Z w w') (hz : ∀ j, Z' j → Z j ∨ w.heap.size ≤ j) :
    HR w' B v has ∧ (∀ g, v.ownBlock = some g → ¬ Z' g) ∧ Below B w0 w' := by
  refine ⟨h.row.wx hx h.far, fun g hg c => ?_, ?_⟩
  · rcases hz g c with q | q
    · exact h.far g hg q
    · have := (World.ownsRow.lt h.row g hg).2; omega
  · obtain ⟨used, R, x, tb, h1, h2, h3, h4, h5⟩ := h.nt
    exact h.low.trans (hx.below h5 (by have := h.nt.le; omega))
/-- Behind an append. -/
theorem Bs.append {w0 w w' : World} {hb B u : Nat} {v : Value} {has has' : List Int} {Z : Nat → Prop} {z : Int} {g cap : Nat} (hn : NT w hb B u has' Z) (hr : HR w B v has) (hf : ∀ g, v.ownBlock = some g → ¬ Z g) (hl : Below B w0 w) (two : 1 < B)
    (ho : w'.ownsRow B 3 1 (.slice (some ⟨g, 0, none⟩) (has.length + 1) cap) (has.length + 1) ((has.map fun z => .int .i64 z) ++ [.int .i64 z])) (hg : w.grownBy w' v.ownBlock) (hgg : v.ownBlock = some g ∨ g = w.heap.size) :
    NT w' hb B u has' Z ∧ HR w' B (.slice (some ⟨g, 0, none⟩) (has.length + 1) cap) (has ++ [z]) ∧ (∀ k, (Value.slice (some ⟨g, 0, none⟩) (has.length + 1) cap).ownBlock = some k → ¬ Z k) ∧ Below B w0 w' := by
  have hx := Wx.of_grown hg
  have hrl : ∀ k, v.ownBlock = some k → B ≤ k ∧ k < w.heap.size := fun k hk => World.ownsRow.lt hr k hk
  refine ⟨hn.wx hx (fun i hi c => hf i c hi) (fun c => by have := (hrl 1 c).1; omega), ?_, fun k hk c => ?_, hl.trans (hx.below (fun k hk => (hrl k hk).1) (by have := hn.le; omega))⟩
  · unfold HR
    rw [List.length_append, List.length_singleton, List.map_append]
    exact ho
  · have e : g = k := by simpa [Value.ownBlock] using hk
    subst e
    rcases hgg with q | q
    · exact hf g q c
    · obtain ⟨used, R, x, tb, h1, h2, h3, h4, h5⟩ := hn
      have := h2.lt g c
      omega

end Go.Proofs.YtjkedocppbcncaaDoor

/-
  What the rows' readings give the walk of HeapSizes: rows of small numbers that came in.
-/
namespace Go.Proofs.YtjkedocppbcncaaDoor
set_option maxRecDepth 100000
open Go.ChangeShapes Go.WideShapes Go.ChangeAt Go.RowKit Flo

/-- Numbers of 16 bits that came in. -/
theorem open_i16s {H : Type} {enc : TypeId × Value → H} {W : World} {base : Nat} {v : Value} {d : DataW H} {p : List MemPlace}
    (hval : Value.okWide Tryd.prog W .any base 41 v) (h0 : DataW.Trod enc Tryd.prog W 0 (fun _ => true) true 41 v d p) : ∃ ks, I16 W v ks := by
  obtain ⟨a, len, cap, rfl⟩ := okWide_slice Tryd.underlying41 hval
  obtain ⟨fuel, hf⟩ := h0
  rcases open_ints Tryd.underlying41 Tryd.underlying47 (by kernel_rfl) hf with ⟨hcs, hx⟩ | ⟨x, n, c, zs, hcs, _, hl, hm, hz, hx, hcell, hwz⟩
  · simp [Value.cells] at hcs
    obtain ⟨rfl, rfl, rfl⟩ := hcs
    exact ⟨[], ⟨none, 0, rfl, fun c => by simp at c⟩, by simp, fun k hk => by cases hk⟩
  · simp [Value.cells] at hcs
    obtain ⟨rfl, rfl, rfl⟩ := hcs
    have hz' : zs.length = cap := by simpa using hz
    have hlen : (zs.take len).length = len := by rw [List.length_take]; omega
    refine ⟨zs.take len, ⟨some x, cap, by rw [hlen], fun c => ⟨x, rfl, ?_, fun j hj => ?_⟩⟩, by rw [hlen]; unfold maxLen at hm; omega, fun k hk => bounds_i16 (hwz k (List.mem_of_mem_take hk))⟩
    · have h2 : 0 < zs.length := by rw [hlen] at c; omega
      have := World.block_lt_of_cell? W _ (hcell 0 h2)
      exact this
    · rw [hlen] at hj
      have hi2 : j < zs.length := by omega
      rw [hcell j hi2, List.getD_eq_getElem?_getD, List.getElem?_eq_getElem hi2]
      simp

end Go.Proofs.YtjkedocppbcncaaDoor
