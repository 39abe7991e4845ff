/-
  Layer 13: a strings.Builder: what it writes, and what else it leaves as it was.
-/
import Derived.Test.YtcblknghkgihcaaDoorPgKb
import Derived.Test.YtcblknghkgihcaaDoorTxtMath
import Derived.Test.YtcblknghkgihcaaDoorCdText
import Derived.Test.YtcblknghkgihcaaDoorShelf
import Derived.Shelf.Strings.Builder1
import Derived.Lib.AppendIntMem
namespace Go.Proofs.YtcblknghkgihcaaDoor
set_option maxRecDepth 100000
open Go.RowKit Txt

namespace Pg
/-- A builder in the block b that holds the bytes l; its buffer lies in the block g, if it has one. -/
def BdP (p : Value) (w : World) (B b : Nat) (g : Option Nat) (l : List UInt8) : Prop :=
  B ≤ b ∧ ∃ v, w.heap[b]? = some (.cells #[p, v] 81 (0, 0)) ∧ w.ownsRow B 5 1 v l.length (Lib.byteCells l) ∧ v.ownBlock = g ∧ g ≠ some b
def Bd (w : World) (B b : Nat) (g : Option Nat) (l : List UInt8) : Prop := BdP (.pointer none) w B b g l ∨ BdP (.pointer (some ⟨b, 0, none⟩)) w B b g l
/-- Nothing that was there is written but the block b, and g. -/
structure Kg (b : Nat) (g : Option Nat) (w w' : World) : Prop where
  os : w'.os = w.os
  tape : w'.tape = w.tape
  output : w'.output = w.output
  size : w.heap.size ≤ w'.heap.size
  block : ∀ k, k < w.heap.size → k ≠ b → some k ≠ g → w'.heap[k]? = w.heap[k]?
theorem Kg.refl (b : Nat) (g : Option Nat) (w : World) : Kg b g w w := ⟨rfl, rfl, rfl, Nat.le_refl _, fun _ _ _ _ => rfl⟩
theorem Kg.of_below {b : Nat} {g : Option Nat} {w w' : World} (h : Below w.heap.size w w') : Kg b g w w' := ⟨h.os, h.tape, h.output, h.size, fun k hk _ _ => h.block k hk⟩
theorem Kg.trans {b : Nat} {g g' : Option Nat} {x y z : World} (h : Kg b g x y) (k : Kg b g' y z) (hg : g' = g ∨ ∀ j, g' = some j → x.heap.size ≤ j) : Kg b g x z :=
  ⟨k.os.trans h.os, k.tape.trans h.tape, k.output.trans h.output, Nat.le_trans h.size k.size, fun i hi hb hn => (k.block i (Nat.lt_of_lt_of_le hi h.size) hb (by
    rcases hg with rfl | hg
    · exact hn
    · intro e
      have := hg i e.symm
      omega)).trans (h.block i hi hb hn)⟩
/-- Where the buffer lies behind more writing: where it lay, or in a new block. -/
def Moved (w : World) (g g' : Option Nat) : Prop := g' = g ∨ ∀ j, g' = some j → w.heap.size ≤ j
theorem Moved.refl (w : World) (g : Option Nat) : Moved w g g := Or.inl rfl
theorem Moved.trans {w w' : World} {g g' g'' : Option Nat} (h : Moved w g g') (k : Moved w' g' g'') (hs : w.heap.size ≤ w'.heap.size) : Moved w g g'' := by
  rcases k with rfl | k
  · exact h
  · exact Or.inr fun j hj => Nat.le_trans hs (k j hj)
theorem Kg.cell {b : Nat} {g : Option Nat} {k j : Nat} {w w' : World} (h : Kg b g w w') (hk : k < w.heap.size) (hn : k ≠ b) (hg : some k ≠ g) {v : Value} (hv : w.cell? ⟨k, j, none⟩ = some v) : w'.cell? ⟨k, j, none⟩ = some v :=
  (World.cell?_of_block (w := w) (a := ⟨k, j, none⟩) (h.block k hk hn hg)).trans hv
theorem Bd.lt {w : World} {B b : Nat} {g : Option Nat} {l : List UInt8} (h : Bd w B b g l) : b < w.heap.size := by
  have : ∃ x, w.heap[b]? = some x := by
    rcases h with ⟨_, v, e, _⟩ | ⟨_, v, e, _⟩
    · exact ⟨_, e⟩
    · exact ⟨_, e⟩
  obtain ⟨x, hx⟩ := this
  rcases Nat.lt_or_ge b w.heap.size with h' | h'
  · exact h'
  · simp [Array.getElem?_eq_none h'] at hx
theorem BdP.kept {p : Value} {w w' : World} {B b : Nat} {g : Option Nat} {l : List UInt8} (h : BdP p w B b g l) (e : Below w.heap.size w w') : BdP p w' B b g l := by
  obtain ⟨hB, v, h1, h2, h3, h4⟩ := h
  have hlt : b < w.heap.size := by
    rcases Nat.lt_or_ge b w.heap.size with h' | h'
    · exact h'
    · simp [Array.getElem?_eq_none h'] at h1
  refine ⟨hB, v, (e.block b hlt).trans h1, ?_, h3, h4⟩
  exact h2.kept (row := none) ⟨e.os, e.tape, e.output, e.size, fun k hk _ => e.block k hk⟩ (by cases hv : v.ownBlock <;> simp)
theorem Bd.kept {w w' : World} {B b : Nat} {g : Option Nat} {l : List UInt8} (h : Bd w B b g l) (e : Below w.heap.size w w') : Bd w' B b g l :=
  h.elim (fun x => Or.inl (x.kept e)) (fun x => Or.inr (x.kept e))
theorem Bd.is {w : World} {B b : Nat} {g : Option Nat} {l : List UInt8} (h : Bd w B b g l) : Lib.IsBuilder 81 5 B b (Lib.byteCells l) w := by
  have key : ∀ p, BdP p w B b g l → Lib.BuilderAt 81 5 B b p (Lib.byteCells l) w := by
    rintro p ⟨hB, v, h1, h2, h3, h4⟩
    exact ⟨hB, v, h1, by rw [Lib.byteCells_length]; exact h2, by rw [h3]; exact h4⟩
  exact h.elim (fun x => Or.inl (key _ x)) (fun x => Or.inr (key _ x))
/-- Where the buffer of a builder lies. -/
theorem Bd.at {w : World} {B b : Nat} {g : Option Nat} {l : List UInt8} (h : Bd w B b g l) : g ≠ some b ∧ ∀ k, g = some k → B ≤ k ∧ k < w.heap.size := by
  rcases h with ⟨_, v, _, h2, h3, h4⟩ | ⟨_, v, _, h2, h3, h4⟩
  · exact ⟨h4, fun k hk => h2.lt k (h3.trans hk)⟩
  · exact ⟨h4, fun k hk => h2.lt k (h3.trans hk)⟩
end Pg
open Pg

theorem infoB : (Tryd.prog.info? 81).map (·.size) = some 2 := by kernel_rfl
theorem liesB : liesAt Tryd.prog Tryd.prog.depth 81 (2 / Tryd.prog.cellsOf 81) 0 81 1 = true := by kernel_rfl

set_option maxHeartbeats 1000000 in
theorem copyCheck_used (b : Nat) (w : World) (h0 : w.cell? ⟨b, 0, none⟩ = some (.pointer (some ⟨b, 0, none⟩))) :
    Calls Tryd.prog 76 #[.pointer (some ⟨b, 0, none⟩)] w fun e w' => e = .returned (.tuple #[]) ∧ w' = w := by
  obtain ⟨j, hj, _⟩ := Option.map_eq_some_iff.1 infoB
  go_enter Tryd.func76, Tryd.ntmps76
  go_wp2
  rw [Lib.run_neq_ptr_same w _ Tryd.underlying78 hj]
  go_wp2
  go_end0
  exact ⟨rfl, rfl⟩

set_option maxHeartbeats 1000000 in
theorem copyCheck_fresh (b : Nat) (w : World) (h0 : w.cell? ⟨b, 0, none⟩ = some (.pointer none)) (hsh : w.shape? b = some (81, 2)) (hfz : w.frozen? ⟨b, 0, none⟩ = false) :
    Calls Tryd.prog 76 #[.pointer (some ⟨b, 0, none⟩)] w fun e w' => e = .returned (.tuple #[]) ∧ w' = w.setCell ⟨b, 0, none⟩ (.pointer (some ⟨b, 0, none⟩)) := by
  obtain ⟨j, hj, hjs⟩ := Option.map_eq_some_iff.1 infoB
  go_enter Tryd.func76, Tryd.ntmps76
  go_wp2
  rw [Lib.run_to_unsafe w ⟨b, 0, none⟩ Tryd.underlying78 Tryd.underlying137 hj (by rw [hjs]; decide) hsh (Nat.zero_lt_succ 1)]
  simp only [Result.andThen]
  rw [Oper.upon_value]
  go_wp2
  rw [run_callFunc_extern Tryd.func85 (by kernel_rfl) (by kernel_rfl) (by kernel_rfl) (e := Extern.AbiNoEscape.same) (by kernel_rfl)]
  rw [Lib.run_noEscape]
  simp only [Result.andThen]
  rw [Oper.upon_value]
  go_wp2
  rw [Lib.run_from_unsafe w ⟨b, 0, none⟩ Tryd.underlying137 Tryd.underlying78 hj hsh liesB]
  simp only [Result.andThen]
  rw [Oper.upon_value]
  go_wp2
  go_end0
  exact ⟨rfl, rfl⟩

theorem copyCheck_any (B b : Nat) (g : Option Nat) (l : List UInt8) (w : World) (h : Bd w B b g l) :
    Calls Tryd.prog 76 #[.pointer (some ⟨b, 0, none⟩)] w fun e w' => e = .returned (.tuple #[]) ∧ BdP (.pointer (some ⟨b, 0, none⟩)) w' B b g l ∧ Kb b w w' := by
  rcases h with ⟨hB, v, h1, h2, h3, h4⟩ | h
  · have c0 : w.cell? ⟨b, 0, none⟩ = some (.pointer none) := by rw [Lib.cell_of_heap h1]; rfl
    have hs : w.shape? b = some (81, 2) := by simp [World.shape?, h1]
    refine (copyCheck_fresh b w c0 hs (Lib.frozen_of_heap h1 0)).mono ?_
    rintro e w' ⟨rfl, rfl⟩
    refine ⟨rfl, ⟨hB, v, ?_, ?_, h3, h4⟩, Kb.set _ _ _ _⟩
    · simp [World.setCell, Array.getElem?_modify, h1]
    · refine h2.kept (row := some b) ⟨rfl, rfl, rfl, by simp [World.setCell], fun k _ hk => Below.heap_setCell _ _ _ _ (fun e => hk (by simp [e]))⟩ ?_
      exact Or.inr (by rw [h3]; exact h4)
  · obtain ⟨hB, v, h1, h2, h3, h4⟩ := h
    have c0 : w.cell? ⟨b, 0, none⟩ = some (.pointer (some ⟨b, 0, none⟩)) := by rw [Lib.cell_of_heap h1]; rfl
    refine (copyCheck_used b w c0).mono ?_
    rintro e w' ⟨rfl, rfl⟩
    exact ⟨rfl, ⟨hB, v, h1, h2, h3, h4⟩, Kb.refl _ _⟩

theorem wpList_append_text {P : Program} {w : World} {ops : Array Oper} {rest : List Oper} {o : Oper} {a : Act} {Q : Exit → Act → World → Prop} (hgd : o.guard = none) (sl x : Operand) (t u : TypeId)
    (ho : o.op = .call { callee := .builtin .append, args := #[sl, x], argTypes := #[t, u] })
    (base : Nat) (e : TypeId) (i : TypeInfo) (ht : P.underlying t = some (.slice e)) (hu : P.underlying u = some .string) (hi : P.info? e = some i) (hz : i.zero = some (.int .u8 0))
    (hsize : i.size = 1) (hby : i.bytes = 1)
    (v : Value) (n : Nat) (xs : List Value) (hs : a.eval sl = v) (hown : w.ownsRow base e 1 v n xs) (s : ByteArray) (hx : a.eval x = .string s)
    (h63 : n + s.size ≤ maxLen) (hbytes : n + s.size ≤ 140737488355328) (hbase : base ≤ w.heap.size)
    (h : ∀ v' w', w'.ownsRow base e 1 v' (n + s.size) (xs ++ Lib.strCells s) → w.grownBy w' v.ownBlock → (∀ k, v'.ownBlock = some k → v.ownBlock = some k ∨ k = w.heap.size) → wpList P ops Q rest (a.put o.dst v') w') : wpList P ops Q (o :: rest) a w := by
  refine wpList_plain hgd fun K hK => ?_
  obtain ⟨v', w', hr, h2, h3, h4⟩ := run_append_text (P := P) w base t u o.type e i ht hu hi hz hsize hby v n xs hown s h63 hbytes hbase
  unfold Oper.wp execOp
  simp only [ho, resolve, invoke, builtin, Sem.run_bind, Sem.run_pure, Result.andThen_ok, List.map_toArray, List.map_cons, List.map_nil, hs, hx, hr]
  exact hK _ _ (h v' w' h2 h3 h4)

set_option maxHeartbeats 2000000 in
theorem wstring_any (B b : Nat) (g : Option Nat) (l s : List UInt8) (w : World) (h : Bd w B b g l) (hBw : B ≤ w.heap.size) (hlen : l.length + s.length ≤ 140737488355328) :
    Calls Tryd.prog 66 #[.pointer (some ⟨b, 0, none⟩), .string (bs s)] w fun e w' => e = .returned (.tuple #[.int .i64 s.length, .nilIface]) ∧ ∃ g', Bd w' B b g' (l ++ s) ∧ Moved w g g' ∧ Kg b g w w' := by
  obtain ⟨i0, hi, hz0, hz1, hz2⟩ := info_parts info8
  have hlt := h.lt
  have hcc := copyCheck_any B b g l w h
  have hss := bs_size s
  have HSC : Hid (Lib.strCells (bs s) = Lib.byteCells s) := by show _ = _; rw [Lib.strCells_eq]; rfl
  generalize bs s = S at *
  go_enter Tryd.func66, Tryd.ntmps66
  go_wp2_with fail
  refine hcc.mono ?_
  rintro e w1 ⟨rfl, ⟨hB, v, hbk, hown, hvg, hne⟩, hk1⟩
  have c0 : w1.cell? ⟨b, 0, none⟩ = some (.pointer (some ⟨b, 0, none⟩)) := by rw [Lib.cell_of_heap hbk]; rfl
  have c1 : w1.cell? ⟨b, 1, none⟩ = some v := by rw [Lib.cell_of_heap hbk]; rfl
  have hlt1 : b < w1.heap.size := Nat.lt_of_lt_of_le hlt hk1.size
  have hb1 := hk1.size
  have HH : Hid (w1.heap[b]? = some (.cells #[.pointer (some ⟨b, 0, none⟩), v] 81 (0, 0))) := hbk
  have HVG : Hid (v.ownBlock = g) := hvg
  have HK1 : Hid (Kb b w w1) := hk1
  clear hcc hbk h hvg hk1
  go_wp2_with (at_builtin; refine wpList_append_text rfl _ _ 79 9 rfl B 5 i0 Tryd.underlying79 Tryd.underlying9 hi hz0 hz1 hz2 _ _ _ rfl hown S rfl ?c3 ?c4 ?c5 ?_)
  case c3 => unfold maxLen; omega
  case c4 => omega
  case c5 => omega
  intro v' w2 hown' hgrow hat
  have hb2 : w2.heap[b]? = some (.cells #[.pointer (some ⟨b, 0, none⟩), v] 81 (0, 0)) := by
    rw [hgrow.block b hlt1 (fun e => hne (by rw [← HVG.out]; exact e.symm))]
    exact HH.out
  have d0 : w2.cell? ⟨b, 0, none⟩ = some (.pointer (some ⟨b, 0, none⟩)) := by rw [Lib.cell_of_heap hb2]; rfl
  have d1 : w2.cell? ⟨b, 1, none⟩ = some v := by rw [Lib.cell_of_heap hb2]; rfl
  have f1 : w2.frozen? ⟨b, 1, none⟩ = false := Lib.frozen_of_heap hb2 1
  have HQ : Hid (∃ g', Bd (w2.setCell ⟨b, 1, none⟩ v') B b g' (l ++ s) ∧ Moved w g g' ∧ Kg b g w (w2.setCell ⟨b, 1, none⟩ v')) := by
    have hnb : v'.ownBlock ≠ some b := Lib.ownBlock_ne hown' hb2 (by decide)
    have hmv : Moved w g v'.ownBlock := by
      cases hv : v'.ownBlock with
      | none => exact Or.inr fun j hj => by cases hj
      | some k =>
        rcases hat k hv with h1 | h1
        · exact Or.inl (by rw [← HVG.out, h1])
        · exact Or.inr fun j hj => by cases hj; omega
    refine ⟨v'.ownBlock, Or.inr ⟨hB, v', ?_, ?_, rfl, hnb⟩, hmv, ?_⟩
    · simp [World.setCell, Array.getElem?_modify, hb2]
    · rw [List.length_append, Lib.byteCells_append, ← HSC.out]
      refine hown'.kept (row := some b) ⟨rfl, rfl, rfl, by simp [World.setCell], fun k _ hk => Below.heap_setCell _ _ _ _ (fun e => hk (by simp [e]))⟩ (Or.inr hnb)
    · have k1 := HK1.out
      refine ⟨?_, ?_, ?_, ?_, fun k hk hkb hkg => ?_⟩
      · show w2.os = w.os; rw [hgrow.os, k1.os]
      · show w2.tape = w.tape; rw [hgrow.tape, k1.tape]
      · show w2.output = w.output; rw [hgrow.output, k1.output]
      · have := hgrow.size; simp [World.setCell]; omega
      · rw [heap_setCell_other _ _ _ _ hkb, hgrow.block k (by omega) (by rw [HVG.out]; exact hkg), k1.block k hk hkb]
  obtain ⟨ao, n', cap, rfl⟩ : ∃ ao n' cap, v' = .slice ao n' cap := by
    rcases hown'.2 with ⟨hv, _⟩ | ⟨g, cap, cur, hv, _⟩
    · exact ⟨_, _, _, hv⟩
    · exact ⟨_, _, _, hv⟩
  clear hown' hgrow hat hown
  go_wp2
  go_ret2
  exact ⟨rfl, HQ.out⟩

/-- What the builder tells in the end. -/
theorem bstring_any (B b : Nat) (g : Option Nat) (l : List UInt8) (w : World) (h : Bd w B b g l) (hBw : B ≤ w.heap.size) :
    Calls Tryd.prog 42 #[.pointer (some ⟨b, 0, none⟩)] w fun e w' => e = .returned (.string (bs l)) ∧ Below B w w' :=
  Tryd.Builder_String_any B b l w h.is hBw

/-- The library's table of powers of ten. -/
def TB (w : World) : Prop := Lib.TabIs Tryd.prog w "internal/strconv.uint64pow10" .u64 Lib.pow10Tab
theorem TB.below {w w' : World} (h : TB w) (hb : Below w.heap.size w w') : TB w' := Lib.tabBelow_of_tabIs h w' hb
theorem below_grow (w : World) (k : Nat) (os : Array Obj) : Below w.heap.size w (Sort.grow (w.drewN k) os) :=
  ⟨rfl, rfl, rfl, by simp [Sort.grow], fun j hj => by simp only [Sort.grow, World.heap_drewN]; exact Array.getElem?_append_left hj⟩
theorem itoaZ_any (n : Int) (w : World) (hn : Pg.i64 n) (hT : TB w) : Calls Tryd.prog 67 #[.int .i64 n] w fun e w' => e = .returned (.string (bs (Lib.itoa n))) ∧ Below w.heap.size w w' := by
  refine (Tryd.strconv_Itoa n hn.1 hn.2 w hT).mono ?_
  rintro e w' ⟨he, k, os, rfl⟩
  exact ⟨he, below_grow w k os⟩

end Go.Proofs.YtcblknghkgihcaaDoor
