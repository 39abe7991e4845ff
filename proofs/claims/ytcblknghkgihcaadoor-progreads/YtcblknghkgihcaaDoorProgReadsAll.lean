/-
  ProgReads, for every input: any tree of data is read as a function, or refused, by the landed FromCell as by the reference's (or it is greater than the law looks at), and a least function is checked and printed. Conditions: the table of orders and the library's tables, which the card ties; the tree handed in holds itself nowhere (the row's own cell).
-/
import Derived.Test.YtcblknghkgihcaaDoorPgOpen
import Derived.Test.YtcblknghkgihcaaDoorCdOwn
import Derived.Test.YtcblknghkgihcaaDoorGB
import Derived.ChangeArms
import Derived.JoinedCond
import Derived.HandedShaped
import Derived.Test.YtcblknghkgihcaaDoorPgChk6
import Derived.Test.YtcblknghkgihcaaDoorGA
import Derived.Test.YtcblknghkgihcaaDoorPgRf3q
import Derived.BigQuiet
import Derived.Deep.RegionHeld3
import Derived.Test.YtcblknghkgihcaaDoorPgLives
namespace Go.Proofs.YtcblknghkgihcaaDoor
set_option maxRecDepth 100000
open Go.ChangeShapes Go.WideShapes Go.ChangeAt Go.RowKit Crc Pg

theorem CS_flat (w : World) (S : Nat → Prop) (k : Int) (n : Nat) (s : ByteArray) (hk : -9223372036854775808 ≤ k ∧ k ≤ 9223372036854775807) (hn : n < 18446744073709551616) (hs : s.size ≤ 9223372036854775807) : CS w S (.mk k n s []) (cellV k n s (.slice none 0 0)) :=
  CS.mk k n s [] none 0 (fun _ => 0) (fun _ => 0) (fun _ => ⟨#[]⟩) (fun _ => .slice none 0 0) hk hn hs (Nat.le_refl _) (by decide) (fun _ => rfl) (fun x e => by cases e) (fun x i e => by cases e) (fun i h => absurd h (Nat.not_lt_zero _))


theorem cellsCell : Tryd.prog.cellsOf 33 = 4 := by kernel_rfl
theorem cellsIntC : Tryd.prog.cellsOf 3 = 1 := by kernel_rfl
theorem cellsU64 : Tryd.prog.cellsOf 30 = 1 := by kernel_rfl
theorem cellsStr : Tryd.prog.cellsOf 9 = 1 := by kernel_rfl
theorem cellsRow : Tryd.prog.cellsOf 31 = 1 := by kernel_rfl

theorem list4 {l : List Value} (h : l.length = 4) : ∃ a b c d, l = [a, b, c, d] := by
  match l, h with
  | [a, b, c, d], _ => exact ⟨a, b, c, d, rfl⟩

theorem some_at {α : Type} {l : List α} {n i : Nat} (h : l.length = n) (hi : i < n) : ∃ x, l[i]? = some x := ⟨l[i]'(by omega), List.getElem?_eq_getElem (by omega)⟩

/-- Four cells in a row. -/
theorem cells_four {W : World} {a : Addr} {cs : List Value} (h : W.cells? 0 a 4 = some cs) : ∃ c0 c1 c2 c3, cs = [c0, c1, c2, c3] ∧ W.cell? a = some c0 ∧ W.cell? (a.add 1) = some c1 ∧ W.cell? (a.add 2) = some c2 ∧ W.cell? (a.add 3) = some c3 := by
  unfold World.cells? at h
  rw [if_pos (Nat.zero_le _)] at h
  have hl := Lib.mapM_length h
  obtain ⟨b0, e0, f0⟩ := Lib.mapM_at h 0 0 (by simp)
  obtain ⟨b1, e1, f1⟩ := Lib.mapM_at h 1 1 (by simp)
  obtain ⟨b2, e2, f2⟩ := Lib.mapM_at h 2 2 (by simp)
  obtain ⟨b3, e3, f3⟩ := Lib.mapM_at h 3 3 (by simp)
  obtain ⟨c0, c1, c2, c3, rfl⟩ := list4 (hl.trans (by simp))
  simp at e0 e1 e2 e3
  subst e0 e1 e2 e3
  rw [Addr_add_zero] at f0
  exact ⟨_, _, _, _, rfl, f0, f1, f2, f3⟩

theorem spot_none {W : World} {a : Addr} {u : Value} (h : W.cell? a = some u) : a.spot = none := by
  obtain ⟨b, o, s⟩ := a
  cases s with
  | none => rfl
  | some k =>
    unfold World.cell? at h
    split at h <;> simp at h

theorem add_mk (b o n : Nat) : Addr.add ⟨b, o, none⟩ n = ⟨b, o + n, none⟩ := by unfold Addr.add; split <;> simp_all

/-- Cells in a row, each of which is a tree, are a list. -/
theorem row_tree {H : Type} {enc : TypeId × Value → H} {W : World} {sp : Nat → Bool} {held : Bool} {a : Addr} {len cap q : Nat} {elems : List (DataW H × List MemPlace)} (k : Int) (N : Nat) (s : ByteArray)
    (bk : -9223372036854775808 ≤ k ∧ k ≤ 9223372036854775807) (bn : N < 18446744073709551616) (bs : s.size ≤ 9223372036854775807) (hlc : len ≤ cap) (hcm : cap ≤ maxLen) (hel : elems.length = len)
    (hat0 : ∀ i, i < len → (W.cells? 0 (a.add (i * Tryd.prog.cellsOf 33)) (Tryd.prog.cellsOf 33)).bind (DataW.trod enc Tryd.prog W 0 sp held q 33) = elems[i]?)
    (ih : ∀ (cs : List Value) (x : DataW H × List MemPlace), DataW.trod enc Tryd.prog W 0 sp held q 33 cs = some x → ∃ (t : Tr) (k : Int) (n : Nat) (s : ByteArray) (u : Value), cs = [.int .i64 k, .int .u64 n, .string s, u] ∧ CR W t (cellV k n s u)) :
    ∃ ts, CR W (.mk k N s ts) (cellV k N s (.slice (some a) len cap)) := by
  have hat := hat0
  unfold maxLen at hcm
  rw [cellsCell] at hat
  have key : ∀ i, ∃ f : Tr × Int × Nat × ByteArray × Value, i < len → (a.spot = none ∧ Lies W a.block a.off i f.2.1 f.2.2.1 f.2.2.2.1 f.2.2.2.2) ∧ CR W f.1 (cellV f.2.1 f.2.2.1 f.2.2.2.1 f.2.2.2.2) := by
    intro i
    by_cases hi : i < len
    · obtain ⟨y, ey⟩ := some_at hel hi
      have hb := hat i hi
      rw [ey] at hb
      obtain ⟨cs, hcs, htr⟩ := Option.bind_eq_some_iff.1 hb
      obtain ⟨t, k', n', s', u', rfl, hcr⟩ := ih cs y htr
      obtain ⟨c0, c1, c2, c3, e, g0, g1, g2, g3⟩ := cells_four hcs
      simp only [List.cons.injEq, and_true] at e
      obtain ⟨rfl, rfl, rfl, rfl⟩ := e
      refine ⟨(t, k', n', s', u'), fun _ => ⟨?_, hcr⟩⟩
      have hsp : a.spot = none := by
        obtain ⟨y, ey⟩ := some_at hel (show 0 < len by omega)
        have hb := hat 0 (by omega)
        rw [ey] at hb
        obtain ⟨cs, hcs, htr⟩ := Option.bind_eq_some_iff.1 hb
        obtain ⟨_, _, _, _, _, g0, _⟩ := cells_four hcs
        rw [Nat.zero_mul, Addr_add_zero] at g0
        exact spot_none g0
      refine ⟨hsp, ?_⟩
      obtain ⟨b, o, sp⟩ := a
      simp only at hsp
      subst hsp
      rw [add_mk] at g0 g1 g2 g3
      rw [add_mk] at g1 g2 g3
      exact ⟨g0, g1, g2, g3⟩
    · exact ⟨(.mk 0 0 ⟨#[]⟩ [], 0, 0, ⟨#[]⟩, .slice none 0 0), fun h => absurd h hi⟩
  obtain ⟨f, hf⟩ := Classical.axiomOfChoice key
  have hl : ((List.range len).map (fun i => (f i).1)).length = len := by simp
  refine ⟨(List.range len).map (fun i => (f i).1), ?_⟩
  have := CR.mk (w := W) k N s ((List.range len).map (fun i => (f i).1)) (some a) cap (fun i => (f i).2.1) (fun i => (f i).2.2.1) (fun i => (f i).2.2.2.1) (fun i => (f i).2.2.2.2) bk bn bs (by rw [hl]; exact hlc) (by omega) (fun e => by cases e)
    (fun x i e hi => by cases e; rw [hl] at hi; exact (hf i hi).1) (fun i hi => by
      have hi2 : i < len := by rw [hl] at hi; exact hi
      simp only [List.getElem_map, List.getElem_range]
      exact (hf i hi2).2)
  rw [hl] at this
  exact this

theorem trod_cell {H : Type} {enc : TypeId × Value → H} {W : World} {sp : Nat → Bool} {held : Bool} : ∀ (fuel : Nat) (cs : List Value) (x : DataW H × List MemPlace), DataW.trod enc Tryd.prog W 0 sp held fuel 33 cs = some x →
    ∃ (t : Tr) (k : Int) (n : Nat) (s : ByteArray) (u : Value), cs = [.int .i64 k, .int .u64 n, .string s, u] ∧ CR W t (cellV k n s u) := by
  intro fuel
  induction fuel using Nat.strongRecOn with
  | _ fuel ih =>
  intro cs x h
  obtain ⟨xs, n, rfl, rfl, hlen, hxl, hf⟩ := DataW.trod_struct Tryd.underlying33 h
  rw [cellsCell] at hlen
  obtain ⟨c0, c1, c2, c3, rfl⟩ := list4 hlen
  have h0 : DataW.trod enc Tryd.prog W 0 sp held n 3 (([c0, c1, c2, c3].drop 0).take (Tryd.prog.cellsOf 3)) = xs[0]? := hf 0 _ rfl
  have h1 : DataW.trod enc Tryd.prog W 0 sp held n 30 (([c0, c1, c2, c3].drop 1).take (Tryd.prog.cellsOf 30)) = xs[1]? := hf 1 _ rfl
  have h2 : DataW.trod enc Tryd.prog W 0 sp held n 9 (([c0, c1, c2, c3].drop 2).take (Tryd.prog.cellsOf 9)) = xs[2]? := hf 2 _ rfl
  have h3 : DataW.trod enc Tryd.prog W 0 sp held n 31 (([c0, c1, c2, c3].drop 3).take (Tryd.prog.cellsOf 31)) = xs[3]? := hf 3 _ rfl
  obtain ⟨y0, e0⟩ := some_at hxl (i := 0) (by decide)
  obtain ⟨y1, e1⟩ := some_at hxl (i := 1) (by decide)
  obtain ⟨y2, e2⟩ := some_at hxl (i := 2) (by decide)
  obtain ⟨y3, e3⟩ := some_at hxl (i := 3) (by decide)
  rw [e0] at h0
  rw [e1] at h1
  rw [e2] at h2
  rw [e3] at h3
  simp only [cellsIntC, cellsU64, cellsStr, cellsRow, List.drop_zero, List.drop_succ_cons, List.take_succ_cons, List.take_zero] at h0 h1 h2 h3
  obtain ⟨k, hk, _, wk⟩ := DataW.trod_int Tryd.underlying3 h0
  obtain ⟨m, hm, _, wm⟩ := DataW.trod_int Tryd.underlying30 h1
  obtain ⟨s, hs, _, ws⟩ := DataW.trod_string Tryd.underlying9 h2
  injection hk with hk _
  injection hm with hm _
  injection hs with hs _
  subst hk hm hs
  have bk : -9223372036854775808 ≤ k ∧ k ≤ 9223372036854775807 := by simpa [Lit.wf, IntKind.min, IntKind.max, IntKind.signed, IntKind.bits] using wk
  have bm : 0 ≤ m ∧ m ≤ 18446744073709551615 := by simpa [Lit.wf, IntKind.min, IntKind.max, IntKind.signed, IntKind.bits] using wm
  unfold maxLen at ws
  obtain ⟨N, rfl⟩ : ∃ N : Nat, m = (N : Int) := ⟨m.toNat, by omega⟩
  rcases DataW.trod_slice Tryd.underlying31 h3 with ⟨hc, _⟩ | ⟨a, len, cap, elems, rest, q, rfl, hc, _, _, hlc, hcm, hel, hat, _⟩
  · injection hc with hc _
    subst hc
    exact ⟨_, k, N, s, _, rfl, (CS_flat W (fun _ => True) k N s bk (by omega) (by omega)).cr⟩
  · injection hc with hc _
    subst hc
    unfold maxLen at hcm
    obtain ⟨ts, hts⟩ := row_tree k N s bk (by omega) (by omega) hlc (by unfold maxLen; omega) hel hat (fun cs y h => ih q (by omega) cs y h)
    exact ⟨_, k, N, s, _, rfl, hts⟩

/-- A cell that came in. -/
theorem open_cell {H : Type} {enc : TypeId × Value → H} {W : World} {base : Nat} {v : Value} {d : DataW H} {p : List MemPlace}
    (hval : Value.okWide Tryd.prog W .any base 33 v) (h0 : DataW.Trod enc Tryd.prog W 0 (fun _ => true) true 33 v d p) : ∃ t, CR W t v := by
  obtain ⟨fuel, hf⟩ := h0
  obtain ⟨t, k, n, s, u, e, hc⟩ := trod_cell fuel _ _ hf
  simp only [Value.okWide, Tryd.underlying33] at hval
  obtain ⟨cs, rfl, _⟩ := hval
  have : cs = #[.int .i64 k, .int .u64 n, .string s, u] := by
    simp [Value.cells] at e
    apply Array.ext'
    exact e
  subst this
  exact ⟨t, hc⟩


theorem weights_all {H : Type} {P : Program} {e : TypeId} : ∀ {ds : List (DataW H)} {d : DataW H}, d ∈ ds → ∀ n ∈ d.weights P e, n ∈ DataW.weightsAll P e ds
  | c :: ds, d, h, n, hn => by
    simp only [DataW.weightsAll, List.mem_append]
    rcases List.mem_cons.1 h with rfl | h
    · exact Or.inl hn
    · exact Or.inr (weights_all h n hn)

theorem st_of {H : Type} {enc : TypeId × Value → H} {W : World} {sp : Nat → Bool} {held : Bool} {t : Tr} {v : Value} (h : CR W t v) : ∀ (fuel : Nat) (cs : List Value) (x : DataW H × List MemPlace), v = .agg cs.toArray → DataW.trod enc Tryd.prog W 0 sp held fuel 33 cs = some x → (∀ m ∈ x.1.weights Tryd.prog 33, m ≤ reachBytes) → Stx t := by
  induction h using CR.ind with
  | mk k n s ts a cap ks ns ss us hk hn hs hl hc h0 hx hr ih =>
  intro fuel cs x hv h hw
  unfold cellV at hv
  simp only [Value.agg.injEq, Array.mk.injEq] at hv
  subst hv
  obtain ⟨xs, q, rfl, rfl, hlen, hxl, hf⟩ := DataW.trod_struct Tryd.underlying33 h
  have h2 : DataW.trod enc Tryd.prog W 0 sp held q 9 (([Value.int IntKind.i64 k, Value.int IntKind.u64 n, Value.string s, Value.slice a ts.length cap].drop 2).take (Tryd.prog.cellsOf 9)) = xs[2]? := hf 2 _ rfl
  have h3 : DataW.trod enc Tryd.prog W 0 sp held q 31 (([Value.int IntKind.i64 k, Value.int IntKind.u64 n, Value.string s, Value.slice a ts.length cap].drop 3).take (Tryd.prog.cellsOf 31)) = xs[3]? := hf 3 _ rfl
  obtain ⟨y2, e2⟩ := some_at hxl (i := 2) (by decide)
  obtain ⟨y3, e3⟩ := some_at hxl (i := 3) (by decide)
  rw [e2] at h2
  rw [e3] at h3
  simp only [cellsStr, cellsRow, List.drop_succ_cons, List.drop_zero, List.take_succ_cons, List.take_zero] at h2 h3
  have hw' : ∀ (j : Nat) (tt : TypeId) (d : DataW H), [3, 30, 9, 31][j]? = some tt → (xs.map (·.1))[j]? = some d → ∀ m ∈ d.weights Tryd.prog tt, m ≤ reachBytes := by
    intro j tt d h1 h2 m hm
    refine hw m ?_
    simp only [DataW.weights, Tryd.underlying33]
    exact DataW.weights_mem_each (ts := [3, 30, 9, 31]) h1 h2 m hm
  rw [Stx_mk]
  obtain ⟨s2, hs2, hy2, _⟩ := DataW.trod_string Tryd.underlying9 h2
  injection hs2 with hs2 _
  injection hs2 with hs2
  subst hs2
  refine ⟨?_, fun u hu => ?_⟩
  · have := hw' 2 9 (.lit (.string s.data.toList)) rfl (by rw [List.getElem?_map, e2, hy2]; rfl) s.data.toList.length (by simp [DataW.weights])
    unfold reachBytes at this
    have e : s.data.toList.length = s.size := by simp
    omega
  · obtain ⟨i, hi, eu⟩ := List.getElem_of_mem hu
    rcases DataW.trod_slice Tryd.underlying31 h3 with ⟨hc3, _⟩ | ⟨b, len, cap3, elems, rest, q2, rfl, hc3, hy3, _, hlc, hcm, hel, hat, _⟩
    · injection hc3 with hc3 _
      injection hc3 with h4 h5 h6
      omega
    · injection hc3 with hc3 _
      injection hc3 with h4 h5 h6
      subst h4 h6
      have hi2 : i < len := by omega
      obtain ⟨y, ey⟩ := some_at hel hi2
      have hb := hat i hi2
      rw [ey, cellsCell] at hb
      obtain ⟨cs, hcs, htr⟩ := Option.bind_eq_some_iff.1 hb
      obtain ⟨c0, c1, c2, c3, e, g0, g1, g2, g3⟩ := cells_four hcs
      obtain ⟨hsp, hli⟩ := hx b i rfl hi
      obtain ⟨bb, oo, spt⟩ := b
      simp only at hsp
      subst hsp
      rw [add_mk] at g0 g1 g2 g3
      rw [add_mk] at g1 g2 g3
      have f0 := g0.symm.trans hli.c0
      have f1 := g1.symm.trans hli.c1
      have f2 := g2.symm.trans hli.c2
      have f3 := g3.symm.trans hli.c3
      injection f0 with f0
      injection f1 with f1
      injection f2 with f2
      injection f3 with f3
      subst e f0 f1 f2 f3
      rw [← eu]
      refine ih i hi q2 _ y rfl htr (fun m hm => ?_)
      refine hw' 3 31 y3.1 rfl (by rw [List.getElem?_map, e3]; rfl) m ?_
      rw [hy3]
      simp only [DataW.weights, Tryd.underlying31]
      refine List.mem_cons_of_mem _ (List.mem_append_left _ (weights_all (d := y.1) ?_ m hm))
      exact List.mem_map.2 ⟨y, List.mem_of_getElem? ey, rfl⟩

/-- A cell that came in, and its texts. -/
theorem open_cell_st {H : Type} {enc : TypeId × Value → H} {W : World} {base : Nat} {v : Value} {d : DataW H} {p : List MemPlace}
    (hval : Value.okWide Tryd.prog W .any base 33 v) (h0 : DataW.Trod enc Tryd.prog W 0 (fun _ => true) true 33 v d p) {ts : List TypeId} {ds : List (DataW H)} (hz : (DataW.weightsEach Tryd.prog ts ds).all (· ≤ reachBytes) = true) {j : Nat} (ht : ts[j]? = some 33) (hd : ds[j]? = some d) : ∃ t, CR W t v ∧ Stx t := by
  obtain ⟨t, hc⟩ := open_cell hval h0
  refine ⟨t, hc, ?_⟩
  obtain ⟨fuel, hf⟩ := h0
  obtain ⟨k, n, s, a, m, cap, rfl⟩ := hc.cs.form
  refine st_of hc fuel _ _ rfl hf (fun m hm => ?_)
  have := List.all_eq_true.1 hz m (DataW.weights_mem_each ht hd m hm)
  simpa using this


end Go.Proofs.YtcblknghkgihcaaDoor
namespace Go.Proofs.YtcblknghkgihcaaDoor
set_option maxRecDepth 100000
open Go.RowKit Crc Txt Pg

def zP : Pr := .mk 0 0 [] [] [] []
def errE (O : Bool) : Int := if O = true then 0 else 4
def outP (O : Bool) (r : Pr) : Pr := if O = true then r else zP
theorem pr_zero (w : World) : PR w zP ⟨0, 0, .slice none 0 0, .slice none 0 0, .slice none 0 0, .slice none 0 0⟩ := by
  have h : ∀ (z : Nat) (F : Nat → Nat → Value → Prop), SL w (.slice none 0 0) 0 z F := fun z F => ⟨none, 0, rfl, Nat.le_refl _, by decide, Nat.zero_le _, fun _ => ⟨rfl, rfl⟩, fun x e => by cases e⟩
  unfold zP
  rw [PR_mk]
  exact ⟨rfl, rfl, ⟨by decide, by decide⟩, ⟨by decide, by decide⟩, ⟨h _ _, fun x hx => by cases hx⟩, ⟨h _ _, fun x hx => by cases hx⟩, ⟨h _ _, fun x hx => by cases hx⟩, fun _ => ⟨0, 0, .slice none 0 0, .slice none 0 0, .slice none 0 0, .slice none 0 0⟩, h _ _, fun i hi => absurd hi (Nat.not_lt_zero _)⟩
/-- What FromCell tells. -/
def FcR (w : World) (O : Bool) (r : Pr) (e : Ending) (w' : World) : Prop :=
  ∃ (pa rg : Int) (a1 : Option Addr) (n1 c1 : Nat) (a2 : Option Addr) (n2 c2 : Nat) (a3 : Option Addr) (n3 c3 : Nat) (a4 : Option Addr) (n4 c4 : Nat), e = .returned (.tuple #[.agg #[.int .i64 pa, .int .i64 rg, .slice a1 n1 c1, .slice a2 n2 c2, .slice a3 n3 c3, .slice a4 n4 c4], .int .i64 (errE O)]) ∧ Below w.heap.size w w' ∧ PR w' (outP O r) ⟨pa, rg, .slice a1 n1 c1, .slice a2 n2 c2, .slice a3 n3 c3, .slice a4 n4 c4⟩

set_option maxHeartbeats 4000000 in
theorem fromCell_any (D : Nat) (t : Tr) (v : Value) (w : World) (h : CR w t v) (hst : Stx t) (hdep : t.dep < D) (hcnt : t.cnt ≤ 1000000) (hfc : fcF D t ≤ 4096) (hT : Ot w) :
    Calls Tryd.prog 11 #[v] w (FcR w (okF D t && decide (chkB (rdT D t) = 0)) (rdT D t)) := by
  obtain ⟨a, cap, rfl⟩ := h.shape
  have HC := hide_p h
  have HT := hide_p hT
  have h00 := hT.1
  have HFN : Hid (∀ w' b, Below w.heap.size w w' → w.heap.size ≤ b → Cn w' b 0 → Calls Tryd.prog 35 #[.pointer (some ⟨b, 0, none⟩), cellV t.k t.n t.s (.slice a t.l.length cap)] w' (FnR w' b 0 (okF D t) (fcF D t) (rdT D t))) := by
    intro w' b hb hbb hc
    refine function_any D t _ w' b 0 ?_ hst hdep hcnt hc (by omega)
    exact (HC.out.cs.kept (w' := w') (fun k hk => hb.block k hk)).widen (fun k hk => Nat.lt_of_lt_of_le hk hbb)
  obtain ⟨r, hr⟩ : ∃ r, r = rdT D t := ⟨_, rfl⟩
  obtain ⟨O, hO⟩ : ∃ O, O = okF D t := ⟨_, rfl⟩
  obtain ⟨m, hm⟩ : ∃ m, m = fcF D t := ⟨_, rfl⟩
  rw [← hr, ← hO, ← hm] at HFN
  rw [← hr, ← hO]
  have HCK : Hid (∀ (x : Six) w', PR w' r x → Ot w' → Calls Tryd.prog 20 #[x.v] w' fun e w'' => e = .returned (.int .i64 (chkB r)) ∧ Below w'.heap.size w' w'') := fun x w' hp ht => check_any r x w' hp ht
  clear h hT hst hdep hcnt hfc hr hO hm HC
  generalize t.k = k at *
  generalize t.n = n at *
  generalize t.s = s at *
  generalize t.l = l at *
  obtain ⟨q, hq⟩ : ∃ q, q = decide (chkB r = 0) := ⟨_, rfl⟩
  rw [← hq]
  have HQ := hide_p hq
  clear hq
  unfold cellV at HFN ⊢
  obtain ⟨w1, hw1⟩ : ∃ w1, w1 = ((w.alloc (.cells #[.int .i64 k, .int .u64 n, .string s, .slice a l.length cap] 33)).alloc (.cells #[.int .i64 0, .int .i64 0, .slice none 0 0, .slice none 0 0, .slice none 0 0, .slice none 0 0] 27)).alloc (.cells #[.int .i64 0] 70) := ⟨_, rfl⟩
  have HB1 : Hid (Below w.heap.size w w1) := by show Below _ _ _; rw [hw1]; exact (((Below.refl _ _).alloc (Nat.le_refl _) _).alloc (by simp) _).alloc (by simp; omega) _
  have HS1 : Hid (w1.heap.size = w.heap.size + 3) := by show _ = _; rw [hw1]; simp
  have HA1 : Hid (w1.heap[w.heap.size]? = some (.cells #[.int .i64 k, .int .u64 n, .string s, .slice a l.length cap] 33 (0, 0)) ∧ w1.heap[w.heap.size + 1]? = some (.cells #[.int .i64 0, .int .i64 0, .slice none 0 0, .slice none 0 0, .slice none 0 0, .slice none 0 0] 27 (0, 0)) ∧ w1.heap[w.heap.size + 2]? = some (.cells #[.int .i64 0] 70 (0, 0))) := by
    show _ ∧ _ ∧ _
    rw [hw1]
    refine ⟨?_, ?_, heap_alloc_at _ _ _ (by simp)⟩
    · rw [Below.heap_alloc _ _ _ (by simp; omega), Below.heap_alloc _ _ _ (by simp)]
      exact heap_alloc_new _ _
    · rw [Below.heap_alloc _ _ _ (by simp)]
      exact heap_alloc_at _ _ _ (by simp)
  have HC1 : Hid (Cn w1 (w.heap.size + 2) 0) := ⟨by rw [Lib.cell_of_heap HA1.out.2.2]; rfl, Lib.frozen_of_heap HA1.out.2.2 0⟩
  obtain ⟨x0, x1, x2, x3⟩ := block4 HA1.out.1
  have hs1 := HS1.out
  go_enter Tryd.func11, Tryd.ntmps11
  go_upto_region 2 with fail
  rw [← hw1]
  clear hw1
  go_wp2_with fail
  refine (HFN.out w1 (w.heap.size + 2) HB1.out (by omega) HC1.out).mono ?_
  rintro e w2 ⟨pa, rg, a1, n1, c1, a2, n2, c2, a3, n3, c3, a4, n4, c4, f', rfl, hkb, -, -, hok⟩
  have HK := hide_p hkb
  have hsz2 := hkb.size
  have HB2 : Hid (Below w.heap.size w w2) := HB1.out.trans (hkb.below (by omega) (by omega))
  have HZ : Hid (∀ wq, Below w2.heap.size w2 wq → (∀ j, wq.frozen? ⟨w.heap.size + 1, j, none⟩ = false) ∧ wq.heap[w.heap.size + 1]? = some (.cells #[.int .i64 0, .int .i64 0, .slice none 0 0, .slice none 0 0, .slice none 0 0, .slice none 0 0] 27 (0, 0)) ∧ Below w.heap.size w wq) := by
    intro wq hq
    have e2 := ((hq.block (w.heap.size + 1) (by omega)).trans (HK.out.block _ (by omega) (by omega))).trans HA1.out.2.1
    exact ⟨fun j => Lib.frozen_of_heap e2 j, e2, HB2.out.trans (hq.mono HB2.out.size)⟩
  have HBAD : Hid (∀ wq, Below w2.heap.size w2 wq → ∀ W, W = ((((((wq.setCell ⟨w.heap.size + 1, 0, none⟩ (.int .i64 0)).setCell ⟨w.heap.size + 1, 1, none⟩ (.int .i64 0)).setCell ⟨w.heap.size + 1, 2, none⟩ (.slice none 0 0)).setCell ⟨w.heap.size + 1, 3, none⟩ (.slice none 0 0)).setCell ⟨w.heap.size + 1, 4, none⟩ (.slice none 0 0)).setCell ⟨w.heap.size + 1, 5, none⟩ (.slice none 0 0)) → W.heap[w.heap.size + 1]? = some (.cells #[.int .i64 0, .int .i64 0, .slice none 0 0, .slice none 0 0, .slice none 0 0, .slice none 0 0] 27 (0, 0)) ∧ Below w.heap.size w W) := by
    intro wq hq W hW
    obtain ⟨-, e2, e4⟩ := HZ.out wq hq
    rw [hW]
    exact ⟨set6_block e2 _ _ _ _ _ _, (((((e4.setCell (Nat.le_succ _) _).setCell (Nat.le_succ _) _).setCell (Nat.le_succ _) _).setCell (Nat.le_succ _) _).setCell (Nat.le_succ _) _).setCell (Nat.le_succ _) _⟩
  have hs2 : w.heap.size + 1 < w2.heap.size := by omega
  have hs2n : ¬ w2.heap.size = w.heap.size + 1 := by omega
  clear x0 x1 x2 x3 hkb
  cases O with
  | false =>
    obtain ⟨hfz, e2, -⟩ := HZ.out w2 (Below.refl _ _)
    obtain ⟨y0', y1', y2', y3', y4', y5'⟩ := block6 e2
    have f0 := hfz 0
    have f1 := hfz 1
    have f2 := hfz 2
    have f3 := hfz 3
    have f4 := hfz 4
    have f5 := hfz 5
    have HE : Hid (∀ ob W, W = ((((((w2.setCell ⟨w.heap.size + 1, 0, none⟩ (.int .i64 0)).setCell ⟨w.heap.size + 1, 1, none⟩ (.int .i64 0)).setCell ⟨w.heap.size + 1, 2, none⟩ (.slice none 0 0)).setCell ⟨w.heap.size + 1, 3, none⟩ (.slice none 0 0)).setCell ⟨w.heap.size + 1, 4, none⟩ (.slice none 0 0)).setCell ⟨w.heap.size + 1, 5, none⟩ (.slice none 0 0)).alloc ob → W.heap[w.heap.size + 1]? = some (.cells #[.int .i64 0, .int .i64 0, .slice none 0 0, .slice none 0 0, .slice none 0 0, .slice none 0 0] 27 (0, 0)) ∧ Below w.heap.size w W) := by
      intro ob W hW
      obtain ⟨z1, z2⟩ := HBAD.out w2 (Below.refl _ _) _ rfl
      rw [hW]
      exact ⟨(Below.heap_alloc _ _ _ (by simp only [World.size_setCell]; omega)).trans z1, z2.alloc z2.size _⟩
    clear hfz e2 hok
    go_wp2
    obtain ⟨y1, y2⟩ := HE.out _ _ rfl
    exact bodyPost_ret (results_cell_tmp rfl _ _ (w.heap.size + 1) _ _ _ _ rfl y1 Tryd.underlying27 rfl szPr) rfl ⟨_, _, _, _, _, _, _, _, _, _, _, _, _, _, rfl, y2, pr_zero _⟩
  | true =>
    have HPR : Hid (∀ wq, Below w2.heap.size w2 wq → PR wq r ⟨pa, rg, .slice a1 n1 c1, .slice a2 n2 c2, .slice a3 n3 c3, .slice a4 n4 c4⟩) := fun wq hq => PR.kept hq (Nat.le_refl _) _ _ (PRS.pr _ _ (hok rfl))
    have HBA : Hid (∀ ob, Below w2.heap.size w2 (w2.alloc ob)) := fun ob => (Below.refl _ _).alloc (Nat.le_refl _) ob
    have hck := fun ob => HCK.out ⟨pa, rg, .slice a1 n1 c1, .slice a2 n2 c2, .slice a3 n3 c3, .slice a4 n4 c4⟩ (w2.alloc ob) (HPR.out _ (HBA.out ob)) (HT.out.below (HB2.out.trans ((HBA.out ob).mono HB2.out.size)) h00)
    unfold Six.v at hck
    simp only at hck
    have HPRS := hide_p (hok rfl)
    clear hok HCK HFN
    go_wp2_with fail
    refine (hck _).mono ?_
    rintro e w3 ⟨rfl, hb3⟩
    have hq3 : Below w2.heap.size w2 w3 := (HBA.out _).trans (hb3.mono (by simp))
    have HQ3 := hide_p hq3
    have hz3 := hb3.size
    simp only [World.size_alloc] at hz3
    have hblk := (hb3.block w2.heap.size (by simp)).trans (heap_alloc_new w2 _)
    obtain ⟨z0, z1, z2, z3, z4, z5⟩ := block6 hblk
    obtain ⟨hfz, e2, -⟩ := HZ.out w3 hq3
    obtain ⟨y0', y1', y2', y3', y4', y5'⟩ := block6 e2
    have f0 := hfz 0
    have f1 := hfz 1
    have f2 := hfz 2
    have f3 := hfz 3
    have f4 := hfz 4
    have f5 := hfz 5
    have HE2 := hide_p e2
    clear hck hb3 hblk hfz e2 hq3
    cases q with
    | false =>
      have hne : ¬ chkB r = 0 := by have := HQ.out; intro e; simp [e] at this
      have hneb : (chkB r != 0) = true := by simpa using hne
      have HE := hide_p (HBAD.out w3 HQ3.out)
      clear HQ
      generalize chkB r = c at *
      go_wp2
      obtain ⟨y1, y2⟩ := HE.out _ rfl
      exact bodyPost_ret (results_cell_tmp rfl _ _ (w.heap.size + 1) _ _ _ _ rfl y1 Tryd.underlying27 rfl szPr) rfl ⟨_, _, _, _, _, _, _, _, _, _, _, _, _, _, rfl, y2, pr_zero _⟩
    | true =>
      have hne : chkB r = 0 := by have := HQ.out; simpa using this.symm
      have HE : Hid (∀ W, W = ((((((w3.setCell ⟨w.heap.size + 1, 0, none⟩ (.int .i64 pa)).setCell ⟨w.heap.size + 1, 1, none⟩ (.int .i64 rg)).setCell ⟨w.heap.size + 1, 2, none⟩ (.slice a1 n1 c1)).setCell ⟨w.heap.size + 1, 3, none⟩ (.slice a2 n2 c2)).setCell ⟨w.heap.size + 1, 4, none⟩ (.slice a3 n3 c3)).setCell ⟨w.heap.size + 1, 5, none⟩ (.slice a4 n4 c4)) → W.heap[w.heap.size + 1]? = some (.cells #[.int .i64 pa, .int .i64 rg, .slice a1 n1 c1, .slice a2 n2 c2, .slice a3 n3 c3, .slice a4 n4 c4] 27 (0, 0)) ∧ Below w.heap.size w W ∧ PR W r ⟨pa, rg, .slice a1 n1 c1, .slice a2 n2 c2, .slice a3 n3 c3, .slice a4 n4 c4⟩) := by
        intro W hW
        obtain ⟨-, -, e4⟩ := HZ.out w3 HQ3.out
        have hoth : ∀ k, k ≠ w.heap.size + 1 → W.heap[k]? = w3.heap[k]? := by
          intro k hk
          rw [hW]
          exact set6_other hk _ _ _ _ _ _
        refine ⟨?_, ?_, ?_⟩
        · rw [hW]
          exact set6_block HE2.out _ _ _ _ _ _
        · rw [hW]
          exact (((((e4.setCell (Nat.le_succ _) _).setCell (Nat.le_succ _) _).setCell (Nat.le_succ _) _).setCell (Nat.le_succ _) _).setCell (Nat.le_succ _) _).setCell (Nat.le_succ _) _
        · refine PRS.pr _ _ (PRS.same (w' := W) (fun k hk => ?_) _ _ (PRS.lt _ _ HPRS.out))
          rw [hoth k (by omega)]
          exact HQ3.out.block k hk.2
      clear HQ HBAD HZ
      generalize chkB r = c at *
      subst hne
      go_wp2
      obtain ⟨y1, y2, y3⟩ := HE.out _ rfl
      exact bodyPost_ret (results_cell_tmp rfl _ _ (w.heap.size + 1) _ _ _ _ rfl y1 Tryd.underlying27 rfl szPr) rfl ⟨_, _, _, _, _, _, _, _, _, _, _, _, _, _, rfl, y2, y3⟩

end Go.Proofs.YtcblknghkgihcaaDoor
namespace Go.Proofs.YtcblknghkgihcaaDoor
set_option maxRecDepth 100000
open Go.RowKit Txt Pg

def opnd (x : Ins) (k : Nat) : Int := if k = 0 then x.a else if k = 1 then x.b else x.c
/-- How many a letter's operand is one of. -/
def rngL (L : Lens) (c : UInt8) : Int := if c = 82 then L.rg else if c = 75 then L.nk else if c = 85 then L.nu else if c = 80 then L.np else if c = 79 then L.nc else if c = 78 then 31 else 0
def letB (L : Lens) (x : Ins) (u : List UInt8) : Bool := (List.range u.length).all fun k => inB (opnd x k) (rngL L (u.getD k 0))
def canB (L : Lens) (x : Ins) : Bool := isOp x.op && letB L x (usesT x.op) && (!(x.op == 32) || decide (x.b < L.rg - x.a)) && (!(x.op == 36 || x.op == 37) || decide (x.a < L.rg - 2))

theorem uses_len (op : Int) : (usesT op).length ≤ 3 := by
  have h : ∀ u ∈ usesL, u.length ≤ 3 := by decide
  unfold usesT
  rw [List.getD_eq_getElem?_getD]
  cases e : usesL[op.toNat]? with
  | none => simp
  | some s => exact h s (List.mem_of_getElem? e)
theorem uses_let (op : Int) : ∀ c ∈ usesT op, c = 82 ∨ c = 75 ∨ c = 85 ∨ c = 80 ∨ c = 79 ∨ c = 78 := by
  have h : ∀ u ∈ usesL, ∀ c ∈ u, c = 82 ∨ c = 75 ∨ c = 85 ∨ c = 80 ∨ c = 79 ∨ c = 78 := by decide
  unfold usesT
  rw [List.getD_eq_getElem?_getD]
  cases e : usesL[op.toNat]? with
  | none => intro c hc; cases hc
  | some s => exact h s (List.mem_of_getElem? e)

/-- The two say the same. -/
theorem can_ord (L : Lens) (x : Ins) (h : 0 ≤ L.rg) : canB L x = ordB L x := by
  obtain ⟨op, a, b, c⟩ := x
  obtain ⟨rg, nu, nc, nk, np⟩ := L
  by_cases ho : isOp op = true
  · have hc : op = 0 ∨ op = 1 ∨ op = 2 ∨ op = 3 ∨ op = 4 ∨ op = 5 ∨ op = 6 ∨ op = 7 ∨ op = 8 ∨ op = 9 ∨ op = 10 ∨ op = 11 ∨ op = 12 ∨ op = 13 ∨ op = 14 ∨ op = 15 ∨ op = 16 ∨ op = 17 ∨ op = 18 ∨ op = 19 ∨ op = 20 ∨ op = 21 ∨ op = 22 ∨ op = 23 ∨ op = 24 ∨ op = 25 ∨ op = 26 ∨ op = 27 ∨ op = 28 ∨ op = 29 ∨ op = 30 ∨ op = 31 ∨ op = 32 ∨ op = 33 ∨ op = 34 ∨ op = 35 ∨ op = 36 ∨ op = 37 := by
      unfold isOp at ho
      simp at ho
      omega
    clear ho
    rw [Bool.eq_iff_iff]
    simp only at h
    rcases hc with rfl | rfl | rfl | rfl | rfl | rfl | rfl | rfl | rfl | rfl | rfl | rfl | rfl | rfl | rfl | rfl | rfl | rfl | rfl | rfl | rfl | rfl | rfl | rfl | rfl | rfl | rfl | rfl | rfl | rfl | rfl | rfl | rfl | rfl | rfl | rfl | rfl | rfl
    all_goals
      simp [canB, ordB, letB, usesT, usesL, rowOf, ordL, okO, isOp, opnd, rngL, rngZ, inB, List.range, List.range.loop]
      try omega
  · have h1 : isOp op = false := by simpa using ho
    unfold canB ordB
    simp [h1]

set_option maxHeartbeats 1000000 in
theorem operand_any (op a b c : Int) (k : Nat) (w : World) (hk : k < 3) : Calls Tryd.prog 81 #[.agg #[.int .i64 op, .int .i64 a, .int .i64 b, .int .i64 c], .int .i64 k] w fun e w' => e = .returned (.int .i64 (opnd ⟨op, a, b, c⟩ k)) ∧ Below w.heap.size w w' := by
  have hB : Hid (∀ o, Below w.heap.size w (w.alloc o)) := fun o => (Below.refl _ _).alloc (Nat.le_refl _) _
  have h3 : k = 0 ∨ k = 1 ∨ k = 2 := by omega
  clear hk
  rcases h3 with rfl | rfl | rfl
  · rw [show ((0 : Nat) : Int) = 0 from rfl, show opnd ⟨op, a, b, c⟩ 0 = a from rfl]
    go_enter Tryd.func81, Tryd.ntmps81
    go_wp2
    go_ret
    exact ⟨rfl, hB.out _⟩
  · rw [show ((1 : Nat) : Int) = 1 from rfl, show opnd ⟨op, a, b, c⟩ 1 = b from rfl]
    go_enter Tryd.func81, Tryd.ntmps81
    go_wp2
    go_ret
    exact ⟨rfl, hB.out _⟩
  · rw [show ((2 : Nat) : Int) = 2 from rfl, show opnd ⟨op, a, b, c⟩ 2 = c from rfl]
    go_enter Tryd.func81, Tryd.ntmps81
    go_wp2
    go_ret
    exact ⟨rfl, hB.out _⟩

theorem letB_no (L : Lens) (x : Ins) (u : List UInt8) (k : Nat) (hk : k < u.length) (h : inB (opnd x k) (rngL L (u.getD k 0)) = false) : letB L x u = false := by
  unfold letB
  rw [Bool.eq_false_iff]
  intro e
  have := List.all_eq_true.1 e k (by simpa using hk)
  rw [h] at this
  cases this
theorem letB_yes (L : Lens) (x : Ins) (u : List UInt8) (h : ∀ k, k < u.length → inB (opnd x k) (rngL L (u.getD k 0)) = true) : letB L x u = true := by
  unfold letB
  exact List.all_eq_true.2 fun k hk => h k (by simpa using hk)

set_option maxHeartbeats 8000000 in
theorem can_any (op a b c : Int) (pa rg : Int) (au ac ak ap : Option Addr) (nu cu nc cc nk ck np cp : Nat) (w : World) (h0 : 0 ≤ rg) (hg : i64 rg) (ha : i64 a) :
    Calls Tryd.prog 72 #[.agg #[.int .i64 pa, .int .i64 rg, .slice au nu cu, .slice ac nc cc, .slice ak nk ck, .slice ap np cp], .agg #[.int .i64 op, .int .i64 a, .int .i64 b, .int .i64 c]] w fun e w' => e = .returned (.bool (canB ⟨rg, nu, nc, nk, np⟩ ⟨op, a, b, c⟩)) ∧ Below w.heap.size w w' := by
  have hR : canB ⟨rg, nu, nc, nk, np⟩ ⟨op, a, b, c⟩ = (isOp op && letB ⟨rg, nu, nc, nk, np⟩ ⟨op, a, b, c⟩ (usesT op) && (!(op == 32) || decide (b < rg - a)) && (!(op == 36 || op == 37) || decide (a < rg - 2))) := rfl
  rw [hR]
  clear hR
  unfold i64 at hg ha
  have hI := fun w => ris_any op w
  obtain ⟨w0, hw0⟩ : ∃ w0, w0 = (w.alloc (.cells #[.int .i64 pa, .int .i64 rg, .slice au nu cu, .slice ac nc cc, .slice ak nk ck, .slice ap np cp] 27)).alloc (.cells #[.int .i64 op, .int .i64 a, .int .i64 b, .int .i64 c] 58) := ⟨_, rfl⟩
  have HB0 : Hid (Below w.heap.size w w0) := by rw [hw0]; exact ((Below.refl _ w).alloc (Nat.le_refl _) _).alloc (by simp) _
  have HA : Hid (∀ j, w0.cell? ⟨w.heap.size, j, none⟩ = (#[.int .i64 pa, .int .i64 rg, .slice au nu cu, .slice ac nc cc, .slice ak nk ck, .slice ap np cp] : Array Value)[j]?) := by
    intro j
    rw [hw0, World.cell?_alloc_lt _ _ _ (by simp), World.cell?_alloc_new]
  have HD : Hid (∀ j, w0.cell? ⟨w.heap.size + 1, j, none⟩ = (#[.int .i64 op, .int .i64 a, .int .i64 b, .int .i64 c] : Array Value)[j]?) := by
    intro j
    rw [hw0, World.cell?_alloc_at _ _ _ _ (by simp)]
  have d0 : w0.cell? ⟨w.heap.size + 1, 0, none⟩ = some (.int .i64 op) := HD.out 0
  by_cases ho : isOp op = true
  · have hus := fun w => uses_any op w ho
    have HUL := hide_p (uses_len op)
    have HUC := hide_p (uses_let op)
    rw [ho]
    rw [ho] at hI
    obtain ⟨u, hu⟩ : ∃ u, u = usesT op := ⟨_, rfl⟩
    rw [← hu] at hus HUL HUC ⊢
    have hul := HUL.out
    have hsz := bs_size u
    have HU := hide_p hu
    have HSG : Hid (∀ k (h : k < u.length) (h' : k < (bs u).size), (bs u)[k]'h' = u[k]'h) := fun k h h' => bs_get u k h'
    generalize bs u = S at *
    clear hu ho
    go_enter Tryd.func72, Tryd.ntmps72
    go_upto_region 1 with fail
    rw [← hw0]
    clear hw0
    go_wp2_with fail
    refine (hI _).mono ?_
    rintro e w1 ⟨rfl, rfl⟩
    go_wp2_with fail
    refine (hus _).mono ?_
    rintro e w2 ⟨rfl, rfl⟩
    go_wp2_with fail
    clear hI hus d0
    go_loopw [6, 7, 8] (fun t6 t7 t8 wr => ∃ (k : Nat), k ≤ u.length ∧ t6 = .int .i64 k ∧ Hid (∀ j, j < k → inB (opnd ⟨op, a, b, c⟩ j) (rngL ⟨rg, nu, nc, nk, np⟩ (u.getD j 0)) = true) ∧ Hid (Below w2.heap.size w2 wr)) (fun t6 _ _ _ => u.length - (intOf t6).toNat)
    case atStart => exact ⟨0, Nat.zero_le _, rfl, fun j h => absurd h (Nat.not_lt_zero _), Below.refl _ _⟩
    case round =>
      obtain ⟨k, hk, rfl, HJ, HB⟩ := hrel
      have HBw : Hid (Below w.heap.size w wr) := HB0.out.trans (HB.out.mono HB0.out.size)
      have r1 : wr.cell? ⟨w.heap.size, 1, none⟩ = some (.int .i64 rg) := box6 HA.out HB.out (Nat.le_refl _) rfl
      have e0 : wr.cell? ⟨w.heap.size + 1, 0, none⟩ = some (.int .i64 op) := box6 HD.out HB.out (Nat.le_refl _) rfl
      have e1 : wr.cell? ⟨w.heap.size + 1, 1, none⟩ = some (.int .i64 a) := box6 HD.out HB.out (Nat.le_refl _) rfl
      have e2 : wr.cell? ⟨w.heap.size + 1, 2, none⟩ = some (.int .i64 b) := box6 HD.out HB.out (Nat.le_refl _) rfl
      by_cases ck2 : k < u.length
      · have e3 : wr.cell? ⟨w.heap.size + 1, 3, none⟩ = some (.int .i64 c) := box6 HD.out HB.out (Nat.le_refl _) rfl
        have hop := operand_any op a b c k wr (by omega)
        have HNO := hide_p (letB_no ⟨rg, nu, nc, nk, np⟩ ⟨op, a, b, c⟩ u k ck2)
        have hcl := HUC.out (u.getD k 0) (by rw [List.getD_eq_getElem?_getD, List.getElem?_eq_getElem ck2]; exact List.getElem_mem ck2)
        have hkk : k < S.size := by omega
        have hgk : S[k] = u.getD k 0 := by rw [HSG.out k ck2 hkk, List.getD_eq_getElem?_getD, List.getElem?_eq_getElem ck2]; rfl
        have HJ2 : Hid (inB (opnd ⟨op, a, b, c⟩ k) (rngL ⟨rg, nu, nc, nk, np⟩ (u.getD k 0)) = true → ∀ j, j < k + 1 → inB (opnd ⟨op, a, b, c⟩ j) (rngL ⟨rg, nu, nc, nk, np⟩ (u.getD j 0)) = true) := by
          intro e j hj
          by_cases e2 : j = k
          · subst e2; exact e
          · exact HJ.out j (by omega)
        generalize u.getD k 0 = cl at *
        generalize opnd ⟨op, a, b, c⟩ k = xo at *
        have ck3 : (k : Int) < (u.length : Int) := by omega
        have r2 : wr.cell? ⟨w.heap.size, 2, none⟩ = some (.slice au nu cu) := box6 HA.out HB.out (Nat.le_refl _) rfl
        have r3 : wr.cell? ⟨w.heap.size, 3, none⟩ = some (.slice ac nc cc) := box6 HA.out HB.out (Nat.le_refl _) rfl
        have r4 : wr.cell? ⟨w.heap.size, 4, none⟩ = some (.slice ak nk ck) := box6 HA.out HB.out (Nat.le_refl _) rfl
        have r5 : wr.cell? ⟨w.heap.size, 5, none⟩ = some (.slice ap np cp) := box6 HA.out HB.out (Nat.le_refl _) rfl
        have hlt : w.heap.size + 1 < wr.heap.size := World.block_lt_of_cell? wr _ e0
        rcases hcl with rfl | rfl | rfl | rfl | rfl | rfl
        · have hb : (S[k].toNat : Int) = 82 := by rw [hgk]; rfl
          have hr : rngL ⟨rg, nu, nc, nk, np⟩ 82 = rg := rfl
          rw [hr] at HNO HJ2
          clear hr hgk HUC
          go_wp2_with fail
          refine hop.mono ?_
          rintro e w3 ⟨rfl, hb3⟩
          have HB3 : Hid (Below w2.heap.size w2 w3) := HB.out.trans (hb3.mono HB.out.size)
          have HB3w : Hid (Below w.heap.size w w3) := HBw.out.trans (hb3.mono HBw.out.size)
          have s1 : w3.cell? ⟨w.heap.size, 1, none⟩ = some (.int .i64 rg) := cell_kept hb3 (Nat.le_refl _) r1
          have s2 : w3.cell? ⟨w.heap.size, 2, none⟩ = some (.slice au nu cu) := cell_kept hb3 (Nat.le_refl _) r2
          have s3 : w3.cell? ⟨w.heap.size, 3, none⟩ = some (.slice ac nc cc) := cell_kept hb3 (Nat.le_refl _) r3
          have s4 : w3.cell? ⟨w.heap.size, 4, none⟩ = some (.slice ak nk ck) := cell_kept hb3 (Nat.le_refl _) r4
          have s5 : w3.cell? ⟨w.heap.size, 5, none⟩ = some (.slice ap np cp) := cell_kept hb3 (Nat.le_refl _) r5
          clear hb3 hop r1 r2 r3 r4 r5 e0 e1 e2 e3
          by_cases x0 : xo < 0
          · have HN := hide_p (HNO.out (by unfold inB; simp; omega))
            clear HNO HJ2
            go_wp2
            go_ret
            exact ⟨by rw [HN.out]; simp, HB3w.out⟩
          · by_cases x1 : xo ≥ rg
            · have HN := hide_p (HNO.out (by unfold inB; simp; omega))
              clear HNO HJ2
              go_wp2
              go_ret
              exact ⟨by rw [HN.out]; simp, HB3w.out⟩
            · have HY := hide_p (HJ2.out (by unfold inB; simp; omega))
              clear HNO HJ2
              go_wp2
              go_roundw
              case rel => exact ⟨k + 1, by omega, by go_num, HY, HB3⟩
              case measure => simp [intOf]; omega
        · have hb : (S[k].toNat : Int) = 75 := by rw [hgk]; rfl
          have hr : rngL ⟨rg, nu, nc, nk, np⟩ 75 = (nk : Int) := rfl
          rw [hr] at HNO HJ2
          clear hr hgk HUC
          go_wp2_with fail
          refine hop.mono ?_
          rintro e w3 ⟨rfl, hb3⟩
          have HB3 : Hid (Below w2.heap.size w2 w3) := HB.out.trans (hb3.mono HB.out.size)
          have HB3w : Hid (Below w.heap.size w w3) := HBw.out.trans (hb3.mono HBw.out.size)
          have s1 : w3.cell? ⟨w.heap.size, 1, none⟩ = some (.int .i64 rg) := cell_kept hb3 (Nat.le_refl _) r1
          have s2 : w3.cell? ⟨w.heap.size, 2, none⟩ = some (.slice au nu cu) := cell_kept hb3 (Nat.le_refl _) r2
          have s3 : w3.cell? ⟨w.heap.size, 3, none⟩ = some (.slice ac nc cc) := cell_kept hb3 (Nat.le_refl _) r3
          have s4 : w3.cell? ⟨w.heap.size, 4, none⟩ = some (.slice ak nk ck) := cell_kept hb3 (Nat.le_refl _) r4
          have s5 : w3.cell? ⟨w.heap.size, 5, none⟩ = some (.slice ap np cp) := cell_kept hb3 (Nat.le_refl _) r5
          clear hb3 hop r1 r2 r3 r4 r5 e0 e1 e2 e3
          by_cases x0 : xo < 0
          · have HN := hide_p (HNO.out (by unfold inB; simp; omega))
            clear HNO HJ2
            go_wp2
            go_ret
            exact ⟨by rw [HN.out]; simp, HB3w.out⟩
          · by_cases x1 : xo ≥ (nk : Int)
            · have HN := hide_p (HNO.out (by unfold inB; simp; omega))
              clear HNO HJ2
              go_wp2
              go_ret
              exact ⟨by rw [HN.out]; simp, HB3w.out⟩
            · have HY := hide_p (HJ2.out (by unfold inB; simp; omega))
              clear HNO HJ2
              go_wp2
              go_roundw
              case rel => exact ⟨k + 1, by omega, by go_num, HY, HB3⟩
              case measure => simp [intOf]; omega
        · have hb : (S[k].toNat : Int) = 85 := by rw [hgk]; rfl
          have hr : rngL ⟨rg, nu, nc, nk, np⟩ 85 = (nu : Int) := rfl
          rw [hr] at HNO HJ2
          clear hr hgk HUC
          go_wp2_with fail
          refine hop.mono ?_
          rintro e w3 ⟨rfl, hb3⟩
          have HB3 : Hid (Below w2.heap.size w2 w3) := HB.out.trans (hb3.mono HB.out.size)
          have HB3w : Hid (Below w.heap.size w w3) := HBw.out.trans (hb3.mono HBw.out.size)
          have s1 : w3.cell? ⟨w.heap.size, 1, none⟩ = some (.int .i64 rg) := cell_kept hb3 (Nat.le_refl _) r1
          have s2 : w3.cell? ⟨w.heap.size, 2, none⟩ = some (.slice au nu cu) := cell_kept hb3 (Nat.le_refl _) r2
          have s3 : w3.cell? ⟨w.heap.size, 3, none⟩ = some (.slice ac nc cc) := cell_kept hb3 (Nat.le_refl _) r3
          have s4 : w3.cell? ⟨w.heap.size, 4, none⟩ = some (.slice ak nk ck) := cell_kept hb3 (Nat.le_refl _) r4
          have s5 : w3.cell? ⟨w.heap.size, 5, none⟩ = some (.slice ap np cp) := cell_kept hb3 (Nat.le_refl _) r5
          clear hb3 hop r1 r2 r3 r4 r5 e0 e1 e2 e3
          by_cases x0 : xo < 0
          · have HN := hide_p (HNO.out (by unfold inB; simp; omega))
            clear HNO HJ2
            go_wp2
            go_ret
            exact ⟨by rw [HN.out]; simp, HB3w.out⟩
          · by_cases x1 : xo ≥ (nu : Int)
            · have HN := hide_p (HNO.out (by unfold inB; simp; omega))
              clear HNO HJ2
              go_wp2
              go_ret
              exact ⟨by rw [HN.out]; simp, HB3w.out⟩
            · have HY := hide_p (HJ2.out (by unfold inB; simp; omega))
              clear HNO HJ2
              go_wp2
              go_roundw
              case rel => exact ⟨k + 1, by omega, by go_num, HY, HB3⟩
              case measure => simp [intOf]; omega
        · have hb : (S[k].toNat : Int) = 80 := by rw [hgk]; rfl
          have hr : rngL ⟨rg, nu, nc, nk, np⟩ 80 = (np : Int) := rfl
          rw [hr] at HNO HJ2
          clear hr hgk HUC
          go_wp2_with fail
          refine hop.mono ?_
          rintro e w3 ⟨rfl, hb3⟩
          have HB3 : Hid (Below w2.heap.size w2 w3) := HB.out.trans (hb3.mono HB.out.size)
          have HB3w : Hid (Below w.heap.size w w3) := HBw.out.trans (hb3.mono HBw.out.size)
          have s1 : w3.cell? ⟨w.heap.size, 1, none⟩ = some (.int .i64 rg) := cell_kept hb3 (Nat.le_refl _) r1
          have s2 : w3.cell? ⟨w.heap.size, 2, none⟩ = some (.slice au nu cu) := cell_kept hb3 (Nat.le_refl _) r2
          have s3 : w3.cell? ⟨w.heap.size, 3, none⟩ = some (.slice ac nc cc) := cell_kept hb3 (Nat.le_refl _) r3
          have s4 : w3.cell? ⟨w.heap.size, 4, none⟩ = some (.slice ak nk ck) := cell_kept hb3 (Nat.le_refl _) r4
          have s5 : w3.cell? ⟨w.heap.size, 5, none⟩ = some (.slice ap np cp) := cell_kept hb3 (Nat.le_refl _) r5
          clear hb3 hop r1 r2 r3 r4 r5 e0 e1 e2 e3
          by_cases x0 : xo < 0
          · have HN := hide_p (HNO.out (by unfold inB; simp; omega))
            clear HNO HJ2
            go_wp2
            go_ret
            exact ⟨by rw [HN.out]; simp, HB3w.out⟩
          · by_cases x1 : xo ≥ (np : Int)
            · have HN := hide_p (HNO.out (by unfold inB; simp; omega))
              clear HNO HJ2
              go_wp2
              go_ret
              exact ⟨by rw [HN.out]; simp, HB3w.out⟩
            · have HY := hide_p (HJ2.out (by unfold inB; simp; omega))
              clear HNO HJ2
              go_wp2
              go_roundw
              case rel => exact ⟨k + 1, by omega, by go_num, HY, HB3⟩
              case measure => simp [intOf]; omega
        · have hb : (S[k].toNat : Int) = 79 := by rw [hgk]; rfl
          have hr : rngL ⟨rg, nu, nc, nk, np⟩ 79 = (nc : Int) := rfl
          rw [hr] at HNO HJ2
          clear hr hgk HUC
          go_wp2_with fail
          refine hop.mono ?_
          rintro e w3 ⟨rfl, hb3⟩
          have HB3 : Hid (Below w2.heap.size w2 w3) := HB.out.trans (hb3.mono HB.out.size)
          have HB3w : Hid (Below w.heap.size w w3) := HBw.out.trans (hb3.mono HBw.out.size)
          have s1 : w3.cell? ⟨w.heap.size, 1, none⟩ = some (.int .i64 rg) := cell_kept hb3 (Nat.le_refl _) r1
          have s2 : w3.cell? ⟨w.heap.size, 2, none⟩ = some (.slice au nu cu) := cell_kept hb3 (Nat.le_refl _) r2
          have s3 : w3.cell? ⟨w.heap.size, 3, none⟩ = some (.slice ac nc cc) := cell_kept hb3 (Nat.le_refl _) r3
          have s4 : w3.cell? ⟨w.heap.size, 4, none⟩ = some (.slice ak nk ck) := cell_kept hb3 (Nat.le_refl _) r4
          have s5 : w3.cell? ⟨w.heap.size, 5, none⟩ = some (.slice ap np cp) := cell_kept hb3 (Nat.le_refl _) r5
          clear hb3 hop r1 r2 r3 r4 r5 e0 e1 e2 e3
          by_cases x0 : xo < 0
          · have HN := hide_p (HNO.out (by unfold inB; simp; omega))
            clear HNO HJ2
            go_wp2
            go_ret
            exact ⟨by rw [HN.out]; simp, HB3w.out⟩
          · by_cases x1 : xo ≥ (nc : Int)
            · have HN := hide_p (HNO.out (by unfold inB; simp; omega))
              clear HNO HJ2
              go_wp2
              go_ret
              exact ⟨by rw [HN.out]; simp, HB3w.out⟩
            · have HY := hide_p (HJ2.out (by unfold inB; simp; omega))
              clear HNO HJ2
              go_wp2
              go_roundw
              case rel => exact ⟨k + 1, by omega, by go_num, HY, HB3⟩
              case measure => simp [intOf]; omega
        · have hb : (S[k].toNat : Int) = 78 := by rw [hgk]; rfl
          have hr : rngL ⟨rg, nu, nc, nk, np⟩ 78 = 31 := rfl
          rw [hr] at HNO HJ2
          clear hr hgk HUC
          go_wp2_with fail
          refine hop.mono ?_
          rintro e w3 ⟨rfl, hb3⟩
          have HB3 : Hid (Below w2.heap.size w2 w3) := HB.out.trans (hb3.mono HB.out.size)
          have HB3w : Hid (Below w.heap.size w w3) := HBw.out.trans (hb3.mono HBw.out.size)
          have s1 : w3.cell? ⟨w.heap.size, 1, none⟩ = some (.int .i64 rg) := cell_kept hb3 (Nat.le_refl _) r1
          have s2 : w3.cell? ⟨w.heap.size, 2, none⟩ = some (.slice au nu cu) := cell_kept hb3 (Nat.le_refl _) r2
          have s3 : w3.cell? ⟨w.heap.size, 3, none⟩ = some (.slice ac nc cc) := cell_kept hb3 (Nat.le_refl _) r3
          have s4 : w3.cell? ⟨w.heap.size, 4, none⟩ = some (.slice ak nk ck) := cell_kept hb3 (Nat.le_refl _) r4
          have s5 : w3.cell? ⟨w.heap.size, 5, none⟩ = some (.slice ap np cp) := cell_kept hb3 (Nat.le_refl _) r5
          clear hb3 hop r1 r2 r3 r4 r5 e0 e1 e2 e3
          by_cases x0 : xo < 0
          · have HN := hide_p (HNO.out (by unfold inB; simp; omega))
            clear HNO HJ2
            go_wp2
            go_ret
            exact ⟨by rw [HN.out]; simp, HB3w.out⟩
          · by_cases x1 : xo ≥ 31
            · have HN := hide_p (HNO.out (by unfold inB; simp; omega))
              clear HNO HJ2
              go_wp2
              go_ret
              exact ⟨by rw [HN.out]; simp, HB3w.out⟩
            · have HY := hide_p (HJ2.out (by unfold inB; simp; omega))
              clear HNO HJ2
              go_wp2
              go_roundw
              case rel => exact ⟨k + 1, by omega, by go_num, HY, HB3⟩
              case measure => simp [intOf]; omega
      · have e : k = u.length := by omega
        have HL : Hid (letB ⟨rg, nu, nc, nk, np⟩ ⟨op, a, b, c⟩ u = true) := letB_yes _ _ _ (fun j hj => HJ.out j (by omega))
        have HA0 : Hid (op = 32 → 0 ≤ a ∧ a < rg) := by
          intro e32
          have h1 := HJ.out 0 (by rw [e, HU.out, e32]; decide)
          rw [HU.out, e32] at h1
          have e4 : rngL ⟨rg, nu, nc, nk, np⟩ ((usesT 32).getD 0 0) = rg := rfl
          rw [e4] at h1
          unfold inB opnd at h1
          simp at h1
          omega
        clear HUC
        by_cases o32 : op = 32
        · subst o32
          have hA0 := HA0.out rfl
          by_cases x1 : b ≥ rg - a
          · go_wp2
            go_ret
            exact ⟨by rw [HL.out]; simp; omega, HBw.out⟩
          · go_wp2
            go_ret
            refine ⟨?_, HBw.out⟩
            rw [HL.out]
            simp
        · have q32 : (op == 32) = false := by simp [o32]
          by_cases o36 : op = 36
          · subst o36
            go_wp2
            go_ret
            exact ⟨by rw [HL.out]; simp, HBw.out⟩
          · by_cases o37 : op = 37
            · subst o37
              go_wp2
              go_ret
              exact ⟨by rw [HL.out]; simp, HBw.out⟩
            · have q36 : (op != 36) = true := by simp [o36]
              have q37 : (op != 37) = true := by simp [o37]
              go_wp2
              go_ret
              exact ⟨by rw [HL.out]; simp [o32, o36, o37], HBw.out⟩
  · have h1 : isOp op = false := by simpa using ho
    rw [h1]
    rw [h1] at hI
    go_enter Tryd.func72, Tryd.ntmps72
    go_upto_region 1 with fail
    rw [← hw0]
    clear hw0
    go_wp2_with fail
    refine (hI _).mono ?_
    rintro e w1 ⟨rfl, rfl⟩
    go_wp2
    go_ret
    exact ⟨by simp, HB0.out⟩

end Go.Proofs.YtcblknghkgihcaaDoor
namespace Go.Proofs.YtcblknghkgihcaaDoor
set_option maxRecDepth 100000
open Go.RowKit Txt Pg Flo

/-- What is wrong with a function by itself, and its ups. -/
def badB (t : Pr) (arg : Int) (anu : Nat) (top : Bool) : Bool := !(soundB t) || (top && decide (t.us.length > 0)) || !(findB t.us arg anu)

theorem sound_of (pa rg : Int) (us : List Upp) (cs : List Ins) (ks : List Vl) (ps : List Pr) : soundB (.mk pa rg us cs ks ps) = (inB pa 31 && decide (pa ≤ rg) && !(ks.any noC) && endB cs && cs.all (ordB ⟨rg, us.length, cs.length, ks.length, ps.length⟩)) := rfl

set_option maxHeartbeats 16000000 in
theorem alone_any (t : Pr) (x : Six) (pa' rg' : Int) (au' : Option Addr) (nu' cu' : Nat) (vc' vk' vp' : Value) (top : Bool) (w : World) (h : PR w t x) :
    Calls Tryd.prog 59 #[x.v, .agg #[.int .i64 pa', .int .i64 rg', .slice au' nu' cu', vc', vk', vp'], .bool top] w fun e w' => e = .returned (.int .i64 (if badB t rg' nu' top then 1 else 0)) ∧ Below w.heap.size w w' := by
  obtain ⟨pa, rg, us, cs, ks, ps⟩ := t
  rw [PR_mk] at h
  obtain ⟨xpa, xrg, vu, vc, vk, vp⟩ := x
  simp only at h
  obtain ⟨rfl, rfl, hpa, hrg, hu, hc, hk, f, hp, -⟩ := h
  obtain ⟨au, cu, rfl, hul, huc, lu⟩ := hu.1.val
  obtain ⟨ac, cc, rfl, hcl, hcc, lc⟩ := hc.1.val
  obtain ⟨ak, ck, rfl, hkl, hkc, lk⟩ := hk.1.val
  obtain ⟨ap, cp, rfl, -, -, lp⟩ := hp.val
  unfold Six.v
  simp only
  have HBAD : Hid (badB (.mk xpa xrg us cs ks ps) rg' nu' top = (!(inB xpa 31 && decide (xpa ≤ xrg) && !(ks.any noC) && endB cs && cs.all (ordB ⟨xrg, us.length, cs.length, ks.length, ps.length⟩)) || (top && decide (us.length > 0)) || !(findB us rg' nu'))) := rfl
  rw [HBAD.out]
  obtain ⟨nu, hnu⟩ : ∃ n, n = us.length := ⟨_, rfl⟩
  obtain ⟨nc, hnc⟩ : ∃ n, n = cs.length := ⟨_, rfl⟩
  obtain ⟨nk, hnk⟩ : ∃ n, n = ks.length := ⟨_, rfl⟩
  obtain ⟨np, hnp⟩ : ∃ n, n = ps.length := ⟨_, rfl⟩
  have HN : Hid (nu = us.length ∧ nc = cs.length ∧ nk = ks.length) := ⟨hnu, hnc, hnk⟩
  have HSU : Hid (SU w (.slice au nu cu) us) := by rw [hnu]; exact hu
  have HSC : Hid (SI w (.slice ac nc cc) cs) := by rw [hnc]; exact hc
  have HSK : Hid (SV w (.slice ak nk ck) ks) := by rw [hnk]; exact hk
  rw [← hnu, ← hnc, ← hnk, ← hnp]
  rw [← hnu] at hul lu
  rw [← hnc] at hcl lc
  rw [← hnk] at hkl lk
  unfold far at lu lc lk
  clear hu hc hk hp hnu hnc hnk hnp lp HBAD
  have HRG := hide_p hrg
  unfold i64 at hrg hpa
  obtain ⟨w0, hw0⟩ : ∃ w0, w0 = (w.alloc (.cells #[.int .i64 xpa, .int .i64 xrg, .slice au nu cu, .slice ac nc cc, .slice ak nk ck, .slice ap np cp] 27)).alloc (.cells #[.int .i64 pa', .int .i64 rg', .slice au' nu' cu', vc', vk', vp'] 27) := ⟨_, rfl⟩
  have HB0 : Hid (Below w.heap.size w w0) := by rw [hw0]; exact ((Below.refl _ w).alloc (Nat.le_refl _) _).alloc (by simp) _
  have HA : Hid (∀ j, w0.cell? ⟨w.heap.size, j, none⟩ = (#[.int .i64 xpa, .int .i64 xrg, .slice au nu cu, .slice ac nc cc, .slice ak nk ck, .slice ap np cp] : Array Value)[j]?) := by
    intro j
    rw [hw0, World.cell?_alloc_lt _ _ _ (by simp), World.cell?_alloc_new]
  have HD : Hid (∀ j, w0.cell? ⟨w.heap.size + 1, j, none⟩ = (#[.int .i64 pa', .int .i64 rg', .slice au' nu' cu', vc', vk', vp'] : Array Value)[j]?) := by
    intro j
    rw [hw0, World.cell?_alloc_at _ _ _ _ (by simp)]
  have HS0 : Hid (w0.heap.size = w.heap.size + 2) := by show _ = _; rw [hw0]; simp
  have q0 : w0.cell? ⟨w.heap.size, 0, none⟩ = some (.int .i64 xpa) := HA.out 0
  have q1 : w0.cell? ⟨w.heap.size, 1, none⟩ = some (.int .i64 xrg) := HA.out 1
  have q2 : w0.cell? ⟨w.heap.size, 2, none⟩ = some (.slice au nu cu) := HA.out 2
  have q3 : w0.cell? ⟨w.heap.size, 3, none⟩ = some (.slice ac nc cc) := HA.out 3
  obtain ⟨R, hR⟩ : ∃ R : Int, R = if (!(inB xpa 31 && decide (xpa ≤ xrg) && !(ks.any noC) && endB cs && cs.all (ordB ⟨xrg, nu, nc, nk, np⟩)) || (top && decide (nu > 0)) || !(findB us rg' nu')) = true then 1 else 0 := ⟨_, rfl⟩
  rw [← hR]
  have HR := hide_p hR
  clear hR
  go_enter Tryd.func59, Tryd.ntmps59
  go_upto_region 1 with fail
  rw [← hw0]
  clear hw0
  by_cases c1 : xpa < 0
  · have HF : Hid (R = 1) := by show _ = _; rw [HR.out, show inB xpa 31 = false by unfold inB; simp; omega]; simp
    go_wp2
    go_ret
    exact ⟨by rw [HF.out]; rfl, HB0.out⟩
  by_cases c2 : xpa > 30
  · have HF : Hid (R = 1) := by show _ = _; rw [HR.out, show inB xpa 31 = false by unfold inB; simp; omega]; simp
    go_wp2
    go_ret
    exact ⟨by rw [HF.out]; rfl, HB0.out⟩
  have HIN : Hid (inB xpa 31 = true) := by show _ = _; unfold inB; simp; omega
  by_cases c3 : xpa > xrg
  · have HF : Hid (R = 1) := by show _ = _; rw [HR.out, show decide (xpa ≤ xrg) = false by simp; omega]; simp
    go_wp2
    go_ret
    exact ⟨by rw [HF.out]; rfl, HB0.out⟩
  have HPR : Hid (decide (xpa ≤ xrg) = true) := by show _ = _; simp; omega
  by_cases c4 : nc = 0
  · have HF : Hid (R = 1) := by
      have : cs = [] := List.eq_nil_of_length_eq_zero (by have := HN.out; omega)
      show _ = _
      rw [HR.out, this, show endB [] = false from rfl]
      simp
    subst c4
    go_wp2
    go_ret
    exact ⟨by rw [HF.out]; rfl, HB0.out⟩
  have c5 : ¬ (nc : Int) = 0 := by omega
  have c6 : ((nc : Int) == 0) = false := by simp; omega
  by_cases c7 : top = true ∧ 0 < nu
  · obtain ⟨rfl, c8⟩ := c7
    have HF : Hid (R = 1) := by show _ = _; rw [HR.out, show decide (nu > 0) = true by simp; omega]; simp
    have c9 : (nu : Int) > 0 := by omega
    go_wp2
    go_ret
    exact ⟨by rw [HF.out]; rfl, HB0.out⟩
  have HTP : Hid ((top && decide (nu > 0)) = false) := by
    show _ = _
    cases top with
    | false => rfl
    | true => simp at c7 ⊢; omega
  have HNO : Hid (∀ z : Bool, ks.any noC = z ∨ True → True) := fun _ _ => trivial
  clear HNO
  have hrg0 : 0 ≤ xrg := by omega
  go_cut [43] (fun t43 wx => t43 = .bool false ∧ wx = w0)
  case first =>
    cases top with
    | false =>
      go_wp2_with fail
      go_meet
      exact ⟨rfl, rfl⟩
    | true =>
      have c8 : ¬ (nu : Int) > 0 := by simp at c7; omega
      go_wp2_with fail
      go_meet
      exact ⟨by rw [show decide (0 < nu) = false by simp; omega], rfl⟩
  case rest =>
    obtain ⟨rfl, hwc⟩ := hcut
    have hwc2 := hwc.symm
    clear hwc
    subst hwc2
    clear q0 q1 q2 q3 c7 c5 c6
    go_wp2_with fail
    go_loopw [7, 8] (fun t7 t8 wr => ∃ (i : Nat), i ≤ nk ∧ t7 = .int .i64 i ∧ Hid ((ks.take i).any noC = false) ∧ Hid (Below w0.heap.size w0 wr)) (fun t7 _ _ => nk - (intOf t7).toNat)
    case atStart => exact ⟨0, Nat.zero_le _, rfl, rfl, Below.refl _ _⟩
    case round =>
      obtain ⟨i, hi, rfl, HJ, HB⟩ := hrel
      have HBw : Hid (Below w.heap.size w wr) := HB0.out.trans (HB.out.mono HB0.out.size)
      have r4 : wr.cell? ⟨w.heap.size, 4, none⟩ = some (.slice ak nk ck) := box6 HA.out HB.out (Nat.le_refl _) rfl
      by_cases c : i < nk
      · have i1 : i < ks.length := by have := HN.out; omega
        obtain ⟨-, g, o, rfl, K, N, S, O, hl, ⟨b1, b2, b3, b4⟩, e0, e1, e2, e3⟩ := (HSK.out.kept HBw.out (Nat.le_refl _)).get i1
        have HT1 : Hid ((ks.take (i + 1)).any noC = noC ⟨K, N, S, O⟩) := by
          show _ = _
          rw [List.take_succ_eq_append_getElem i1, List.any_append, HJ.out, hl]
          simp
        have HT2 : Hid (noC ⟨K, N, S, O⟩ = true → R = 1) := by
          intro e
          have : ks.any noC = true := List.any_eq_true.2 ⟨ks[i], List.getElem_mem i1, by rw [hl]; exact e⟩
          rw [HR.out, this]
          simp
        obtain ⟨bv, hbv⟩ : ∃ bv, bv = wr.heap.size := ⟨_, rfl⟩
        obtain ⟨wv, hwv⟩ : ∃ wv, wv = wr.alloc (.cells #[.int .i64 K, .int .u64 N, .string S, .int .i64 O] 63) := ⟨_, rfl⟩
        have HBv : Hid (Below wr.heap.size wr wv) := by rw [hwv]; exact (Below.refl _ _).alloc (Nat.le_refl _) _
        have p0 : ∀ p : BelowOf wv, p.u.cell? ⟨bv, 0, none⟩ = some (.int .i64 K) := fun p => cell_kept p.h (Nat.le_refl _) (by rw [hwv, hbv]; simp)
        have p1 : ∀ p : BelowOf wv, p.u.cell? ⟨bv, 1, none⟩ = some (.int .u64 N) := fun p => cell_kept p.h (Nat.le_refl _) (by rw [hwv, hbv]; simp)
        have p2 : ∀ p : BelowOf wv, p.u.cell? ⟨bv, 2, none⟩ = some (.string S) := fun p => cell_kept p.h (Nat.le_refl _) (by rw [hwv, hbv]; simp)
        have p3 : ∀ p : BelowOf wv, p.u.cell? ⟨bv, 3, none⟩ = some (.int .i64 O) := fun p => cell_kept p.h (Nat.le_refl _) (by rw [hwv, hbv]; simp)
        have HNm : Hid (∀ w, Calls Tryd.prog 71 #[.agg #[.int .i64 K, .int .u64 N, .string S, .int .i64 O]] w fun e w' => e = .returned (.agg #[.int .i64 (nK K), .int .u64 (nN K N), .string (nS K S), .int .i64 (nO K O)]) ∧ Below w.heap.size w w') := fun w => refNormal_any K N S O w ⟨b2.1, b2.2⟩
        have HQ := fun w => neqV (nK K) K (nN K N) N (nS K S) S (nO K O) O w
        have HM : Hid (((nK K == K) && (nN K N == N) && ((nS K S).toList == S.toList) && (nO K O == O)) = normB K N S O) := rfl
        rw [HM.out] at HQ
        have hInh : Inhabited (BelowOf wv) := ⟨⟨wv, Below.refl _ _⟩⟩
        have HC : Hid (noC ⟨K, N, S, O⟩ = (!(inB K 5) || !(normB K N S O))) := rfl
        have HNXT : Hid (∀ wq, Below wv.heap.size wv wq → Below w0.heap.size w0 wq) := fun wq hq => HB.out.trans ((HBv.out.mono HB.out.size).trans (hq.mono (Nat.le_trans HB.out.size HBv.out.size)))
        clear hl
        go_upto_region 7 with fail
        rw [← hbv, ← hwv]
        clear hbv hwv e0 e1 e2 e3
        generalize normB K N S O = zn at *
        generalize nK K = K' at *
        generalize nN K N = N' at *
        generalize nS K S = S' at *
        generalize nO K O = O' at *
        by_cases k1 : K < 0
        · have hd1 : decide (K < 0) = true := by simp [k1]
          have HF : Hid (R = 1) := HT2.out (by rw [HC.out, show inB K 5 = false by unfold inB; simp; omega]; rfl)
          refine wp_region_below (by kernel_rfl) (by kernel_rfl) ?_
          repeat (quiet_step (fail))
          refine wpQuiet_nil ?_
          intro wq hw'
          obtain ⟨⟨w9, hwq⟩, hw''⟩ := hw'
          subst hw''
          have HBq := hide_p (HNXT.out _ hwq)
          clear p0 p1 p2 p3 hwq
          go_wp2
          go_ret
          exact ⟨by rw [HF.out]; rfl, HB0.out.trans (HBq.out.mono HB0.out.size)⟩
        · have hd1 : decide (K < 0) = false := by simp; omega
          by_cases k2 : K > 4
          · have hd2 : decide (K > 4) = true := by simp; omega
            have HF : Hid (R = 1) := HT2.out (by rw [HC.out, show inB K 5 = false by unfold inB; simp; omega]; rfl)
            refine wp_region_below (by kernel_rfl) (by kernel_rfl) ?_
            repeat (quiet_step (fail))
            refine wpQuiet_nil ?_
            intro wq hw'
            obtain ⟨⟨w9, hwq⟩, hw''⟩ := hw'
            subst hw''
            have HBq := hide_p (HNXT.out _ hwq)
            clear p0 p1 p2 p3 hwq
            go_wp2
            go_ret
            exact ⟨by rw [HF.out]; rfl, HB0.out.trans (HBq.out.mono HB0.out.size)⟩
          · have hd2 : decide (K > 4) = false := by simp; omega
            have HC2 : Hid (noC ⟨K, N, S, O⟩ = !zn) := by show _ = _; rw [HC.out, show inB K 5 = true by unfold inB; simp; omega]; rfl
            rw [HC2.out] at HT1 HT2
            refine wp_region_below (by kernel_rfl) (by kernel_rfl) ?_
            repeat (quiet_step (fail))
            quiet_step ((go_at_call 71; exact below_of (HNm.out _)))
            repeat (quiet_step (fail))
            refine wpQuiet_nil ?_
            intro wq hw'
            obtain ⟨⟨w9, hwq⟩, hw''⟩ := hw'
            subst hw''
            have HBq := hide_p (HNXT.out _ hwq)
            clear p0 p1 p2 p3 hwq HQ HNm
            cases zn with
            | false =>
              have HF : Hid (R = 1) := HT2.out rfl
              go_wp2
              go_ret
              exact ⟨by rw [HF.out]; rfl, HB0.out.trans (HBq.out.mono HB0.out.size)⟩
            | true =>
              have HT3 : Hid ((ks.take (i + 1)).any noC = false) := HT1.out
              go_wp2
              go_roundw
              case rel => exact ⟨i + 1, by omega, by go_num, HT3, HBq⟩
              case measure => simp [intOf]; omega
      · have e : i = nk := by omega
        have HKS : Hid (ks.any noC = false) := by
          have := HJ.out
          rw [List.take_of_length_le (by have := HN.out; omega)] at this
          exact this
        subst e
        obtain ⟨l1, hl1⟩ : ∃ l, l + 1 = nc := ⟨nc - 1, by omega⟩
        have i1 : l1 < cs.length := by have := HN.out; omega
        obtain ⟨-, g, o, rfl, op, xa, xb, xc, hl, -, e0, -, -, -⟩ := (HSC.out.kept HBw.out (Nat.le_refl _)).get i1
        have HEN : Hid (endB cs = ((op == 29) || (op == 33) || (op == 34))) := by
          show _ = _
          unfold endB
          rw [List.getLast?_eq_getElem?, show cs.length - 1 = l1 by have := HN.out; omega, List.getElem?_eq_getElem i1, hl]
        have r3 : wr.cell? ⟨w.heap.size, 3, none⟩ = some (.slice (some ⟨g, o, none⟩) nc cc) := box6 HA.out HB.out (Nat.le_refl _) rfl
        have hm1 : (nc : Int) - 1 = (l1 : Int) := by omega
        have hm2 : (l1 : Int) < (nc : Int) := by omega
        clear hl HJ
        obtain ⟨ze, HZE⟩ : ∃ z, Hid (endB cs = z) := ⟨_, rfl⟩
        rw [HZE.out] at HEN
        go_upto_region 10 with fail
        go_cut [88] (fun t88 wx => t88 = .bool (!ze) ∧ wx = wr)
        case first =>
          by_cases d1 : op = 29
          · subst d1
            have hz : ze = true := HEN.out
            subst hz
            go_wp2_with fail
            go_meet
            exact ⟨rfl, rfl⟩
          · have m1 : (op != 29) = true := by simp [d1]
            by_cases d2 : op = 33
            · subst d2
              have hz : ze = true := HEN.out
              subst hz
              go_wp2_with fail
              go_meet
              exact ⟨rfl, rfl⟩
            · have m2 : (op != 33) = true := by simp [d2]
              have hz : ze = (op == 34) := by rw [HEN.out]; simp [d1, d2]
              subst hz
              go_wp2_with fail
              go_meet
              exact ⟨rfl, rfl⟩
        case rest =>
          obtain ⟨rfl, rfl⟩ := hcut
          clear e0 r3 r4 hm1 hm2 hl1 i1
          cases ze with
          | false =>
            have HF : Hid (R = 1) := by show _ = _; rw [HR.out, HZE.out]; simp
            go_wp2
            go_ret
            exact ⟨by rw [HF.out]; rfl, HBw.out⟩
          | true =>
            go_wp2_with fail
            go_loopw [10, 11, 12] (fun t10 t11 t12 wr => ∃ (j : Nat), j ≤ nu ∧ t10 = .int .i64 j ∧ Hid (findB (us.take j) rg' nu' = true) ∧ Hid (Below w0.heap.size w0 wr)) (fun t10 _ _ _ => nu - (intOf t10).toNat)
            case atStart => exact ⟨0, Nat.zero_le _, rfl, rfl, HB⟩
            case round =>
              obtain ⟨j, hj, rfl, HJ, HB2⟩ := hrel
              have HB2w : Hid (Below w.heap.size w wr) := HB0.out.trans (HB2.out.mono HB0.out.size)
              have r2 : wr.cell? ⟨w.heap.size, 2, none⟩ = some (.slice au nu cu) := box6 HA.out HB2.out (Nat.le_refl _) rfl
              by_cases cj : j < nu
              · have j1 : j < us.length := by have := HN.out; omega
                obtain ⟨-, g2, o2, rfl, own, pl, hl, -, e0, e1⟩ := (HSU.out.kept HB2w.out (Nat.le_refl _)).get j1
                have HT1 : Hid (findB (us.take (j + 1)) rg' nu' = inB pl (if own then rg' else nu')) := by
                  show _ = _
                  unfold findB
                  rw [List.take_succ_eq_append_getElem j1, List.all_append]
                  have := HJ.out
                  unfold findB at this
                  rw [this, hl]
                  simp
                have HT2 : Hid (inB pl (if own then rg' else nu') = false → R = 1) := by
                  intro e
                  have : findB us rg' nu' = false := by
                    rw [Bool.eq_false_iff]
                    intro e2
                    have := List.all_eq_true.1 e2 _ (List.getElem_mem j1)
                    rw [hl] at this
                    simp only at this
                    rw [e] at this
                    cases this
                  rw [HR.out, this]
                  simp
                have s2 : wr.cell? ⟨w.heap.size + 1, 2, none⟩ = some (.slice au' nu' cu') := box6 HD.out HB2.out (Nat.le_refl _) rfl
                have s1 : wr.cell? ⟨w.heap.size + 1, 1, none⟩ = some (.int .i64 rg') := box6 HD.out HB2.out (Nat.le_refl _) rfl
                have hszr : w.heap.size + 2 ≤ wr.heap.size := by have := HB2.out.size; have := HS0.out; omega
                have HB3 : Hid (Below w0.heap.size w0 ((wr.alloc (.cells #[.bool own, .int .i64 pl] 54)).drew)) := (HB2.out.alloc HB2.out.size _).drew
                clear hl
                go_wp2_with fail
                go_region_held3 (fun w' => w'.cell? ⟨w.heap.size, 2, none⟩ = some (.slice (some ⟨g2, o2, none⟩) nu cu) ∧ w'.cell? ⟨g2, o2 + j * 2, none⟩ = some (.bool own) ∧ w'.cell? ⟨g2, o2 + j * 2 + 1, none⟩ = some (.int .i64 pl) ∧ w'.cell? ⟨w.heap.size + 1, 2, none⟩ = some (.slice au' nu' cu')) (go_keep) (fail)
                rename_i hHeld
                clear hHeld
                obtain ⟨w7, hw7⟩ : ∃ w7, w7 = (wr.alloc (.cells #[.bool own, .int .i64 pl] 54)).drew := ⟨_, rfl⟩
                rw [← hw7] at HB3 ⊢
                have z0 : w7.cell? ⟨wr.heap.size, 0, none⟩ = some (.bool own) := by rw [hw7]; simp
                have z1 : w7.cell? ⟨wr.heap.size, 1, none⟩ = some (.int .i64 pl) := by rw [hw7]; simp
                have z2 : w7.cell? ⟨w.heap.size + 1, 1, none⟩ = some (.int .i64 rg') := by
                  have hb : Below wr.heap.size wr w7 := by rw [hw7]; exact ((Below.refl _ _).alloc (Nat.le_refl _) _).drew
                  exact cell_kept hb (Nat.le_refl _) s1
                clear hw7 e0 e1 r2 s1 s2
                cases own
                case false =>
                  simp only [Bool.false_eq_true, if_false] at HT1 HT2
                  by_cases y1 : pl < 0
                  · have HF : Hid (R = 1) := HT2.out (by unfold inB; simp; omega)
                    go_wp2
                    go_ret
                    exact ⟨by rw [HF.out]; rfl, HB0.out.trans (HB3.out.mono HB0.out.size)⟩
                  · by_cases y2 : pl ≥ (nu' : Int)
                    · have HF : Hid (R = 1) := HT2.out (by unfold inB; simp; omega)
                      go_wp2
                      go_ret
                      exact ⟨by rw [HF.out]; rfl, HB0.out.trans (HB3.out.mono HB0.out.size)⟩
                    · have HT3 : Hid (findB (us.take (j + 1)) rg' nu' = true) := by show _ = _; rw [HT1.out]; unfold inB; simp; omega
                      go_wp2
                      go_roundw
                      case rel => first | exact ⟨j + 1, by omega, by go_num, HT3, HB3⟩ | exact ⟨j + 1, by omega, by omega, HT3⟩
                      case measure => simp [intOf]; omega
                case true =>
                  simp only [if_true] at HT1 HT2
                  by_cases y1 : pl < 0
                  · have HF : Hid (R = 1) := HT2.out (by unfold inB; simp; omega)
                    go_wp2
                    go_ret
                    exact ⟨by rw [HF.out]; rfl, HB0.out.trans (HB3.out.mono HB0.out.size)⟩
                  · by_cases y2 : pl ≥ rg'
                    · have HF : Hid (R = 1) := HT2.out (by unfold inB; simp; omega)
                      go_wp2
                      go_ret
                      exact ⟨by rw [HF.out]; rfl, HB0.out.trans (HB3.out.mono HB0.out.size)⟩
                    · have HT3 : Hid (findB (us.take (j + 1)) rg' nu' = true) := by show _ = _; rw [HT1.out]; unfold inB; simp; omega
                      go_wp2
                      go_roundw
                      case rel => first | exact ⟨j + 1, by omega, by go_num, HT3, HB3⟩ | exact ⟨j + 1, by omega, by omega, HT3⟩
                      case measure => simp [intOf]; omega
              · have e : j = nu := by omega
                have HFU : Hid (findB us rg' nu' = true) := by
                  have := HJ.out
                  rw [List.take_of_length_le (by have := HN.out; omega)] at this
                  exact this
                subst e
                clear HJ
                go_wp2_with fail
                clear r2
                go_loopw [13] (fun t13 wr => ∃ (k : Nat), k ≤ nc ∧ t13 = .int .i64 k ∧ Hid ((cs.take k).all (ordB ⟨xrg, j, nc, i, np⟩) = true) ∧ Hid (Below w0.heap.size w0 wr)) (fun t13 _ => nc - (intOf t13).toNat)
                case atStart => exact ⟨0, Nat.zero_le _, rfl, rfl, HB2⟩
                case round =>
                  obtain ⟨k, hk, rfl, HJ, HB4⟩ := hrel
                  have HB4w : Hid (Below w.heap.size w wr) := HB0.out.trans (HB4.out.mono HB0.out.size)
                  have r3 : wr.cell? ⟨w.heap.size, 3, none⟩ = some (.slice (some ⟨g, o, none⟩) nc cc) := box6 HA.out HB4.out (Nat.le_refl _) rfl
                  by_cases ck5 : k < nc
                  · have k1 : k < cs.length := by have := HN.out; omega
                    obtain ⟨-, g5, o5, hgo, op5, ya, yb, yc, hl, hok, f0, f1, f2, f3⟩ := (HSC.out.kept HB4w.out (Nat.le_refl _)).get k1
                    injection hgo with hgo
                    injection hgo with hg1 hg2
                    subst hg1 hg2
                    have HT1 : Hid ((cs.take (k + 1)).all (ordB ⟨xrg, j, nc, i, np⟩) = ordB ⟨xrg, j, nc, i, np⟩ ⟨op5, ya, yb, yc⟩) := by
                      show _ = _
                      rw [List.take_succ_eq_append_getElem k1, List.all_append, HJ.out, hl]
                      simp
                    have HT2 : Hid (ordB ⟨xrg, j, nc, i, np⟩ ⟨op5, ya, yb, yc⟩ = false → R = 1) := by
                      intro e
                      have : cs.all (ordB ⟨xrg, j, nc, i, np⟩) = false := by
                        rw [Bool.eq_false_iff]
                        intro e2
                        have := List.all_eq_true.1 e2 _ (List.getElem_mem k1)
                        rw [hl, e] at this
                        cases this
                      rw [HR.out, this]
                      simp
                    have HCA : Hid (∀ w, Calls Tryd.prog 72 #[.agg #[.int .i64 xpa, .int .i64 xrg, .slice au j cu, .slice (some ⟨g, o, none⟩) nc cc, .slice ak i ck, .slice ap np cp], .agg #[.int .i64 op5, .int .i64 ya, .int .i64 yb, .int .i64 yc]] w fun e w' => e = .returned (.bool (ordB ⟨xrg, j, nc, i, np⟩ ⟨op5, ya, yb, yc⟩)) ∧ Below w.heap.size w w') := fun w => by
                      have := can_any op5 ya yb yc xpa xrg au (some ⟨g, o, none⟩) ak ap j cu nc cc i ck np cp w hrg0 HRG.out hok.2.1
                      rw [can_ord _ _ hrg0] at this
                      exact this
                    have p0 : ∀ p : BelowOf wr, p.u.cell? ⟨w.heap.size, 0, none⟩ = some (.int .i64 xpa) := fun p => cell_kept p.h (Nat.le_refl _) (box6 HA.out HB4.out (Nat.le_refl _) rfl)
                    have p1 : ∀ p : BelowOf wr, p.u.cell? ⟨w.heap.size, 1, none⟩ = some (.int .i64 xrg) := fun p => cell_kept p.h (Nat.le_refl _) (box6 HA.out HB4.out (Nat.le_refl _) rfl)
                    have p2 : ∀ p : BelowOf wr, p.u.cell? ⟨w.heap.size, 2, none⟩ = some (.slice au j cu) := fun p => cell_kept p.h (Nat.le_refl _) (box6 HA.out HB4.out (Nat.le_refl _) rfl)
                    have p3 : ∀ p : BelowOf wr, p.u.cell? ⟨w.heap.size, 3, none⟩ = some (.slice (some ⟨g, o, none⟩) nc cc) := fun p => cell_kept p.h (Nat.le_refl _) r3
                    have p4 : ∀ p : BelowOf wr, p.u.cell? ⟨w.heap.size, 4, none⟩ = some (.slice ak i ck) := fun p => cell_kept p.h (Nat.le_refl _) (box6 HA.out HB4.out (Nat.le_refl _) rfl)
                    have p5 : ∀ p : BelowOf wr, p.u.cell? ⟨w.heap.size, 5, none⟩ = some (.slice ap np cp) := fun p => cell_kept p.h (Nat.le_refl _) (box6 HA.out HB4.out (Nat.le_refl _) rfl)
                    have t0 : ∀ p : BelowOf wr, p.u.cell? ⟨g, o + k * 4, none⟩ = some (.int .i64 op5) := fun p => cell_kept p.h (Nat.le_refl _) f0
                    have t1 : ∀ p : BelowOf wr, p.u.cell? ⟨g, o + k * 4 + 1, none⟩ = some (.int .i64 ya) := fun p => cell_kept p.h (Nat.le_refl _) f1
                    have t2 : ∀ p : BelowOf wr, p.u.cell? ⟨g, o + k * 4 + 2, none⟩ = some (.int .i64 yb) := fun p => cell_kept p.h (Nat.le_refl _) f2
                    have t3 : ∀ p : BelowOf wr, p.u.cell? ⟨g, o + k * 4 + 3, none⟩ = some (.int .i64 yc) := fun p => cell_kept p.h (Nat.le_refl _) f3
                    have hInh : Inhabited (BelowOf wr) := ⟨⟨wr, Below.refl _ _⟩⟩
                    generalize ordB ⟨xrg, j, nc, i, np⟩ ⟨op5, ya, yb, yc⟩ = zo at *
                    clear hl hok f0 f1 f2 f3
                    go_wp2_with fail
                    refine wp_region_below (by kernel_rfl) (by kernel_rfl) ?_
                    repeat (quiet_step (fail))
                    quiet_step ((go_at_call 72; exact below_of (HCA.out _)))
                    repeat (quiet_step (fail))
                    refine wpQuiet_nil ?_
                    intro wq hw'
                    obtain ⟨⟨w9, hwq⟩, hw''⟩ := hw'
                    subst hw''
                    have HBq : Hid (Below w0.heap.size w0 wq) := HB4.out.trans (hwq.mono HB4.out.size)
                    clear p0 p1 p2 p3 p4 p5 t0 t1 t2 t3 hwq HCA r3
                    cases zo with
                    | false =>
                      have HF : Hid (R = 1) := HT2.out rfl
                      go_wp2
                      go_ret
                      exact ⟨by rw [HF.out]; rfl, HB0.out.trans (HBq.out.mono HB0.out.size)⟩
                    | true =>
                      have HT3 : Hid ((cs.take (k + 1)).all (ordB ⟨xrg, j, nc, i, np⟩) = true) := HT1.out
                      go_wp2
                      go_roundw
                      case rel => first | exact ⟨k + 1, by omega, by go_num, HT3, HBq⟩ | exact ⟨_, _, _, _, _, _, _, _, _, _, _, _, _, _, _, _, _, ⟨k + 1, by omega, by go_num, HT3, HBq⟩, rfl⟩
                      case measure => simp [intOf]; omega
                  · have e : k = nc := by omega
                    have HF : Hid (R = 0) := by
                      have h1 := HJ.out
                      rw [List.take_of_length_le (by have := HN.out; omega)] at h1
                      show _ = _
                      rw [HR.out, HIN.out, HPR.out, HKS.out, HZE.out, h1, HTP.out, HFU.out]
                      simp
                    subst e
                    go_wp2
                    go_ret
                    exact ⟨by rw [HF.out]; rfl, HB4w.out⟩

end Go.Proofs.YtcblknghkgihcaaDoor
namespace Go.Proofs.YtcblknghkgihcaaDoor
set_option maxRecDepth 100000
open Go.RowKit Txt Pg Flo

theorem chkL_le : ∀ (ps : List Pr) (rg : Int) (nu d n m : Nat), (∀ q ∈ ps, ∀ n' m', chkT q rg nu d n' = (m', 0) → m' ≤ 4096) → n ≤ 4096 → chkL rg nu d n ps = (m, 0) → m ≤ 4096
  | [], _, _, _, n, m, _, hn, h => by
    have : (n, (0 : Int)) = (m, 0) := h
    injection this with h1 _
    omega
  | p :: ps, rg, nu, d, n, m, hq, hn, h => by
    have h1 : chkL rg nu d n (p :: ps) = ps.foldl (fun r q => if r.2 = 0 then chkT q rg nu d r.1 else r) (chkT p rg nu d n) := rfl
    rw [h1] at h
    by_cases c : (chkT p rg nu d n).2 = 0
    · obtain ⟨n1, hn1⟩ : ∃ n1, chkT p rg nu d n = (n1, 0) := ⟨(chkT p rg nu d n).1, Prod.ext rfl c⟩
      rw [hn1] at h
      exact chkL_le ps rg nu d n1 m (fun q hq' => hq q (List.mem_cons_of_mem _ hq')) (hq p List.mem_cons_self n n1 hn1) h
    · rw [fold_bad (fun r q h => if_neg h) _ _ c] at h
      rw [h] at c
      exact absurd rfl c
theorem chkT_le : ∀ (t : Pr) (rg : Int) (nu d n m : Nat), chkT t rg nu d n = (m, 0) → m ≤ 4096 := by
  refine Pr.ind' fun pa rg us cs ks ps ih => ?_
  intro arg anu d n m h
  rw [chkT_mk] at h
  split at h
  · cases h
  · split at h
    · cases h
    · next c1 c2 =>
      simp only [Bool.or_eq_true, decide_eq_true_eq, not_or] at c1
      exact chkL_le ps _ _ _ _ _ (fun q hq n' m' h' => ih q hq _ _ _ _ _ h') (by omega) h

/-- The same, also for a whole script. -/
def chkG (t : Pr) (arg : Int) (anu deep n : Nat) : Nat × Int :=
  if (longB t.rg t.cs.length t.ks.length t.us.length || decide (deep > 100) || decide (n + 1 > 4096)) = true then (n + 1, 2)
  else if badB t arg anu (decide (deep = 0)) = true then (n + 1, 1)
  else chkL t.rg t.us.length (deep + 1) (n + 1) t.ps
theorem chkG_T (t : Pr) (arg : Int) (anu deep n : Nat) (h : 0 < deep) : chkG t arg anu deep n = chkT t arg anu deep n := by
  obtain ⟨pa, rg, us, cs, ks, ps⟩ := t
  rw [chkT_mk]
  unfold chkG badB
  rw [show decide (deep = 0) = false by simp; omega]
  simp
theorem chkG_B (t : Pr) : (chkG t 0 0 0 0).2 = chkB t := by
  obtain ⟨pa, rg, us, cs, ks, ps⟩ := t
  unfold chkG chkB badB
  simp only [Nat.zero_add, show decide ((0 : Nat) > 100) = false from rfl, show decide ((1 : Nat) > 4096) = false from rfl, Bool.or_false, decide_true, Bool.true_and]
  by_cases c1 : longB rg cs.length ks.length us.length = true
  · rw [if_pos c1, if_pos c1]
  · rw [if_neg c1, if_neg c1]
    cases us with
    | nil => simp [findB]; split <;> rfl
    | cons u us => simp

set_option maxHeartbeats 1000000 in
theorem rcheck_any : ∀ (t : Pr) (x : Six) (pa' rg' : Int) (au' : Option Addr) (nu' cu' : Nat) (vc' vk' vp' : Value) (deep n : Nat) (w : World), PR w t x → deep ≤ 101 → n ≤ 4096 →
    Calls Tryd.prog 37 #[x.v, .agg #[.int .i64 pa', .int .i64 rg', .slice au' nu' cu', vc', vk', vp'], .int .i64 deep, .int .i64 n] w fun e w' => e = .returned (.tuple #[.int .i64 (chkG t rg' nu' deep n).1, .int .i64 (chkG t rg' nu' deep n).2]) ∧ Below w.heap.size w w' := by
  refine Pr.ind' fun pa rg us cs ks ps ih => ?_
  intro x pa' rg' au' nu' cu' vc' vk' vp' deep n w h hdeep hn
  have HPR := hide_p h
  rw [PR_mk] at h
  obtain ⟨xpa, xrg, vu, vc, vk, vp⟩ := x
  simp only at h
  obtain ⟨rfl, rfl, hpa, hrg, hu, hc, hk, f, hp, hch⟩ := h
  obtain ⟨au, cu, rfl, -, -, lu⟩ := hu.1.val
  obtain ⟨ac, cc, rfl, -, -, lc⟩ := hc.1.val
  obtain ⟨ak, ck, rfl, -, -, lk⟩ := hk.1.val
  obtain ⟨ap, cp, rfl, hpl, hpc, lp⟩ := hp.val
  have HAL : Hid (∀ w', Below w.heap.size w w' → Calls Tryd.prog 59 #[.agg #[.int .i64 xpa, .int .i64 xrg, .slice au us.length cu, .slice ac cs.length cc, .slice ak ks.length ck, .slice ap ps.length cp], .agg #[.int .i64 pa', .int .i64 rg', .slice au' nu' cu', vc', vk', vp'], .bool (decide ((deep : Int) = 0))] w' fun e w'' => e = .returned (.int .i64 (if badB (.mk xpa xrg us cs ks ps) rg' nu' (decide (deep = 0)) then 1 else 0)) ∧ Below w'.heap.size w' w'') := fun w' hb => by
    have := alone_any (.mk xpa xrg us cs ks ps) _ pa' rg' au' nu' cu' vc' vk' vp' (decide (deep = 0)) w' (PR.kept hb (Nat.le_refl _) _ _ HPR.out)
    simp only [Six.v] at this
    rw [show decide ((deep : Int) = 0) = decide (deep = 0) by simp]
    exact this
  have HG : Hid (chkG (.mk xpa xrg us cs ks ps) rg' nu' deep n = if (longB xrg cs.length ks.length us.length || decide (deep > 100) || decide (n + 1 > 4096)) = true then (n + 1, 2)
      else if badB (.mk xpa xrg us cs ks ps) rg' nu' (decide (deep = 0)) = true then (n + 1, 1)
      else chkL xrg us.length (deep + 1) (n + 1) ps) := rfl
  obtain ⟨zb, HZB⟩ : ∃ z, Hid (badB (.mk xpa xrg us cs ks ps) rg' nu' (decide (deep = 0)) = z) := ⟨_, rfl⟩
  rw [HZB.out] at HG HAL
  obtain ⟨⟨m0, e0⟩, hr0⟩ : ∃ r, r = chkG (.mk xpa xrg us cs ks ps) rg' nu' deep n := ⟨_, rfl⟩
  rw [← hr0] at HG ⊢
  clear hr0
  unfold Six.v
  simp only
  have HI : Hid _ := ih
  have HCH := (show Hid (∀ i (h : i < ps.length), PR w ps[i] (f i)) from hch)
  obtain ⟨nu, hnu⟩ : ∃ n, n = us.length := ⟨_, rfl⟩
  obtain ⟨nc, hnc⟩ : ∃ n, n = cs.length := ⟨_, rfl⟩
  obtain ⟨nk, hnk⟩ : ∃ n, n = ks.length := ⟨_, rfl⟩
  obtain ⟨np, hnp⟩ : ∃ n, n = ps.length := ⟨_, rfl⟩
  have HNP := hide_p hnp
  have HSP : Hid (SL w (.slice ap np cp) ps.length 6 (fun i j u => u = (f i).at j)) := by rw [hnp]; exact hp
  rw [← hnu, ← hnc, ← hnk] at HG
  rw [← hnu, ← hnc, ← hnk, ← hnp] at HAL ⊢
  rw [← hnp] at hpl lp
  unfold far at lp
  clear hu hc hk hp hch ih hnu hnc hnk hnp lu lc lk
  obtain ⟨w0, hw0⟩ : ∃ w0, w0 = (w.alloc (.cells #[.int .i64 xpa, .int .i64 xrg, .slice au nu cu, .slice ac nc cc, .slice ak nk ck, .slice ap np cp] 27)).alloc (.cells #[.int .i64 pa', .int .i64 rg', .slice au' nu' cu', vc', vk', vp'] 27) := ⟨_, rfl⟩
  have HB0 : Hid (Below w.heap.size w w0) := by rw [hw0]; exact ((Below.refl _ w).alloc (Nat.le_refl _) _).alloc (by simp) _
  have HA : Hid (∀ j, w0.cell? ⟨w.heap.size, j, none⟩ = (#[.int .i64 xpa, .int .i64 xrg, .slice au nu cu, .slice ac nc cc, .slice ak nk ck, .slice ap np cp] : Array Value)[j]?) := by
    intro j
    rw [hw0, World.cell?_alloc_lt _ _ _ (by simp), World.cell?_alloc_new]
  have HD : Hid (∀ j, w0.cell? ⟨w.heap.size + 1, j, none⟩ = (#[.int .i64 pa', .int .i64 rg', .slice au' nu' cu', vc', vk', vp'] : Array Value)[j]?) := by
    intro j
    rw [hw0, World.cell?_alloc_at _ _ _ _ (by simp)]
  have q0 : w0.cell? ⟨w.heap.size, 0, none⟩ = some (.int .i64 xpa) := HA.out 0
  have q1 : w0.cell? ⟨w.heap.size, 1, none⟩ = some (.int .i64 xrg) := HA.out 1
  have q2 : w0.cell? ⟨w.heap.size, 2, none⟩ = some (.slice au nu cu) := HA.out 2
  have q3 : w0.cell? ⟨w.heap.size, 3, none⟩ = some (.slice ac nc cc) := HA.out 3
  have q4 : w0.cell? ⟨w.heap.size, 4, none⟩ = some (.slice ak nk ck) := HA.out 4
  have q5 : w0.cell? ⟨w.heap.size, 5, none⟩ = some (.slice ap np cp) := HA.out 5
  have s0 : w0.cell? ⟨w.heap.size + 1, 0, none⟩ = some (.int .i64 pa') := HD.out 0
  have s1 : w0.cell? ⟨w.heap.size + 1, 1, none⟩ = some (.int .i64 rg') := HD.out 1
  have s2 : w0.cell? ⟨w.heap.size + 1, 2, none⟩ = some (.slice au' nu' cu') := HD.out 2
  have s3 : w0.cell? ⟨w.heap.size + 1, 3, none⟩ = some vc' := HD.out 3
  have s4 : w0.cell? ⟨w.heap.size + 1, 4, none⟩ = some vk' := HD.out 4
  have s5 : w0.cell? ⟨w.heap.size + 1, 5, none⟩ = some vp' := HD.out 5
  obtain ⟨zl, HZL⟩ : ∃ z, Hid ((longB xrg nc nk nu || decide (deep > 100) || decide (n + 1 > 4096)) = z) := ⟨_, rfl⟩
  rw [HZL.out] at HG
  go_enter Tryd.func37, Tryd.ntmps37
  go_upto_region 2 with fail
  rw [← hw0]
  clear hw0
  go_cut [44] (fun t44 wx => t44 = .bool zl ∧ wx = w0)
  case first =>
    by_cases d1 : xrg > 4096
    · have hz : zl = true := by rw [← HZL.out]; simp [longB]; omega
      subst hz
      go_wp2_with fail
      go_meet
      exact ⟨rfl, rfl⟩
    by_cases d2 : (nc : Int) > 131072
    · have hz : zl = true := by rw [← HZL.out]; simp [longB]; omega
      subst hz
      go_wp2_with fail
      go_meet
      exact ⟨rfl, rfl⟩
    by_cases d3 : (nk : Int) > 131072
    · have hz : zl = true := by rw [← HZL.out]; simp [longB]; omega
      subst hz
      go_wp2_with fail
      go_meet
      exact ⟨rfl, rfl⟩
    by_cases d4 : (nu : Int) > 60
    · have hz : zl = true := by rw [← HZL.out]; simp [longB]; omega
      subst hz
      go_wp2_with fail
      go_meet
      exact ⟨rfl, rfl⟩
    by_cases d5 : (deep : Int) > 100
    · have hz : zl = true := by rw [← HZL.out]; simp [longB]; omega
      subst hz
      go_wp2_with fail
      go_meet
      exact ⟨rfl, rfl⟩
    by_cases d6 : (n : Int) + 1 > 4096
    · have hz : zl = true := by rw [← HZL.out]; simp [longB]; omega
      subst hz
      go_wp2_with fail
      go_meet
      exact ⟨rfl, rfl⟩
    · have hz : zl = false := by rw [← HZL.out]; simp [longB]; omega
      subst hz
      go_wp2_with fail
      go_meet
      exact ⟨rfl, rfl⟩
  case rest =>
    obtain ⟨rfl, hwc⟩ := hcut
    have hwc2 := hwc.symm
    clear hwc
    subst hwc2
    cases zl with
    | true =>
      have HE : Hid (m0 = n + 1 ∧ e0 = 2) := by
        have := HG.out
        rw [if_pos rfl] at this
        injection this with h1 h2
        exact ⟨h1, h2⟩
      go_wp2
      go_ret2
      exact ⟨by rw [HE.out.1, HE.out.2]; rfl, HB0.out⟩
    | false =>
      have HL4 : Hid (deep ≤ 100 ∧ n + 1 ≤ 4096) := by
        have := HZL.out
        simp only [Bool.or_eq_false_iff, decide_eq_false_iff_not] at this
        show _ ∧ _
        omega
      have hl4 := HL4.out
      obtain ⟨zi, hzi⟩ : ∃ zi : Int, zi = if zb = true then 1 else 0 := ⟨_, rfl⟩
      rw [← hzi] at HAL
      have HZI := hide_p hzi
      clear hzi
      go_upto_region 4 with fail
      go_cut [10] (fun t10 wx => t10 = .int .i64 zi ∧ Hid (Below w0.heap.size w0 wx))
      case first =>
        have hal := HAL.out w0 HB0.out
        rcases Nat.eq_zero_or_pos deep with hd | hd
        · subst hd
          rw [show decide (((0 : Nat) : Int) = 0) = true from rfl] at hal
          go_wp2_with fail
          refine hal.mono ?_
          rintro e w1 ⟨rfl, hb1⟩
          have HB1 := hide_p hb1
          clear hal hb1
          go_wp2_with fail
          go_meet
          exact ⟨rfl, HB1⟩
        · have hne : ¬ (deep : Int) = 0 := by omega
          have hne2 : ((deep : Int) == 0) = false := by simp; omega
          rw [show decide ((deep : Int) = 0) = false by simp; omega] at hal
          go_wp2_with fail
          refine hal.mono ?_
          rintro e w1 ⟨rfl, hb1⟩
          have HB1 := hide_p hb1
          clear hal hb1
          go_wp2_with fail
          go_meet
          exact ⟨rfl, HB1⟩
      case rest =>
        obtain ⟨rfl, HB1⟩ := hcut
        clear q0 q1 q2 q3 q4 q5 s0 s1 s2 s3 s4 s5 HAL
        cases zb with
        | true =>
          obtain rfl : zi = 1 := HZI.out
          have HE : Hid (m0 = n + 1 ∧ e0 = 1) := by
            have := HG.out
            rw [if_neg (by simp), if_pos rfl] at this
            injection this with h1 h2
            exact ⟨h1, h2⟩
          go_wp2
          go_ret2
          exact ⟨by rw [HE.out.1, HE.out.2]; rfl, HB0.out.trans (HB1.out.mono HB0.out.size)⟩
        | false =>
          obtain rfl : zi = 0 := HZI.out
          have HG2 : Hid ((m0, e0) = chkL xrg nu (deep + 1) (n + 1) ps) := by
            have := HG.out
            rw [if_neg (by simp), if_neg (by simp)] at this
            exact this
          clear HG
          go_wp2_with fail
          go_loopw [3, 11, 12, 13] (fun t3 t11 t12 t13 wr => ∃ (i m : Nat), i ≤ np ∧ t11 = .int .i64 i ∧ t3 = .int .i64 m ∧ m ≤ 4096 ∧ Hid (chkL xrg nu (deep + 1) (n + 1) (ps.take i) = (m, 0)) ∧ Hid (Below w0.heap.size w0 wr)) (fun _ t11 _ _ _ => np - (intOf t11).toNat)
          case atStart => exact ⟨0, n + 1, Nat.zero_le _, rfl, by simp, by omega, rfl, HB1⟩
          case round =>
            obtain ⟨i, m, hi, rfl, rfl, hm, HL, HB⟩ := hrel
            have HBw : Hid (Below w.heap.size w wr) := HB0.out.trans (HB.out.mono HB0.out.size)
            have r5 : wr.cell? ⟨w.heap.size, 5, none⟩ = some (.slice ap np cp) := box6 HA.out HB.out (Nat.le_refl _) rfl
            by_cases c : i < np
            · have i1 : i < ps.length := by rw [← HNP.out]; exact c
              obtain ⟨-, g, o, rfl, f0, f1, f2, f3, f4, f5⟩ := SP.get (HSP.out.kept HBw.out (Nat.le_refl _)) i1
              have HTK : Hid (chkL xrg nu (deep + 1) (n + 1) (ps.take (i + 1)) = chkT ps[i] xrg nu (deep + 1) m) := chkL_take xrg nu (deep + 1) (n + 1) ps i i1 m HL.out
              have HST : Hid (∀ r, chkT ps[i] xrg nu (deep + 1) m = r → r.2 ≠ 0 → chkL xrg nu (deep + 1) (n + 1) ps = r) := fun r e hr => chkL_stop xrg nu (deep + 1) (n + 1) ps (i + 1) r (HTK.out.trans e) hr
              have HLE : Hid (∀ m', chkT ps[i] xrg nu (deep + 1) m = (m', 0) → m' ≤ 4096) := fun m' e => chkT_le _ _ _ _ _ _ e
              have HC : Hid (∀ p : BelowOf wr, Calls Tryd.prog 37 #[(f i).v, .agg #[.int .i64 xpa, .int .i64 xrg, .slice au nu cu, .slice ac nc cc, .slice ak nk ck, .slice (some ⟨g, o, none⟩) np cp], .int .i64 ((deep + 1 : Nat) : Int), .int .i64 m] p.u fun e w' => e = .returned (.tuple #[.int .i64 (chkT ps[i] xrg nu (deep + 1) m).1, .int .i64 (chkT ps[i] xrg nu (deep + 1) m).2]) ∧ Below p.u.heap.size p.u w') := fun p => by
                have := HI.out ps[i] (List.getElem_mem i1) (f i) xpa xrg au nu cu (.slice ac nc cc) (.slice ak nk ck) (.slice (some ⟨g, o, none⟩) np cp) (deep + 1) m p.u (PR.kept (HBw.out.trans (p.h.mono HBw.out.size)) (Nat.le_refl _) _ _ (HCH.out i i1)) (by omega) hm
                rw [chkG_T _ _ _ _ _ (by omega)] at this
                exact this
              generalize hrr : chkT ps[i] xrg nu (deep + 1) m = rr at *
              obtain ⟨m2, e2⟩ := rr
              clear hrr
              unfold Six.v at HC
              generalize f i = y at *
              obtain ⟨ypa, yrg, yu, yc, yk, yp⟩ := y
              simp only at f0 f1 f2 f3 f4 f5 HC
              rw [show ((deep + 1 : Nat) : Int) = (deep : Int) + 1 by omega] at HC
              have p0 : ∀ p : BelowOf wr, p.u.cell? ⟨w.heap.size, 0, none⟩ = some (.int .i64 xpa) := fun p => cell_kept p.h (Nat.le_refl _) (box6 HA.out HB.out (Nat.le_refl _) rfl)
              have p1 : ∀ p : BelowOf wr, p.u.cell? ⟨w.heap.size, 1, none⟩ = some (.int .i64 xrg) := fun p => cell_kept p.h (Nat.le_refl _) (box6 HA.out HB.out (Nat.le_refl _) rfl)
              have p2 : ∀ p : BelowOf wr, p.u.cell? ⟨w.heap.size, 2, none⟩ = some (.slice au nu cu) := fun p => cell_kept p.h (Nat.le_refl _) (box6 HA.out HB.out (Nat.le_refl _) rfl)
              have p3 : ∀ p : BelowOf wr, p.u.cell? ⟨w.heap.size, 3, none⟩ = some (.slice ac nc cc) := fun p => cell_kept p.h (Nat.le_refl _) (box6 HA.out HB.out (Nat.le_refl _) rfl)
              have p4 : ∀ p : BelowOf wr, p.u.cell? ⟨w.heap.size, 4, none⟩ = some (.slice ak nk ck) := fun p => cell_kept p.h (Nat.le_refl _) (box6 HA.out HB.out (Nat.le_refl _) rfl)
              have p5 : ∀ p : BelowOf wr, p.u.cell? ⟨w.heap.size, 5, none⟩ = some (.slice (some ⟨g, o, none⟩) np cp) := fun p => cell_kept p.h (Nat.le_refl _) r5
              have t0 : ∀ p : BelowOf wr, p.u.cell? ⟨g, o + i * 6, none⟩ = some (.int .i64 ypa) := fun p => cell_kept p.h (Nat.le_refl _) f0
              have t1 : ∀ p : BelowOf wr, p.u.cell? ⟨g, o + i * 6 + 1, none⟩ = some (.int .i64 yrg) := fun p => cell_kept p.h (Nat.le_refl _) f1
              have t2 : ∀ p : BelowOf wr, p.u.cell? ⟨g, o + i * 6 + 2, none⟩ = some yu := fun p => cell_kept p.h (Nat.le_refl _) f2
              have t3 : ∀ p : BelowOf wr, p.u.cell? ⟨g, o + i * 6 + 3, none⟩ = some yc := fun p => cell_kept p.h (Nat.le_refl _) f3
              have t4 : ∀ p : BelowOf wr, p.u.cell? ⟨g, o + i * 6 + 4, none⟩ = some yk := fun p => cell_kept p.h (Nat.le_refl _) f4
              have t5 : ∀ p : BelowOf wr, p.u.cell? ⟨g, o + i * 6 + 5, none⟩ = some yp := fun p => cell_kept p.h (Nat.le_refl _) f5
              have hInh : Inhabited (BelowOf wr) := ⟨⟨wr, Below.refl _ _⟩⟩
              have hwr : IntKind.i64.wrap ((deep : Int) + 1) = (deep : Int) + 1 := by rw [IntKind.wrap_i64]; omega
              clear f0 f1 f2 f3 f4 f5
              go_wp2_with fail
              refine wp_region_below (by kernel_rfl) (by kernel_rfl) ?_
              repeat (quiet_step (fail))
              quiet_step ((go_at_call 37; exact below_of (HC.out _)))
              repeat (quiet_step (fail))
              refine wpQuiet_nil ?_
              intro wq hw'
              obtain ⟨⟨w9, hwq⟩, hw''⟩ := hw'
              subst hw''
              have HBq : Hid (Below w0.heap.size w0 wq) := HB.out.trans (hwq.mono HB.out.size)
              clear p0 p1 p2 p3 p4 p5 t0 t1 t2 t3 t4 t5 hwq HC r5
              by_cases d3 : e2 = 0
              · subst d3
                have hm6 : m2 ≤ 4096 := HLE.out m2 rfl
                have HTK2 : Hid (chkL xrg nu (deep + 1) (n + 1) (ps.take (i + 1)) = (m2, 0)) := HTK.out
                clear HST HLE HTK
                go_wp2
                go_roundw
                case rel => first | exact ⟨i + 1, m2, by omega, by go_num, rfl, hm6, HTK2, HBq⟩ | exact ⟨i + 1, m2, by omega, by go_num, by go_num, hm6, HTK2, HBq⟩
                case measure => simp [intOf]; omega
              · have d4 : (e2 != 0) = true := by simp [d3]
                have HE : Hid (m0 = m2 ∧ e0 = e2) := by
                  have h1 := HST.out (m2, e2) rfl d3
                  have h2 := HG2.out
                  rw [h1] at h2
                  injection h2 with h3 h4
                  exact ⟨h3, h4⟩
                clear HST HLE HTK
                go_wp2
                go_ret2
                exact ⟨by rw [HE.out.1, HE.out.2]; rfl, HB0.out.trans (HBq.out.mono HB0.out.size)⟩
            · have e : i = np := by omega
              have HE : Hid (m0 = m ∧ e0 = 0) := by
                have h1 := HL.out
                rw [List.take_of_length_le (by rw [← HNP.out]; omega)] at h1
                have h2 := HG2.out
                rw [h1] at h2
                injection h2 with h3 h4
                exact ⟨h3, h4⟩
              subst e
              go_wp2
              go_ret2
              exact ⟨by rw [HE.out.1, HE.out.2]; rfl, HBw.out⟩

set_option maxHeartbeats 2000000 in
theorem rCheck_any (t : Pr) (x : Six) (w : World) (h : PR w t x) :
    Calls Tryd.prog 14 #[x.v] w fun e w' => e = .returned (.int .i64 (chkB t)) ∧ Below w.heap.size w w' := by
  have HP := hide_p h
  obtain ⟨a1, n1, c1, a2, n2, c2, a3, n3, c3, a4, n4, c4, h1, h2, h3, h4⟩ := six_form (PR.prs _ _ h)
  obtain ⟨pa, rg, vu, vc, vk, vp⟩ := x
  simp only at h1 h2 h3 h4
  subst h1 h2 h3 h4
  have hc := rcheck_any t _ 0 0 none 0 0 (.slice none 0 0) (.slice none 0 0) (.slice none 0 0) 0 0 (w.alloc (.cells #[.int .i64 pa, .int .i64 rg, .slice a1 n1 c1, .slice a2 n2 c2, .slice a3 n3 c3, .slice a4 n4 c4] 27)) (PR.kept ((Below.refl _ _).alloc (Nat.le_refl _) _) (Nat.le_refl _) _ _ HP.out) (by decide) (by decide)
  rw [chkG_B] at hc
  unfold Six.v at hc ⊢
  simp only at hc ⊢
  rw [show ((0 : Nat) : Int) = 0 from rfl] at hc
  generalize (chkG t 0 0 0 0).1 = m0 at *
  clear h
  go_enter Tryd.func14, Tryd.ntmps14
  go_wp2_with fail
  refine hc.mono ?_
  rintro e w1 ⟨rfl, hb⟩
  have HB : Hid (Below w.heap.size w w1) := ((Below.refl _ w).alloc (Nat.le_refl _) _).trans (hb.mono (by simp))
  clear hc hb
  go_wp2
  go_ret
  exact ⟨rfl, HB.out⟩

end Go.Proofs.YtcblknghkgihcaaDoor
namespace Go.Proofs.YtcblknghkgihcaaDoor
set_option maxRecDepth 100000
open Go.RowKit Crc Txt Pg

/-- The reference's read, of any tree. -/
theorem rread_any : ∀ (m : Nat), m ≤ 100 → ∀ (t : Tr) (v : Value) (w : World), CR w t v → Stx t → t.cnt ≤ 1000000 → Calls Tryd.prog 36 #[v, .int .i64 (100 - (m : Int))] w (RdR w (rdT m t)) := by
  intro m
  induction m with
  | zero => exact fun hm t v w h1 h2 h3 => read_of 0 hm (fun m' e => by omega) t v w h1 h2 h3
  | succ m ih =>
    intro hm t v w h1 h2 h3
    refine read_of (m + 1) hm (fun m' e => ?_) t v w h1 h2 h3
    have : m' = m := by omega
    subst this
    exact ih (by omega)

theorem many_cnt (t : Tr) : (manyL t).length + 1 ≤ t.cnt := by
  obtain ⟨k, n, s, l⟩ := t
  rw [Tr.cnt_mk]
  have := tlen_cnts l
  unfold manyL
  simp only
  split <;> simp <;> omega
theorem many_cnts (t : Tr) : cnts (manyL t) + 1 ≤ t.cnt := by
  obtain ⟨k, n, s, l⟩ := t
  rw [Tr.cnt_mk]
  unfold manyL
  simp only
  split
  · omega
  · rw [cnts_nil]; omega
theorem pcnts_map {f : Tr → Pr} {l : List Tr} (h : ∀ x ∈ l, (f x).cnt ≤ x.cnt) : pcnts (l.map f) ≤ cnts l := by
  induction l with
  | nil => simp [pcnts_nil]
  | cons a l ih =>
    rw [List.map_cons, pcnts_cons, cnts_cons]
    have h1 := h a List.mem_cons_self
    have h2 := ih (fun x hx => h x (List.mem_cons_of_mem _ hx))
    omega
/-- What four of its parts have of a tree's. -/
theorem four_cnt (t : Tr) : (manyL (atT t 2)).length + (manyL (atT t 3)).length + (manyL (atT t 4)).length + cnts (manyL (atT t 5)) + 1 ≤ t.cnt := by
  obtain ⟨k, n, s, l⟩ := t
  rw [Tr.cnt_mk]
  have hz : manyL zT = [] := rfl
  by_cases hk : k = 2
  · subst hk
    match l with
    | [] => simp [atT_mk, hz, cnts_nil]
    | [_] => simp [atT_mk, hz, cnts_nil]
    | [_, _] => simp [atT_mk, hz, cnts_nil]
    | [_, _, c] =>
      have := many_cnt c
      simp [atT_mk, hz, cnts_nil, cnts_cons]; omega
    | [_, _, c, d] =>
      have := many_cnt c
      have := many_cnt d
      simp [atT_mk, hz, cnts_nil, cnts_cons]; omega
    | [_, _, c, d, e] =>
      have := many_cnt c
      have := many_cnt d
      have := many_cnt e
      simp [atT_mk, hz, cnts_nil, cnts_cons]; omega
    | _ :: _ :: c :: d :: e :: f :: r =>
      have := many_cnt c
      have := many_cnt d
      have := many_cnt e
      have := many_cnts f
      simp [atT_mk, cnts_cons]; omega
  · have e : ∀ i, atT (.mk k n s l) i = zT := fun i => by unfold atT; rw [if_neg hk]
    rw [e, e, e, e, hz, cnts_nil]
    simp
theorem rd_cnt : ∀ (m : Nat) (t : Tr), (rdT m t).cnt ≤ t.cnt
  | 0, t => by
    rw [rdT, Pr.cnt_mk, pcnts_nil]
    simp only [List.length_map]
    have := four_cnt t
    omega
  | m + 1, t => by
    rw [rdT, Pr.cnt_mk]
    simp only [List.length_map]
    have h1 := four_cnt t
    have h2 := pcnts_map (f := rdT m) (l := manyL (atT t 5)) (fun x _ => rd_cnt m x)
    omega

theorem keep10 {W w' : World} {B C : Nat} {u0 u1 u2 u3 u4 u5 z0 z1 z2 z3 : Value} (h : W.cell? ⟨B, 0, none⟩ = some u0 ∧ W.cell? ⟨B, 1, none⟩ = some u1 ∧ W.cell? ⟨B, 2, none⟩ = some u2 ∧ W.cell? ⟨B, 3, none⟩ = some u3 ∧ W.cell? ⟨B, 4, none⟩ = some u4 ∧ W.cell? ⟨B, 5, none⟩ = some u5 ∧ W.cell? ⟨C, 0, none⟩ = some z0 ∧ W.cell? ⟨C, 1, none⟩ = some z1 ∧ W.cell? ⟨C, 2, none⟩ = some z2 ∧ W.cell? ⟨C, 3, none⟩ = some z3) (k : Below W.heap.size W w') :
    w'.cell? ⟨B, 0, none⟩ = some u0 ∧ w'.cell? ⟨B, 1, none⟩ = some u1 ∧ w'.cell? ⟨B, 2, none⟩ = some u2 ∧ w'.cell? ⟨B, 3, none⟩ = some u3 ∧ w'.cell? ⟨B, 4, none⟩ = some u4 ∧ w'.cell? ⟨B, 5, none⟩ = some u5 ∧ w'.cell? ⟨C, 0, none⟩ = some z0 ∧ w'.cell? ⟨C, 1, none⟩ = some z1 ∧ w'.cell? ⟨C, 2, none⟩ = some z2 ∧ w'.cell? ⟨C, 3, none⟩ = some z3 := by
  obtain ⟨h0, h1, h2, h3, h4, h5, g0, g1, g2, g3⟩ := h
  exact ⟨cell_kept k (Nat.le_refl _) h0, cell_kept k (Nat.le_refl _) h1, cell_kept k (Nat.le_refl _) h2, cell_kept k (Nat.le_refl _) h3, cell_kept k (Nat.le_refl _) h4, cell_kept k (Nat.le_refl _) h5, cell_kept k (Nat.le_refl _) g0, cell_kept k (Nat.le_refl _) g1, cell_kept k (Nat.le_refl _) g2, cell_kept k (Nat.le_refl _) g3⟩

set_option maxHeartbeats 8000000 in
theorem rfromCell_any (t : Tr) (v : Value) (w : World) (h : CR w t v) (hst : Stx t) (hcnt : t.cnt ≤ 100000) :
    Calls Tryd.prog 12 #[v] w (FcR w (decide (chkB (rdT 100 t) = 0) && sameT (cellT (rdT 100 t)) t) (rdT 100 t)) := by
  have HC := hide_p h
  have hrc := rd_cnt 100 t
  obtain ⟨r, hr⟩ : ∃ r, r = rdT 100 t := ⟨_, rfl⟩
  obtain ⟨Q, hQ⟩ : ∃ Q, Q = sameT (cellT r) t := ⟨_, rfl⟩
  rw [← hr] at hrc ⊢
  rw [← hQ]
  have HRE : Hid (∀ w', Below w.heap.size w w' → Calls Tryd.prog 36 #[v, .int .i64 0] w' (RdR w' r)) := by
    intro w' hb
    have := rread_any 100 (Nat.le_refl _) t v w' (HC.out.kept hb (Nat.le_refl _)) hst (by omega)
    rw [← hr] at this
    exact this
  have HCK : Hid (∀ (x : Six) w', PR w' r x → Calls Tryd.prog 14 #[x.v] w' fun e w'' => e = .returned (.int .i64 (chkB r)) ∧ Below w'.heap.size w' w'') := fun x w' hp => rCheck_any r x w' hp
  have HTS : Hid (∀ (x : Six) w', PR w' r x → Below w.heap.size w w' → Calls Tryd.prog 10 #[x.v] w' fun e w'' => ∃ u, e = .returned u ∧ Below w'.heap.size w' w'' ∧ Hid (∀ w3, Below w''.heap.size w'' w3 → Calls Tryd.prog 9 #[u, v] w3 fun e w4 => e = .returned (.bool Q) ∧ Below w3.heap.size w3 w4)) := by
    intro x w' hp hb
    refine (rtoCell_any r x w' w' hp (Below.refl _ _) (by omega)).mono ?_
    rintro e w'' ⟨u, rfl, hc, hb2⟩
    refine ⟨u, rfl, hb2, fun w3 hb3 => ?_⟩
    rw [hQ]
    exact same_any ((cellT r).dep + 1) _ _ _ _ _ (by omega) (hc.cr.kept hb3 (Nat.le_refl _)) (HC.out.kept (hb.trans ((hb2.mono hb.size).trans (hb3.mono (Nat.le_trans hb.size hb2.size)))) (Nat.le_refl _))
  obtain ⟨a, cap, rfl⟩ := h.shape
  clear h hst hcnt hr hQ hrc HC
  generalize t.k = k at *
  generalize t.n = n at *
  generalize t.s = s at *
  generalize t.l = l at *
  obtain ⟨c0, hc0⟩ : ∃ c0, c0 = chkB r := ⟨_, rfl⟩
  rw [← hc0] at HCK ⊢
  unfold cellV at HRE HTS ⊢
  obtain ⟨w1, hw1⟩ : ∃ w1, w1 = (w.alloc (.cells #[.int .i64 k, .int .u64 n, .string s, .slice a l.length cap] 33)).alloc (.cells #[.int .i64 0, .int .i64 0, .slice none 0 0, .slice none 0 0, .slice none 0 0, .slice none 0 0] 27) := ⟨_, rfl⟩
  have HB1 : Hid (Below w.heap.size w w1) := by show Below _ _ _; rw [hw1]; exact ((Below.refl _ _).alloc (Nat.le_refl _) _).alloc (by simp) _
  have HS1 : Hid (w1.heap.size = w.heap.size + 2) := by show _ = _; rw [hw1]; simp
  have HA1 : Hid (w1.heap[w.heap.size]? = some (.cells #[.int .i64 k, .int .u64 n, .string s, .slice a l.length cap] 33 (0, 0)) ∧ w1.heap[w.heap.size + 1]? = some (.cells #[.int .i64 0, .int .i64 0, .slice none 0 0, .slice none 0 0, .slice none 0 0, .slice none 0 0] 27 (0, 0))) := by
    show _ ∧ _
    rw [hw1]
    refine ⟨?_, heap_alloc_at _ _ _ (by simp)⟩
    rw [Below.heap_alloc _ _ _ (by simp)]
    exact heap_alloc_new _ _
  obtain ⟨x0, x1, x2, x3⟩ := block4 HA1.out.1
  have hs1 := HS1.out
  clear hc0
  go_enter Tryd.func12, Tryd.ntmps12
  go_upto_region 1 with fail
  rw [← hw1]
  clear hw1
  go_wp2_with fail
  refine (HRE.out w1 HB1.out).mono ?_
  rintro e w2 ⟨pa, rg, a1, n1, c1, a2, n2, c2, a3, n3, c3, a4, n4, c4, rfl, hb2, hprs⟩
  have HB2 := hide_p hb2
  have hsz2 := hb2.size
  have HB2w : Hid (Below w.heap.size w w2) := HB1.out.trans (hb2.mono HB1.out.size)
  have HP2 := hide_p hprs
  obtain ⟨w3, hw3⟩ : ∃ w3, w3 = w2.alloc (.cells #[.int .i64 pa, .int .i64 rg, .slice a1 n1 c1, .slice a2 n2 c2, .slice a3 n3 c3, .slice a4 n4 c4] 27) := ⟨_, rfl⟩
  have HB3 : Hid (Below w2.heap.size w2 w3 ∧ w3.heap[w2.heap.size]? = some (.cells #[.int .i64 pa, .int .i64 rg, .slice a1 n1 c1, .slice a2 n2 c2, .slice a3 n3 c3, .slice a4 n4 c4] 27 (0, 0))) := by
    show _ ∧ _
    rw [hw3]
    exact ⟨(Below.refl _ _).alloc (Nat.le_refl _) _, heap_alloc_new _ _⟩
  have HZ : Hid (∀ wq, Below w2.heap.size w2 wq → (∀ j, wq.frozen? ⟨w.heap.size + 1, j, none⟩ = false) ∧ wq.heap[w.heap.size + 1]? = some (.cells #[.int .i64 0, .int .i64 0, .slice none 0 0, .slice none 0 0, .slice none 0 0, .slice none 0 0] 27 (0, 0)) ∧ Below w.heap.size w wq) := by
    intro wq hq
    have e2 := ((hq.block (w.heap.size + 1) (by omega)).trans (HB2.out.block _ (by omega))).trans HA1.out.2
    exact ⟨fun j => Lib.frozen_of_heap e2 j, e2, HB2w.out.trans (hq.mono HB2w.out.size)⟩
  have HBX : Hid (∀ wq, Below w2.heap.size w2 wq → wq.heap[w.heap.size]? = some (.cells #[.int .i64 k, .int .u64 n, .string s, .slice a l.length cap] 33 (0, 0))) := fun wq hq => ((hq.block _ (by omega)).trans (HB2.out.block _ (by omega))).trans HA1.out.1
  have HBAD : Hid (∀ wq, Below w2.heap.size w2 wq → ∀ W, W = ((((((wq.setCell ⟨w.heap.size + 1, 0, none⟩ (.int .i64 0)).setCell ⟨w.heap.size + 1, 1, none⟩ (.int .i64 0)).setCell ⟨w.heap.size + 1, 2, none⟩ (.slice none 0 0)).setCell ⟨w.heap.size + 1, 3, none⟩ (.slice none 0 0)).setCell ⟨w.heap.size + 1, 4, none⟩ (.slice none 0 0)).setCell ⟨w.heap.size + 1, 5, none⟩ (.slice none 0 0)) → W.heap[w.heap.size + 1]? = some (.cells #[.int .i64 0, .int .i64 0, .slice none 0 0, .slice none 0 0, .slice none 0 0, .slice none 0 0] 27 (0, 0)) ∧ Below w.heap.size w W) := by
    intro wq hq W hW
    obtain ⟨-, e2, e4⟩ := HZ.out wq hq
    rw [hW]
    exact ⟨set6_block e2 _ _ _ _ _ _, set_low (set_low (set_low (set_low (set_low (set_low e4 (by omega)) (by omega)) (by omega)) (by omega)) (by omega)) (by omega)⟩
  have HPR : Hid (∀ wq, Below w2.heap.size w2 wq → PR wq r ⟨pa, rg, .slice a1 n1 c1, .slice a2 n2 c2, .slice a3 n3 c3, .slice a4 n4 c4⟩) := fun wq hq => PR.kept hq (Nat.le_refl _) _ _ (PRS.pr _ _ HP2.out)
  have HGOOD : Hid (∀ wq, Below w2.heap.size w2 wq → ∀ W, W = ((((((wq.setCell ⟨w.heap.size + 1, 0, none⟩ (.int .i64 pa)).setCell ⟨w.heap.size + 1, 1, none⟩ (.int .i64 rg)).setCell ⟨w.heap.size + 1, 2, none⟩ (.slice a1 n1 c1)).setCell ⟨w.heap.size + 1, 3, none⟩ (.slice a2 n2 c2)).setCell ⟨w.heap.size + 1, 4, none⟩ (.slice a3 n3 c3)).setCell ⟨w.heap.size + 1, 5, none⟩ (.slice a4 n4 c4)) → W.heap[w.heap.size + 1]? = some (.cells #[.int .i64 pa, .int .i64 rg, .slice a1 n1 c1, .slice a2 n2 c2, .slice a3 n3 c3, .slice a4 n4 c4] 27 (0, 0)) ∧ Below w.heap.size w W ∧ PR W r ⟨pa, rg, .slice a1 n1 c1, .slice a2 n2 c2, .slice a3 n3 c3, .slice a4 n4 c4⟩) := by
    intro wq hq W hW
    obtain ⟨-, e2, e4⟩ := HZ.out wq hq
    have hoth : ∀ k, k ≠ w.heap.size + 1 → W.heap[k]? = wq.heap[k]? := fun k hk => by rw [hW]; exact set6_other hk _ _ _ _ _ _
    refine ⟨by rw [hW]; exact set6_block e2 _ _ _ _ _ _, by rw [hW]; exact set_low (set_low (set_low (set_low (set_low (set_low e4 (by omega)) (by omega)) (by omega)) (by omega)) (by omega)) (by omega), ?_⟩
    refine PRS.pr _ _ (PRS.same (w' := W) (fun k hk => ?_) _ _ (PRS.lt _ _ HP2.out))
    rw [hoth k (by omega)]
    exact hq.block k hk.2
  clear x0 x1 x2 x3 hb2 hprs HRE
  go_upto_region 2 with fail
  rw [← hw3]
  have HW3 := hide_p hw3
  clear hw3
  obtain ⟨z0, z1, z2, z3, z4, z5⟩ := block6 HB3.out.2
  obtain ⟨x0, x1, x2, x3⟩ := block4 (HBX.out w3 HB3.out.1)
  have HCX : Hid (∀ w', Below w3.heap.size w3 w' → Calls Tryd.prog 14 #[.agg #[.int .i64 pa, .int .i64 rg, .slice a1 n1 c1, .slice a2 n2 c2, .slice a3 n3 c3, .slice a4 n4 c4]] w' fun e w'' => e = .returned (.int .i64 c0) ∧ Below w'.heap.size w' w'') := fun w' hb => HCK.out ⟨pa, rg, .slice a1 n1 c1, .slice a2 n2 c2, .slice a3 n3 c3, .slice a4 n4 c4⟩ w' (HPR.out w' (HB3.out.1.trans (hb.mono HB3.out.1.size)))
  have HTX : Hid (∀ w', Below w3.heap.size w3 w' → Calls Tryd.prog 10 #[.agg #[.int .i64 pa, .int .i64 rg, .slice a1 n1 c1, .slice a2 n2 c2, .slice a3 n3 c3, .slice a4 n4 c4]] w' fun e w'' => ∃ u, e = .returned u ∧ Below w'.heap.size w' w'' ∧ Hid (∀ w3, Below w''.heap.size w'' w3 → Calls Tryd.prog 9 #[u, .agg #[.int .i64 k, .int .u64 n, .string s, .slice a l.length cap]] w3 fun e w4 => e = .returned (.bool Q) ∧ Below w3.heap.size w3 w4)) := fun w' hb => HTS.out ⟨pa, rg, .slice a1 n1 c1, .slice a2 n2 c2, .slice a3 n3 c3, .slice a4 n4 c4⟩ w' (HPR.out w' (HB3.out.1.trans (hb.mono HB3.out.1.size))) ((HB2w.out.trans (HB3.out.1.mono HB2w.out.size)).trans (hb.mono (Nat.le_trans HB2w.out.size HB3.out.1.size)))
  have hs3 := HB3.out.1.size
  clear HCK HTS
  by_cases hc : c0 = 0
  · subst hc
    have hq0 : Below w3.heap.size w3 w3.drew := (Below.refl _ _).drew
    go_region_held3 (fun w' => w'.cell? ⟨w2.heap.size, 0, none⟩ = some (.int .i64 pa) ∧ w'.cell? ⟨w2.heap.size, 1, none⟩ = some (.int .i64 rg) ∧ w'.cell? ⟨w2.heap.size, 2, none⟩ = some (.slice a1 n1 c1) ∧ w'.cell? ⟨w2.heap.size, 3, none⟩ = some (.slice a2 n2 c2) ∧ w'.cell? ⟨w2.heap.size, 4, none⟩ = some (.slice a3 n3 c3) ∧ w'.cell? ⟨w2.heap.size, 5, none⟩ = some (.slice a4 n4 c4) ∧ w'.cell? ⟨w.heap.size, 0, none⟩ = some (.int .i64 k) ∧ w'.cell? ⟨w.heap.size, 1, none⟩ = some (.int .u64 n) ∧ w'.cell? ⟨w.heap.size, 2, none⟩ = some (.string s) ∧ w'.cell? ⟨w.heap.size, 3, none⟩ = some (.slice a l.length cap))
      (first
        | exact keep10 (by assumption) hbS
        | go_keep)
      (first
        | (go_at_call 9; refine (hsm.out _ (Below.refl _ _)).mono ?_; rintro e w6 ⟨rfl, hbS⟩; have hq6 := hq5.trans (hbS.mono hq5.size))
        | (go_at_call 10; refine (HTX.out _ hq4).mono ?_; rintro e w5 ⟨u5, rfl, hbS, hsm⟩; have hq5 := hq4.trans (hbS.mono hq4.size))
        | (go_at_call 14; refine (HCX.out _ hq0).mono ?_; rintro e w4 ⟨rfl, hbS⟩; have hq4 := hq0.trans (hbS.mono hq0.size)))
    have HQ6 : Hid (Below w2.heap.size w2 w6) := HB3.out.1.trans (hq6.mono HB3.out.1.size)
    obtain ⟨hfz, e2, -⟩ := HZ.out w6 HQ6.out
    obtain ⟨y0', y1', y2', y3', y4', y5'⟩ := block6 e2
    have f0 := hfz 0
    have f1 := hfz 1
    have f2 := hfz 2
    have f3 := hfz 3
    have f4 := hfz 4
    have f5 := hfz 5
    clear hfz e2
    have hblk := (hq6.block _ (blk_lt HB3.out.2)).trans HB3.out.2
    obtain ⟨v0, v1, v2, v3, v4, v5⟩ := block6 hblk
    clear hblk hsm
    cases Q with
    | false =>
      have HE := hide_p (HBAD.out w6 HQ6.out)
      go_wp2
      obtain ⟨y1, y2⟩ := HE.out _ rfl
      exact bodyPost_ret (results_cell_tmp rfl _ _ (w.heap.size + 1) _ _ _ _ rfl y1 Tryd.underlying27 rfl szPr) rfl ⟨_, _, _, _, _, _, _, _, _, _, _, _, _, _, rfl, y2, pr_zero _⟩
    | true =>
      have HE := hide_p (HGOOD.out w6 HQ6.out)
      go_wp2
      obtain ⟨y1, y2, y3⟩ := HE.out _ rfl
      exact bodyPost_ret (results_cell_tmp rfl _ _ (w.heap.size + 1) _ _ _ _ rfl y1 Tryd.underlying27 rfl szPr) rfl ⟨_, _, _, _, _, _, _, _, _, _, _, _, _, _, rfl, y2, y3⟩
  · have hcb : ((c0 : Int) != 0) = true := by simpa using hc
    have hO : (decide (c0 = 0) && Q) = false := by simp [hc]
    have HO := hide_p hO
    have hk0 : ∀ p : BelowOf w3, p.u.cell? ⟨w2.heap.size, 0, none⟩ = some (.int .i64 pa) := fun p => cell_kept p.h (Nat.le_refl _) z0
    have hk1 : ∀ p : BelowOf w3, p.u.cell? ⟨w2.heap.size, 1, none⟩ = some (.int .i64 rg) := fun p => cell_kept p.h (Nat.le_refl _) z1
    have hk2 : ∀ p : BelowOf w3, p.u.cell? ⟨w2.heap.size, 2, none⟩ = some (.slice a1 n1 c1) := fun p => cell_kept p.h (Nat.le_refl _) z2
    have hk3 : ∀ p : BelowOf w3, p.u.cell? ⟨w2.heap.size, 3, none⟩ = some (.slice a2 n2 c2) := fun p => cell_kept p.h (Nat.le_refl _) z3
    have hk4 : ∀ p : BelowOf w3, p.u.cell? ⟨w2.heap.size, 4, none⟩ = some (.slice a3 n3 c3) := fun p => cell_kept p.h (Nat.le_refl _) z4
    have hk5 : ∀ p : BelowOf w3, p.u.cell? ⟨w2.heap.size, 5, none⟩ = some (.slice a4 n4 c4) := fun p => cell_kept p.h (Nat.le_refl _) z5
    clear hO
    refine wp_region_below (by kernel_rfl) (by kernel_rfl) ?_
    repeat (go_big_quiet_step (rfl))
    quiet_step ((go_at_call 14; exact below_of (HCX.out _ (BelowOf.h _))))
    repeat (go_big_quiet_step (rfl))
    refine wpQuiet_nil ?_
    intro wq hw'
    obtain ⟨⟨w6, hq6⟩, hw''⟩ := hw'
    subst hw''
    have HQ6 := hide_p (HB3.out.1.trans (hq6.mono HB3.out.1.size))
    obtain ⟨hfz, e2, -⟩ := HZ.out _ HQ6.out
    obtain ⟨y0', y1', y2', y3', y4', y5'⟩ := block6 e2
    have f0 := hfz 0
    have f1 := hfz 1
    have f2 := hfz 2
    have f3 := hfz 3
    have f4 := hfz 4
    have f5 := hfz 5
    clear hfz e2
    have HE := hide_p (HBAD.out _ HQ6.out)
    clear hk0 hk1 hk2 hk3 hk4 hk5
    go_wp2
    obtain ⟨y1, y2⟩ := HE.out _ rfl
    exact bodyPost_ret (results_cell_tmp rfl _ _ (w.heap.size + 1) _ _ _ _ rfl y1 Tryd.underlying27 rfl szPr) rfl ⟨_, _, _, _, _, _, _, _, _, _, _, _, _, _, by first | rfl | (rw [HO.out]; rfl), y2, by first | exact pr_zero _ | (rw [HO.out]; exact pr_zero _)⟩

end Go.Proofs.YtcblknghkgihcaaDoor
namespace Go.Proofs.YtcblknghkgihcaaDoor
set_option maxRecDepth 100000
open Go.RowKit Crc Txt Pg

theorem out_cnt (O : Bool) (r : Pr) (h : r.cnt ≤ 3000) : (outP O r).cnt ≤ 100000 := by
  unfold outP
  split
  · omega
  · show (Pr.mk 0 0 [] [] [] []).cnt ≤ _
    rw [Pr.cnt_mk, pcnts_nil]
    simp

set_option maxHeartbeats 4000000 in
theorem progReads_walk (t : Tr) (v : Value) (w : World) (h : CR w t v) (hst : Stx t) (hT : Ot w) (hTB : TB w) :
    Calls Tryd.prog 4 #[v] w fun e w' => e = .returned (.bool true) ∧ Below w.heap.size w w' := by
  have HC := hide_p h
  have HT := hide_p hT
  have HTB := hide_p hTB
  have h00 := hT.1
  have HLV : Hid (∀ w', Below w.heap.size w w' → Calls Tryd.prog 6 #[] w' fun e w'' => e = .returned (.bool true) ∧ Below w'.heap.size w' w'') := fun w' hb => glives_any w' (HT.out.below hb h00) (HTB.out.below hb)
  have HSM : Hid (∀ w', Below w.heap.size w w' → Calls Tryd.prog 17 #[v, .int .i64 3000, .int .i64 0] w' fun e w'' => ∃ (n : Nat) (ok : Bool), e = .returned (.tuple #[.int .i64 n, .bool ok]) ∧ (ok = true → t.dep < 101 ∧ t.cnt ≤ 3000) ∧ Below w'.heap.size w' w'') := by
    intro w' hb
    have := small_any 101 (by decide) t v w' 3000 (HC.out.kept hb (Nat.le_refl _)) (by decide) (by decide)
    rw [show (101 - ((101 : Nat) : Int)) = 0 from rfl] at this
    refine this.mono ?_
    rintro e w'' ⟨n, ok, he, ht, hb2⟩
    refine ⟨n, ok, he, fun ho => ?_, hb2⟩
    obtain ⟨h1, h2, h3⟩ := ht.2.2 ho
    have := cnt_pos t
    exact ⟨by omega, by omega⟩
  obtain ⟨O, hO⟩ : ∃ O, O = (decide (chkB (rdT 100 t) = 0) && sameT (cellT (rdT 100 t)) t) := ⟨_, rfl⟩
  obtain ⟨P, hP⟩ : ∃ P, P = outP O (rdT 100 t) := ⟨_, rfl⟩
  obtain ⟨E, hE⟩ : ∃ E, E = errE O := ⟨_, rfl⟩
  have HPC : Hid (t.cnt ≤ 3000 → P.cnt ≤ 100000) := fun hc => by rw [hP]; exact out_cnt _ _ (Nat.le_trans (rd_cnt 100 t) hc)
  have HFC : Hid (t.dep < 101 → t.cnt ≤ 3000 → ∀ v' w', CR w' t v' → Below w.heap.size w w' → Calls Tryd.prog 11 #[v'] w' fun e w'' => ∃ (pa rg : Int) (a1 : Option Addr) (n1 c1 : Nat) (a2 : Option Addr) (n2 c2 : Nat) (a3 : Option Addr) (n3 c3 : Nat) (a4 : Option Addr) (n4 c4 : Nat), e = .returned (.tuple #[.agg #[.int .i64 pa, .int .i64 rg, .slice a1 n1 c1, .slice a2 n2 c2, .slice a3 n3 c3, .slice a4 n4 c4], .int .i64 E]) ∧ Below w'.heap.size w' w'' ∧ PR w'' P ⟨pa, rg, .slice a1 n1 c1, .slice a2 n2 c2, .slice a3 n3 c3, .slice a4 n4 c4⟩) := by
    intro hd hc v' w' hcr hb
    have hro := read_ok 101 t hd (by decide)
    refine (fromCell_any 101 t v' w' hcr hst hd (by omega) (Nat.le_trans (fc_le 101 t) (by omega)) (HT.out.below hb h00)).mono ?_
    rintro e w'' ⟨pa, rg, a1, n1, c1, a2, n2, c2, a3, n3, c3, a4, n4, c4, he, hb2, hp⟩
    rw [hro, ← hO] at he hp
    refine ⟨pa, rg, a1, n1, c1, a2, n2, c2, a3, n3, c3, a4, n4, c4, by rw [hE]; exact he, hb2, ?_⟩
    have e2 : outP O (rdT 101 t) = P := by
      rw [hP]
      unfold outP
      cases hOO : O with
      | false => simp only [Bool.false_eq_true, if_false]
      | true =>
        have h1 := hro
        rw [← hO, hOO] at h1
        simp only [Bool.and_eq_true, decide_eq_true_eq] at h1
        simp only [if_true]
        exact read_eq 101 t (by decide) h1.2
    rw [e2] at hp
    exact hp
  have HRC : Hid (t.cnt ≤ 3000 → ∀ w', Below w.heap.size w w' → Calls Tryd.prog 12 #[v] w' fun e w'' => ∃ (pa rg : Int) (a1 : Option Addr) (n1 c1 : Nat) (a2 : Option Addr) (n2 c2 : Nat) (a3 : Option Addr) (n3 c3 : Nat) (a4 : Option Addr) (n4 c4 : Nat), e = .returned (.tuple #[.agg #[.int .i64 pa, .int .i64 rg, .slice a1 n1 c1, .slice a2 n2 c2, .slice a3 n3 c3, .slice a4 n4 c4], .int .i64 E]) ∧ Below w'.heap.size w' w'' ∧ PR w'' P ⟨pa, rg, .slice a1 n1 c1, .slice a2 n2 c2, .slice a3 n3 c3, .slice a4 n4 c4⟩) := by
    intro hc w' hb
    refine (rfromCell_any t v w' (HC.out.kept hb (Nat.le_refl _)) hst (by omega)).mono ?_
    rintro e w'' ⟨pa, rg, a1, n1, c1, a2, n2, c2, a3, n3, c3, a4, n4, c4, he, hb2, hp⟩
    rw [← hO] at he hp
    exact ⟨pa, rg, a1, n1, c1, a2, n2, c2, a3, n3, c3, a4, n4, c4, by rw [hE]; exact he, hb2, by rw [hP]; exact hp⟩
  have HOW : Hid (t.dep < 101 → t.cnt ≤ 3000 → ∀ w', Below w.heap.size w w' → Calls Tryd.prog 18 #[v] w' fun e w'' => ∃ v', e = .returned v' ∧ CR w'' t v' ∧ Below w'.heap.size w' w'') := by
    intro hd hc w' hb
    refine (own_cell 101 t v w' hd (by omega) (HC.out.kept hb (Nat.le_refl _))).mono ?_
    rintro e w'' ⟨v', he, hcs, hb2⟩
    exact ⟨v', he, hcs.cr, hb2⟩
  have HSA : Hid (t.cnt ≤ 3000 → ∀ (x y : Six) W w', PR W P x → PR W P y → Below W.heap.size W w' → Calls Tryd.prog 13 #[x.v, y.v] w' fun e w'' => e = .returned (.bool true) ∧ Below w'.heap.size w' w'') := by
    intro hc x y W w' hx hy hb
    have := rsameP_any P P x y W w' hx hy hb (HPC.out hc) (HPC.out hc)
    rw [sameT_refl] at this
    exact this
  obtain ⟨a, cap, rfl⟩ := h.shape
  clear h hst hT hTB hO hP hE HPC HC
  generalize t.k = k at *
  generalize t.n = n at *
  generalize t.s = s at *
  generalize t.l = l at *
  unfold cellV at HSM HRC HOW ⊢
  obtain ⟨w1, hw1⟩ : ∃ w1, w1 = w.alloc (.cells #[.int .i64 k, .int .u64 n, .string s, .slice a l.length cap] 33) := ⟨_, rfl⟩
  have HB1 : Hid (Below w.heap.size w w1) := by show Below _ _ _; rw [hw1]; exact (Below.refl _ _).alloc (Nat.le_refl _) _
  have HA1 : Hid (w1.heap[w.heap.size]? = some (.cells #[.int .i64 k, .int .u64 n, .string s, .slice a l.length cap] 33 (0, 0))) := by show _ = _; rw [hw1]; exact heap_alloc_new _ _
  have HX : Hid (∀ wq, Below w1.heap.size w1 wq → wq.cell? ⟨w.heap.size, 0, none⟩ = some (.int .i64 k) ∧ wq.cell? ⟨w.heap.size, 1, none⟩ = some (.int .u64 n) ∧ wq.cell? ⟨w.heap.size, 2, none⟩ = some (.string s) ∧ wq.cell? ⟨w.heap.size, 3, none⟩ = some (.slice a l.length cap)) := fun wq hq => block4 ((hq.block _ (blk_lt HA1.out)).trans HA1.out)
  obtain ⟨x0, x1, x2, x3⟩ := HX.out w1 (Below.refl _ _)
  go_enter Tryd.func4, Tryd.ntmps4
  go_upto_region 1 with fail
  rw [← hw1]
  clear hw1
  go_wp2_with fail
  refine (HSM.out w1 HB1.out).mono ?_
  rintro e w2 ⟨nn, ok, rfl, hok, hb2⟩
  have HB2 := hide_p hb2
  have HB2w : Hid (Below w.heap.size w w2) := HB1.out.trans (hb2.mono HB1.out.size)
  clear x0 x1 x2 x3 hb2 HSM
  cases ok with
  | false =>
    have hl := HLV.out w2 HB2w.out
    clear hok
    go_wp2_with fail
    refine hl.mono ?_
    rintro e w3 ⟨rfl, hb3⟩
    have HB3w : Hid (Below w.heap.size w w3) := HB2w.out.trans (hb3.mono HB2w.out.size)
    clear hl hb3
    go_wp2
    go_ret
    exact ⟨rfl, HB3w.out⟩
  | true =>
    obtain ⟨hd, hc⟩ := hok rfl
    have HDC := hide_p (And.intro hd hc)
    clear hok hd hc
    obtain ⟨x0, x1, x2, x3⟩ := HX.out w2 HB2.out
    go_wp2_with fail
    refine (HOW.out HDC.out.1 HDC.out.2 w2 HB2w.out).mono ?_
    rintro e w3 ⟨v', rfl, hcr, hb3⟩
    have HB3 : Hid (Below w1.heap.size w1 w3) := HB2.out.trans (hb3.mono HB2.out.size)
    have HB3w : Hid (Below w.heap.size w w3) := HB2w.out.trans (hb3.mono HB2w.out.size)
    have HCR := hide_p hcr
    clear x0 x1 x2 x3 hb3 hcr HOW
    go_wp2_with fail
    refine (HFC.out HDC.out.1 HDC.out.2 v' w3 HCR.out HB3w.out).mono ?_
    rintro e w4 ⟨pa, rg, a1, n1, c1, a2, n2, c2, a3, n3, c3, a4, n4, c4, rfl, hb4, hp4⟩
    have HB4 : Hid (Below w1.heap.size w1 w4) := HB3.out.trans (hb4.mono HB3.out.size)
    have HB4w : Hid (Below w.heap.size w w4) := HB3w.out.trans (hb4.mono HB3w.out.size)
    obtain ⟨w5, hw5⟩ : ∃ w5, w5 = w4.alloc (.cells #[.int .i64 pa, .int .i64 rg, .slice a1 n1 c1, .slice a2 n2 c2, .slice a3 n3 c3, .slice a4 n4 c4] 27) := ⟨_, rfl⟩
    obtain ⟨b5, hb5⟩ : ∃ b5, b5 = w4.heap.size := ⟨_, rfl⟩
    have HB5 : Hid (Below w4.heap.size w4 w5 ∧ w5.heap[b5]? = some (.cells #[.int .i64 pa, .int .i64 rg, .slice a1 n1 c1, .slice a2 n2 c2, .slice a3 n3 c3, .slice a4 n4 c4] 27 (0, 0))) := by
      show _ ∧ _
      rw [hw5, hb5]
      exact ⟨(Below.refl _ _).alloc (Nat.le_refl _) _, heap_alloc_new _ _⟩
    have HP5 : Hid (PR w5 P ⟨pa, rg, .slice a1 n1 c1, .slice a2 n2 c2, .slice a3 n3 c3, .slice a4 n4 c4⟩) := PR.kept HB5.out.1 (Nat.le_refl _) _ _ hp4
    have HB5q : Hid (Below w1.heap.size w1 w5 ∧ Below w.heap.size w w5) := ⟨HB4.out.trans (HB5.out.1.mono HB4.out.size), HB4w.out.trans (HB5.out.1.mono HB4w.out.size)⟩
    clear hb4 hp4 HFC HCR
    go_upto_region 5 with fail
    rw [← hw5, ← hb5]
    have HW5 := hide_p (And.intro hw5 hb5)
    clear hw5 hb5
    obtain ⟨x0, x1, x2, x3⟩ := HX.out w5 HB5q.out.1
    go_wp2_with fail
    refine (HRC.out HDC.out.2 w5 HB5q.out.2).mono ?_
    rintro e w6 ⟨qa, qg, e1, m1, d1, e2, m2, d2, e3, m3, d3, e4, m4, d4, rfl, hb6, hp6⟩
    have HB6 := hide_p hb6
    have HB6w : Hid (Below w.heap.size w w6) := HB5q.out.2.trans (hb6.mono HB5q.out.2.size)
    obtain ⟨w7, hw7⟩ : ∃ w7, w7 = w6.alloc (.cells #[.int .i64 qa, .int .i64 qg, .slice e1 m1 d1, .slice e2 m2 d2, .slice e3 m3 d3, .slice e4 m4 d4] 27) := ⟨_, rfl⟩
    obtain ⟨b7, hb7⟩ : ∃ b7, b7 = w6.heap.size := ⟨_, rfl⟩
    have HB7 : Hid (Below w6.heap.size w6 w7 ∧ w7.heap[b7]? = some (.cells #[.int .i64 qa, .int .i64 qg, .slice e1 m1 d1, .slice e2 m2 d2, .slice e3 m3 d3, .slice e4 m4 d4] 27 (0, 0))) := by
      show _ ∧ _
      rw [hw7, hb7]
      exact ⟨(Below.refl _ _).alloc (Nat.le_refl _) _, heap_alloc_new _ _⟩
    have HB57 : Hid (Below w5.heap.size w5 w7) := HB6.out.trans (HB7.out.1.mono HB6.out.size)
    have HB7w : Hid (Below w.heap.size w w7) := HB6w.out.trans (HB7.out.1.mono HB6w.out.size)
    have HP7 : Hid (PR w7 P ⟨qa, qg, .slice e1 m1 d1, .slice e2 m2 d2, .slice e3 m3 d3, .slice e4 m4 d4⟩ ∧ PR w7 P ⟨pa, rg, .slice a1 n1 c1, .slice a2 n2 c2, .slice a3 n3 c3, .slice a4 n4 c4⟩) := ⟨PR.kept HB7.out.1 (Nat.le_refl _) _ _ hp6, PR.kept HB57.out (Nat.le_refl _) _ _ HP5.out⟩
    clear x0 x1 x2 x3 hb6 hp6 HRC
    go_upto_region 6 with fail
    rw [← hw7, ← hb7]
    clear hw7 hb7
    obtain ⟨y0, y1, y2, y3, y4, y5⟩ := block6 HB7.out.2
    obtain ⟨z0, z1, z2, z3, z4, z5⟩ := block6 ((HB57.out.block _ (blk_lt HB5.out.2)).trans HB5.out.2)
    have hs := HSA.out HDC.out.2 ⟨pa, rg, .slice a1 n1 c1, .slice a2 n2 c2, .slice a3 n3 c3, .slice a4 n4 c4⟩ ⟨qa, qg, .slice e1 m1 d1, .slice e2 m2 d2, .slice e3 m3 d3, .slice e4 m4 d4⟩ w7 w7 HP7.out.2 HP7.out.1 (Below.refl _ _)
    unfold Six.v at hs
    simp only at hs
    go_wp2_with fail
    refine hs.mono ?_
    rintro e w8 ⟨rfl, hb8⟩
    have HB8w : Hid (Below w.heap.size w w8) := HB7w.out.trans (hb8.mono HB7w.out.size)
    have hl := HLV.out w8 HB8w.out
    clear hs hb8 y0 y1 y2 y3 y4 y5 z0 z1 z2 z3 z4 z5
    go_wp2_with fail
    refine hl.mono ?_
    rintro e w9 ⟨rfl, hb9⟩
    have HB9w : Hid (Below w.heap.size w w9) := HB8w.out.trans (hb9.mono HB8w.out.size)
    clear hl hb9
    go_wp2
    go_ret
    exact ⟨rfl, HB9w.out⟩

end Go.Proofs.YtcblknghkgihcaaDoor
namespace Go.Proofs.YtcblknghkgihcaaDoor.progReads
set_option maxRecDepth 100000
open Go.ChangeShapes Go.WideShapes Go.ChangeAt Go.RowKit

theorem contract (H : Type) (enc : TypeId × Value → H) (W : World) (base : Nat) (args : Array Value) (ds gs : List (DataW H)) (before : List MemPlace)
    (hval0 : ∀ (j : Nat) t v, Tryd.f4.params[j]? = some t → args[j]? = some v → Value.okWide Tryd.prog W .any base t v)
    (hW : DataW.Whole enc Tryd.prog Tryd.f4.params.toList Rows.progReadsSpec.vars false W args.toList ds gs before) (hL : laidMetH Tryd.prog laidAll W)
    (hsz : (DataW.weightsEach Tryd.prog (Tryd.f4.params.toList ++ (OpenSpec.ofChange Rows.progReadsSpec).bare.plain.varTypes Tryd.prog) (ds ++ gs)).all (· ≤ reachBytes) = true) :
    Calls Tryd.prog 4 args W fun e W' => ∃ v, e = .returned v ∧ Rows.progReadsSpec.post enc Tryd.prog Tryd.f4 false true false false W args v W' := by
  have hval : ∀ (j : Nat) t v, Tryd.f4.params[j]? = some t → args[j]? = some v → Value.okWide Tryd.prog W .any base t v := hval0
  have hW' := hW
  obtain ⟨p, q, hA0, hV, rfl, hfz, hnd⟩ := hW
  have hA : DataW.TrodAll enc Tryd.prog W 0 (fun _ => true) true Tryd.f4.params.toList args.toList ds p := hA0
  rw [Tryd.params4] at hA hval hsz
  obtain ⟨v0, vs0, d0, ds0, p0, q0, hargs, rfl, rfl, h0, r0⟩ := trodAll_cons hA
  obtain ⟨rfl, rfl, rfl⟩ := trodAll_nil r0
  obtain rfl : args = #[v0] := by cases args; simp_all
  obtain ⟨rfl, rfl⟩ := trodVars_none hV
  have lt0 : ∀ x ∈ p0, x.block < W.heap.size := by obtain ⟨m, hm⟩ := h0; exact DataW.trod_lt m _ _ _ hm
  obtain ⟨t0, c0, w0⟩ := open_cell_st (hval 0 33 v0 rfl rfl) h0 hsz (j := 0) rfl rfl
  obtain ⟨hT, hTB⟩ := bothTabs hL
  clear hA0 hval0
  refine (progReads_walk t0 _ W c0 w0 hT hTB).mono fun e W' ⟨he, bel⟩ => ?_
  subst he
  exact ⟨_, rfl, _, _, _, [], _, [], hW', trodAll_mk1 (shut_bool Tryd.underlying4 _), (trodAll_cons_mk (Below.trod laidOut (by kernel_rfl) (of_decide_eq_true (by kernel_rfl)) h0 bel lt0) trodAll_mk0), rfl, bel.frame _, fun h => by cases h⟩

theorem laid_met (os : Os) : laidMet Tryd.prog Rows.progReadsRow.laid ((World.doorLaid Tryd.prog 4000 os).forCall (fun _ _ => 0) ⟨#[], #[.agg #[.int .i64 0, .int .u64 0, .string ⟨#[]⟩, .slice none 0 0]], []⟩).memory :=
  laidMet_of_run' 8 (by kernel_rfl) (by kernel_rfl)
theorem reads (os : Os) {H : Type} (enc : TypeId × Value → H) : ∃ places, DataW.whole enc Tryd.prog ((World.doorLaid Tryd.prog 4000 os).forCall (fun _ _ => 0) ⟨#[], #[.agg #[.int .i64 0, .int .u64 0, .string ⟨#[]⟩, .slice none 0 0]], []⟩).memory Tryd.f4.params.toList Rows.progReadsSpec.vars false (#[.agg #[.int .i64 0, .int .u64 0, .string ⟨#[]⟩, .slice none 0 0]] : Array Value).toList 8 = some ([.agg [.lit (.int .i64 0), .lit (.int .u64 0), .lit (.string []), .nil]], [], places) :=
  ⟨[], by kernel_rfl⟩

set_option maxRecDepth 100000 in
theorem lifted (os : Os) (started : os.Started) (H : Type) (enc : TypeId × Value → H) (F : Stop.Interp) :
    ReturnsInHanded {} Tryd.checked os 4 .any ((OpenSpec.ofChange Rows.progReadsSpec).preRow enc Tryd.prog Tryd.f4 Rows.progReadsRow.domain false Rows.progReadsRow.laid) (((OpenSpec.ofChange Rows.progReadsSpec).at F).post enc Tryd.prog Tryd.f4 false true false false) := by
  obtain ⟨places, hx⟩ := reads os enc
  refine returnsInHanded_of_row (C := Tryd.checked) (s := OpenSpec.ofChange Rows.progReadsSpec) ownKnob_none started (by kernel_rfl) Tryd.func4
    (witness_row_at (enc := enc) (C := Tryd.checked) false (World.doorLaid Tryd.prog 4000 os) #[.agg #[.int .i64 0, .int .u64 0, .string ⟨#[]⟩, .slice none 0 0]] rfl (by kernel_rfl) (by kernel_rfl) (by kernel_rfl)
      (OpenSpec.preRow_of_cond 8 hx (by kernel_rfl) (fun k hk => by cases hk) (by kernel_rfl) (laid_met os))) ?_
  intro W base args ds gs before hval hW _ _ hsz hL _ _
  exact contract H enc W base args ds gs before hval hW hL hsz

theorem said : Rows.ProgReadsSaid :=
  OpenClaim.holds_of_cond 4 Tryd.f4 rfl rfl rfl rfl rfl rfl rfl ⟨rfl, rfl, rfl, rfl, rfl⟩ rfl rfl rfl rfl rfl (by kernel_rfl) Tryd.func4 (by kernel_rfl)
    (of_decide_eq_true (by kernel_rfl)) (by unfold Func.isWrapper; first | (rw [if_pos (by decide +kernel)]; kernel_rfl) | (rw [if_neg (by decide +kernel)]; exact ⟨rfl, rfl⟩))
    (fun os started H enc _ F => by rw [OpenClaim.pre_eq_preRow]; exact lifted os started H enc F)

theorem plain (f : FuncId) (fn : Func) (hf : Tryd.pinned.checked.prog.funcNamed "minstrel/minstrellaw13.ProgReads" = some f) (hfn : Tryd.pinned.checked.prog.funcs[f]? = some fn) :
    false = Tryd.pinned.checked.prog.looks [] ∧ ∀ (j : Nat) t, fn.params[j]? = some t → Tryd.pinned.checked.prog.wantsStandIn t = false := by
  obtain rfl : f = 4 := Option.some.inj ((show Tryd.prog.funcNamed "minstrel/minstrellaw13.ProgReads" = some 4 by kernel_rfl).symm.trans hf) |>.symm
  obtain rfl : fn = Tryd.f4 := (Option.some.inj (Tryd.func4.symm.trans hfn)).symm
  refine ⟨by kernel_rfl, fun j t ht => ?_⟩
  rw [Tryd.params4] at ht
  have hm : t ∈ [33] := by simpa using Array.mem_of_getElem? ht
  have hall : ([33].all fun u => !Tryd.prog.wantsStandIn u) = true := by kernel_rfl
  exact (show Tryd.prog.wantsStandIn t = false by simpa using List.all_eq_true.1 hall t hm)

/-- The statement. -/
theorem proved : Rows.ProgReadsCardSaid :=
  Claim7.holds_tied_plain_at .later [] _ _ _ _ said (fun _ h => by cases h) (by kernel_rfl) (fun _ h => by cases h) progReads_row_tie rfl ⟨rfl, rfl⟩ (by kernel_rfl) rfl plain (by kernel_rfl)
end Go.Proofs.YtcblknghkgihcaaDoor.progReads
