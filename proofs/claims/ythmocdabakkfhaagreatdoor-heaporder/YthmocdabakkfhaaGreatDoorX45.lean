/-
  HpFresh, HpClose, HpClose3, HpClose4
-/
import Derived.Test.YthmocdabakkfhaaGreatDoorCards
import Derived.Test.YthmocdabakkfhaaGreatDoorTie
import Derived.SizedLaws
import Derived.Carry
import Derived.ShutString
import Derived.OpenShut
import Derived.Deep.DeepHandedRow
import Derived.Lib.LaidTab
import Derived.LaidMore
import Derived.ChangeSlices
import Derived.Test.YthmocdabakkfhaaGreatDoorZ44

/-
  Layer 9: Set into a table that has no key.
-/
namespace Go.Proofs.YthmocdabakkfhaaGreatDoor
set_option maxRecDepth 100000
open Go.RowKit Flo

theorem set_same9 {os : List Ob} {i : Nat} {x : Ob} (h : os[i]? = some x) : os.set i x = os := by
  apply List.ext_getElem?
  intro j
  rw [List.getElem?_set]
  by_cases c : i = j
  · subst c
    rw [if_pos rfl, h]
    by_cases d : i < os.length
    · rw [if_pos d]
    · rw [List.getElem?_eq_none (by omega)] at h; cases h
  · rw [if_neg c]
/-- What Set tells of a key. -/
def codeOf (k : V4) : Int := if kok k.K k.N then 0 else 1
theorem codeOf_01 (k : V4) : codeOf k = 0 ∨ codeOf k = 1 := by unfold codeOf; split <;> simp
/-- The heap behind a Set into a table that had no key. -/
def Fr (w : World) (hb lim used i tb : Nat) (R : Value) (os : List Ob) (Z : Nat → Prop) (w' : World) : Prop :=
  ∃ used' x' Z', Hv w' hb lim used' R (os.set i x') Z' ∧ used' ≤ used + 1 ∧ x'.tb = some tb ∧ x'.M = V0 ∧ x'.es.length ≤ 1 ∧ Wx Z w w' ∧ ∀ k, Z' k → Z k ∨ w.heap.size ≤ k
theorem set_fresh {w : World} {hb lim used i tb : Nat} {R : Value} {os : List Ob} {Z : Nat → Prop} {x : Ob} (h : Hv w hb lim used R os Z) (hi : os[i]? = some x) (ht : x.tb = some tb) (hes : x.es = []) (hM : x.M = V0) (o : Int) (ho : o = (i : Int) + 1) (k v : V4) (hN2 : U64 k.N) (hvN : U64 v.N) (hS : k.S.size ≤ 9223372036854775807) (hlt : used < lim) :
    Calls Tryz.prog 17 #[.pointer (some ⟨hb, 0, none⟩), .int .i64 o, .agg #[.int .i64 k.K, .int .u64 k.N, .string k.S, .int .i64 k.O], .agg #[.int .i64 v.K, .int .u64 v.N, .string v.S, .int .i64 v.O]] w fun e w' => e = .returned (.int .i64 (codeOf k)) ∧ Fr w hb lim used i tb R os Z w' := by
  cases hko : kok k.K k.N with
  | false =>
    refine (Set_no h hi ht o ho k.K k.N k.S k.O v.K v.N v.S v.O hN2 hko).mono ?_
    rintro e w' ⟨rfl, hb1⟩
    exact ⟨by unfold codeOf; rw [if_neg (by rw [hko]; decide)], used, x, Z, by rw [set_same9 hi]; exact h.below hb1, by omega, ht, hM, by rw [hes]; simp, Wx.of_below Z hb1, fun k hk => Or.inl hk⟩
  | true =>
    refine (Set_new h hi ht o ho k.K k.N k.S k.O v.K v.N v.S v.O hN2 hvN hS hko (by rw [hes]; rfl) hlt).mono ?_
    rintro e w' ⟨rfl, hp⟩
    refine ⟨by unfold codeOf; rw [if_pos hko], ?_⟩
    by_cases c : nK v.K = 0
    · obtain ⟨h1, h2⟩ := hp.1 c
      exact ⟨used, x, Z, by rw [set_same9 hi]; exact h1, by omega, ht, hM, by rw [hes]; simp, h2, fun k hk => Or.inl hk⟩
    · obtain ⟨b, X', h1, h2⟩ := hp.2 c
      refine ⟨used + 1, _, _, h1, by omega, ht, hM, by simp [hes], h2, fun k hk => ?_⟩
      rcases hk with c | c
      · exact Or.inl c
      · exact Or.inr c.1

theorem keep44 {W w' : World} {a b c d : Nat} {k l v x : V4} {X : Nat → Prop} (h : (At4 W a 0 k ∧ At4 W b 0 l) ∧ At4 W c 0 v ∧ At4 W d 0 x) (hw : Wx X W w') (ha : ¬ X a) (hb : ¬ X b) (hc : ¬ X c) (hd : ¬ X d) : (At4 w' a 0 k ∧ At4 w' b 0 l) ∧ At4 w' c 0 v ∧ At4 w' d 0 x :=
  ⟨⟨h.1.1.wx hw ha, h.1.2.wx hw hb⟩, h.2.1.wx hw hc, h.2.2.wx hw hd⟩
theorem look_plain {os : List Ob} {i tb : Nat} {x : Ob} (hi : os[i]? = some x) (ht : x.tb = some tb) (hM : x.M = V0) (K N : Int) (S : ByteArray) (O : Int) : lookV os ((i : Int) + 1) K N S O = getV os ((i : Int) + 1) K N S O := by
  unfold lookV getV
  rw [tabOf_of hi ht]
  simp only
  split
  · exact lookF_stop (Or.inr (Or.inr (by rw [hM]; rfl)))
  · rfl

/-- Two tables, the second one standing in for the first. -/
theorem apart_get {x y : Ob} {tb : Nat} (hx : x.tb = some tb) (M : V4) (K N : Int) (S : ByteArray) (O : Int) : getV [{ x with M := M }, y] 1 K N S O = getV [x, y] 1 K N S O := by
  unfold getV
  rw [show tabOf [{ x with M := M }, y] 1 = some { x with M := M } from tabOf_of (os := [{ x with M := M }, y]) (i := 0) (tb := tb) rfl hx, show tabOf [x, y] 1 = some x from tabOf_of (os := [x, y]) (i := 0) (tb := tb) rfl hx]
theorem apart_look {x y : Ob} {tb tb2 : Nat} (hx : x.tb = some tb) (hy : y.tb = some tb2) (hM : y.M = V0) (K N : Int) (S : ByteArray) (O : Int) :
    lookV [{ x with M := ⟨5, 0, ⟨#[]⟩, 2⟩ }, y] 1 K N S O = if (getV [x, y] 1 K N S O).K = 0 then getV [x, y] 2 K N S O else getV [x, y] 1 K N S O := by
  have e1 : tabOf [{ x with M := ⟨5, 0, ⟨#[]⟩, 2⟩ }, y] 1 = some { x with M := ⟨5, 0, ⟨#[]⟩, 2⟩ } := tabOf_of (os := [{ x with M := ⟨5, 0, ⟨#[]⟩, 2⟩ }, y]) (i := 0) (tb := tb) rfl hx
  have e2 : tabOf [{ x with M := ⟨5, 0, ⟨#[]⟩, 2⟩ }, y] 2 = some y := tabOf_of (os := [{ x with M := ⟨5, 0, ⟨#[]⟩, 2⟩ }, y]) (i := 1) (tb := tb2) rfl hy
  have e3 : tabOf [x, y] 1 = some x := tabOf_of (os := [x, y]) (i := 0) (tb := tb) rfl hx
  have e4 : tabOf [x, y] 2 = some y := tabOf_of (os := [x, y]) (i := 1) (tb := tb2) rfl hy
  unfold lookV getV
  rw [e1, e3, e4]
  simp only
  by_cases c : kok K N = true
  · rw [if_pos c, if_pos c, if_pos c]
    by_cases d : (fndV (ofKey (yK K N) (yN K N) (yS K N S) (yO K N O) x.es)).K = 0
    · rw [if_pos d]
      refine (lookF_go (n := 15) (x := { x with M := ⟨5, 0, ⟨#[]⟩, 2⟩ }) d (by show (5 : Int) ≠ 0; decide) e2).trans ?_
      exact lookF_stop (Or.inr (Or.inr (by rw [hM]; rfl)))
    · rw [if_neg d]
      exact lookF_stop (x := { x with M := ⟨5, 0, ⟨#[]⟩, 2⟩ }) (Or.inr (Or.inl d))
  · rw [if_neg c, if_neg c, if_neg c]
    rfl
theorem size_few {w : World} {hb lim used i tb : Nat} {R : Value} {os : List Ob} {Z : Nat → Prop} {x : Ob} (h : Hv w hb lim used R os Z) (hi : os[i]? = some x) (ht : x.tb = some tb) (hes : x.es.length ≤ 1) (o : Int) (ho : o = (i : Int) + 1) :
    ∃ s : Nat, s ≤ 1 ∧ ∀ w', Below w.heap.size w w' → Calls Tryz.prog 19 #[.pointer (some ⟨hb, 0, none⟩), .int .i64 o] w' fun e w2 => e = .returned (.int .i64 (s : Int)) ∧ Below w'.heap.size w' w2 := by
  have hT := ((h.ob i x hi).tab tb ht).2.1
  obtain ⟨s, h1, h2, _⟩ := hT.size2
  refine ⟨s, ?_, fun w' hb' => ?_⟩
  · rcases Nat.lt_or_ge s 2 with c | c
    · omega
    · obtain ⟨e, he, hn⟩ := h2 0 (by omega)
      obtain ⟨f, hf, hm⟩ := h2 1 (by omega)
      have hef : e = f := by
        match hxe : x.es with
        | [] => rw [hxe] at he; cases he
        | [a] => rw [hxe] at he hf; rw [List.mem_singleton.1 he, List.mem_singleton.1 hf]
        | a :: b :: r => rw [hxe] at hes; simp at hes
      subst hef
      have := hn.2.2.symm.trans hm.2.2
      simp at this
  · refine (size_hv (h.below hb') o).mono ?_
    rintro e w2 ⟨hw2, s', rfl, hm⟩
    rw [ho, tabOf_of hi ht] at hm
    obtain ⟨t, ht', hc⟩ := hm
    rw [ht] at ht'
    injection ht' with ht'
    subst ht'
    have hc2 : w'.cell? ⟨tb, 9, none⟩ = some (.int .i64 (s : Int)) := (hb'.cell (p := ⟨tb, 9, none⟩) (hT.lt tb hT.own)).trans h1
    have : (s' : Int) = s := by
      have := hc.symm.trans hc2
      injection this with this
      injection this with _ this
    rw [this, hw2]
    exact ⟨rfl, Below.refl _ _⟩

end Go.Proofs.YthmocdabakkfhaaGreatDoor

/-
  What the rows' readings give the walks of layer 9: the library's table, values that came in.
-/
namespace Go.Proofs.YthmocdabakkfhaaGreatDoor
set_option maxRecDepth 100000
open Go.ChangeShapes Go.WideShapes Go.ChangeAt Go.RowKit Flo

theorem ownKnob_none : ownKnob Tryz.prog.godebug = none := by kernel_rfl
theorem laidOut : laidOutB Tryz.prog = true := by kernel_rfl
def laidDb : List (String × DataW Unit) := [("math/bits.deBruijn64tab", Rows.laid_math_bits_deBruijn64tab)]
theorem db_data : (Rows.laid_math_bits_deBruijn64tab : DataW Unit) = Lib.tabData .u8 (Lib.deBruijn64tab.map fun n : Nat => (n : Int)) := by kernel_rfl
theorem gDb : Tryz.prog.globalNamed "math/bits.deBruijn64tab" = some 1 := by kernel_rfl
theorem db_len : Lib.deBruijn64tab.length = 64 := by kernel_rfl
/-- What the row's list gives: the table's cells. -/
theorem dbTab {W : World} (h : laidMetH Tryz.prog laidDb W) : Db W := by
  have h2 : laidMet Tryz.prog [("math/bits.deBruijn64tab", Lib.tabData .u8 (Lib.deBruijn64tab.map fun n : Nat => (n : Int)))] W := by
    rw [← db_data]
    exact h
  have hb : (Tryz.prog.globals[1]?).map (·.type) = some 132 := by kernel_rfl
  have hT : Lib.TabIs Tryz.prog W "math/bits.deBruijn64tab" .u8 (Lib.deBruijn64tab.map fun n : Nat => (n : Int)) := Lib.tabIs_of_head (rest := []) gDb hb Tryz.underlying132 Tryz.underlying5 (by kernel_rfl) (by kernel_rfl) h2
  intro j hj
  have h7 := World.var?_cell gDb hT j
  rw [h7]
  have hl : j < Lib.deBruijn64tab.length := by rw [db_len]; exact hj
  simp [List.getD_eq_getElem?_getD, List.getElem?_eq_getElem hl]

theorem array_16 {cs : Array Value} (h : cs.size = 16) : ∃ x0 x1 x2 x3 x4 x5 x6 x7 x8 x9 x10 x11 x12 x13 x14 x15, cs = #[x0, x1, x2, x3, x4, x5, x6, x7, x8, x9, x10, x11, x12, x13, x14, x15] := by
  obtain ⟨l⟩ := cs
  match l, h with
  | [x0, x1, x2, x3, x4, x5, x6, x7, x8, x9, x10, x11, x12, x13, x14, x15], _ => exact ⟨x0, x1, x2, x3, x4, x5, x6, x7, x8, x9, x10, x11, x12, x13, x14, x15, rfl⟩
theorem cell_int8 {P : Program} {W : World} {base : Nat} {t : TypeId} {k : IntKind} {v : Value} (ht : P.underlying t = some (.int k)) (h : Cell.okWide P W .any base t v) : ∃ n, v = .int k n ∧ k.has n := by
  simp only [Cell.okWide, ht] at h
  cases v <;> simp_all [Cell.ok]
theorem cell_text8 {P : Program} {W : World} {base : Nat} {t : TypeId} {v : Value} (ht : P.underlying t = some .string) (h : Cell.okWide P W .any base t v) : ∃ s, v = .string s ∧ s.size ≤ 9223372036854775807 := by
  simp only [Cell.okWide, ht] at h
  cases v <;> simp_all [Cell.ok]
  omega
end Go.Proofs.YthmocdabakkfhaaGreatDoor

/-
  What the rows' readings give the walk of HeapBounds: calls that came in.
-/
namespace Go.Proofs.YthmocdabakkfhaaGreatDoor
set_option maxRecDepth 100000
open Go.ChangeShapes Go.WideShapes Go.ChangeAt Go.RowKit Flo

theorem some_at3 {α : Type} {l : List α} {n i : Nat} (h : l.length = n) (hi : i < n) : ∃ y, l[i]? = some y := ⟨l[i]'(by omega), List.getElem?_eq_getElem (by omega)⟩
theorem add_mk3 (b o n : Nat) : Addr.add ⟨b, o, none⟩ n = ⟨b, o + n, none⟩ := by unfold Addr.add; split <;> simp_all
theorem spot_none3 {W : World} {a : Addr} {u : Value} (h : W.cell? a = some u) : a.spot = none := by
  obtain ⟨b, o, s⟩ := a
  cases s with
  | none => rfl
  | some k =>
    unfold World.cell? at h
    split at h <;> simp at h
theorem cells_n {W : World} {a : Addr} {n : Nat} {cs : List Value} (h : W.cells? 0 a n = some cs) : cs.length = n ∧ ∀ t, t < n → W.cell? (a.add t) = cs[t]? := by
  unfold World.cells? at h
  rw [if_pos (Nat.zero_le _)] at h
  refine ⟨(Lib.mapM_length h).trans (by simp), fun t ht => ?_⟩
  obtain ⟨b, e, f⟩ := Lib.mapM_at h t t (by simp [ht])
  rw [e]
  exact f
theorem list4' {cs : List Value} (h : cs.length = 4) : ∃ a b c d, cs = [a, b, c, d] := by
  match cs, h with
  | [a, b, c, d], _ => exact ⟨a, b, c, d, rfl⟩
theorem list13 {cs : List Value} (h : cs.length = 13) : ∃ c0 c1 c2 c3 c4 c5 c6 c7 c8 c9 c10 c11 c12, cs = [c0, c1, c2, c3, c4, c5, c6, c7, c8, c9, c10, c11, c12] := by
  match cs, h with
  | [c0, c1, c2, c3, c4, c5, c6, c7, c8, c9, c10, c11, c12], _ => exact ⟨c0, c1, c2, c3, c4, c5, c6, c7, c8, c9, c10, c11, c12, rfl⟩
theorem cellsInt3 : Tryz.prog.cellsOf 3 = 1 := by kernel_rfl
theorem cellsNum3 : Tryz.prog.cellsOf 35 = 1 := by kernel_rfl
theorem cellsStr3 : Tryz.prog.cellsOf 9 = 1 := by kernel_rfl
theorem cellsVal3 : Tryz.prog.cellsOf 37 = 4 := by kernel_rfl
theorem cellsAct3 : Tryz.prog.cellsOf 49 = 13 := by kernel_rfl

theorem trod_val {H : Type} {enc : TypeId × Value → H} {W : World} {sp : Nat → Bool} {held : Bool} {fuel : Nat} {cs : List Value} {x : DataW H × List MemPlace} (h : DataW.trod enc Tryz.prog W 0 sp held fuel 37 cs = some x) :
    ∃ v : V4, cs = [.int .i64 v.K, .int .u64 v.N, .string v.S, .int .i64 v.O] ∧ U64 v.N ∧ v.S.size ≤ 9223372036854775807 := by
  obtain ⟨xs, n, rfl, rfl, hlen, hxl, hf⟩ := DataW.trod_struct Tryz.underlying37 h
  rw [cellsVal3] at hlen
  obtain ⟨c0, c1, c2, c3, rfl⟩ := list4' hlen
  have h0 : DataW.trod enc Tryz.prog W 0 sp held n 3 (([c0, c1, c2, c3].drop 0).take (Tryz.prog.cellsOf 3)) = xs[0]? := hf 0 _ rfl
  have h1 : DataW.trod enc Tryz.prog W 0 sp held n 35 (([c0, c1, c2, c3].drop 1).take (Tryz.prog.cellsOf 35)) = xs[1]? := hf 1 _ rfl
  have h2 : DataW.trod enc Tryz.prog W 0 sp held n 9 (([c0, c1, c2, c3].drop 2).take (Tryz.prog.cellsOf 9)) = xs[2]? := hf 2 _ rfl
  have h3 : DataW.trod enc Tryz.prog W 0 sp held n 3 (([c0, c1, c2, c3].drop 3).take (Tryz.prog.cellsOf 3)) = xs[3]? := hf 3 _ rfl
  obtain ⟨y0, e0⟩ := some_at3 hxl (i := 0) (by decide)
  obtain ⟨y1, e1⟩ := some_at3 hxl (i := 1) (by decide)
  obtain ⟨y2, e2⟩ := some_at3 hxl (i := 2) (by decide)
  obtain ⟨y3, e3⟩ := some_at3 hxl (i := 3) (by decide)
  rw [e0] at h0
  rw [e1] at h1
  rw [e2] at h2
  rw [e3] at h3
  simp only [cellsInt3, cellsNum3, cellsStr3, List.drop_zero, List.drop_succ_cons, List.take_succ_cons, List.take_zero] at h0 h1 h2 h3
  obtain ⟨k, hk, _, _⟩ := DataW.trod_int Tryz.underlying3 h0
  obtain ⟨m, hm, _, wm⟩ := DataW.trod_int Tryz.underlying35 h1
  obtain ⟨s, hs, _, ws⟩ := DataW.trod_string Tryz.underlying9 h2
  obtain ⟨o, ho, _, _⟩ := DataW.trod_int Tryz.underlying3 h3
  injection hk with hk _
  injection hm with hm _
  injection hs with hs _
  injection ho with ho _
  subst hk hm hs ho
  have bm : 0 ≤ m ∧ m ≤ 18446744073709551615 := by simpa [Lit.wf, IntKind.min, IntKind.max, IntKind.signed, IntKind.bits] using wm
  unfold maxLen at ws
  exact ⟨⟨k, m, s, o⟩, rfl, ⟨by simp only; omega, by simp only; omega⟩, by simp only; omega⟩

theorem trod_act {H : Type} {enc : TypeId × Value → H} {W : World} {sp : Nat → Bool} {held : Bool} {fuel : Nat} {cs : List Value} {x : DataW H × List MemPlace} (h : DataW.trod enc Tryz.prog W 0 sp held fuel 49 cs = some x) :
    ∃ c : Ac, cs = c.cells ∧ c.Ok := by
  obtain ⟨xs, n, rfl, rfl, hlen, hxl, hf⟩ := DataW.trod_struct Tryz.underlying49 h
  rw [cellsAct3] at hlen
  obtain ⟨c0, c1, c2, c3, c4, c5, c6, c7, c8, c9, c10, c11, c12, rfl⟩ := list13 hlen
  have hI : ∀ (i : Nat) u, (∃ y, DataW.trod enc Tryz.prog W 0 sp held n 3 [u] = some y) → ∃ k : Int, u = .int .i64 k := fun _ u ⟨y, hy⟩ => by
    obtain ⟨k, hk, _, _⟩ := DataW.trod_int Tryz.underlying3 hy
    injection hk with hk _
    exact ⟨k, hk⟩
  have h0 : DataW.trod enc Tryz.prog W 0 sp held n 3 [c0] = xs[0]? := hf 0 _ rfl
  have h1 : DataW.trod enc Tryz.prog W 0 sp held n 3 [c1] = xs[1]? := hf 1 _ rfl
  have h2 : DataW.trod enc Tryz.prog W 0 sp held n 3 [c2] = xs[2]? := hf 2 _ rfl
  have h3 : DataW.trod enc Tryz.prog W 0 sp held n 3 [c3] = xs[3]? := hf 3 _ rfl
  have h4 : DataW.trod enc Tryz.prog W 0 sp held n 3 [c4] = xs[4]? := hf 4 _ rfl
  have h5 : DataW.trod enc Tryz.prog W 0 sp held n 37 [c5, c6, c7, c8] = xs[5]? := hf 5 _ rfl
  have h6 : DataW.trod enc Tryz.prog W 0 sp held n 37 [c9, c10, c11, c12] = xs[6]? := hf 6 _ rfl
  obtain ⟨y0, e0⟩ := some_at3 hxl (i := 0) (by decide)
  obtain ⟨y1, e1⟩ := some_at3 hxl (i := 1) (by decide)
  obtain ⟨y2, e2⟩ := some_at3 hxl (i := 2) (by decide)
  obtain ⟨y3, e3⟩ := some_at3 hxl (i := 3) (by decide)
  obtain ⟨y4, e4⟩ := some_at3 hxl (i := 4) (by decide)
  obtain ⟨y5, e5⟩ := some_at3 hxl (i := 5) (by decide)
  obtain ⟨y6, e6⟩ := some_at3 hxl (i := 6) (by decide)
  obtain ⟨k0, rfl⟩ := hI 0 c0 ⟨y0, h0.trans e0⟩
  obtain ⟨k1, rfl⟩ := hI 1 c1 ⟨y1, h1.trans e1⟩
  obtain ⟨k2, rfl⟩ := hI 2 c2 ⟨y2, h2.trans e2⟩
  obtain ⟨k3, rfl⟩ := hI 3 c3 ⟨y3, h3.trans e3⟩
  obtain ⟨k4, rfl⟩ := hI 4 c4 ⟨y4, h4.trans e4⟩
  obtain ⟨kk, ek, ok1, ok2⟩ := trod_val (h5.trans e5)
  obtain ⟨vv, ev, ov1, _⟩ := trod_val (h6.trans e6)
  simp only [List.cons.injEq, and_true] at ek ev
  obtain ⟨rfl, rfl, rfl, rfl⟩ := ek
  obtain ⟨rfl, rfl, rfl, rfl⟩ := ev
  exact ⟨⟨k0, k1, k2, k3, k4, kk, vv⟩, rfl, ⟨ok1, ov1, ok2⟩⟩

/-- A small number that came in. -/
theorem open_u8h {W : World} {base : Nat} {v : Value} (hval : Value.okWide Tryz.prog W .any base 5 v) : ∃ n : Int, v = .int .u8 n ∧ 0 ≤ n ∧ n ≤ 255 := by
  simp only [Value.okWide, Tryz.underlying5] at hval
  obtain ⟨n, rfl, hb⟩ := cell_int8 Tryz.underlying5 hval
  simp [IntKind.has, IntKind.min, IntKind.max, IntKind.signed, IntKind.bits] at hb
  exact ⟨n, rfl, by omega, by omega⟩

/-- Calls that came in. -/
theorem open_acts {H : Type} {enc : TypeId × Value → H} {W : World} {base : Nat} {v : Value} {d : DataW H} {p : List MemPlace}
    (hval : Value.okWide Tryz.prog W .any base 22 v) (h0 : DataW.Trod enc Tryz.prog W 0 (fun _ => true) true 22 v d p) : ∃ cs, Acs W v cs := by
  obtain ⟨a, len, cap, rfl⟩ := okWide_slice Tryz.underlying22 hval
  obtain ⟨fuel, hf⟩ := h0
  rcases DataW.trod_slice Tryz.underlying22 hf with ⟨hc, _⟩ | ⟨a', len', cap', elems, rest, q, rfl, hc, _, _, hlc, hcm, hel, hat, _⟩
  · simp [Value.cells] at hc
    obtain ⟨rfl, rfl, rfl⟩ := hc
    exact ⟨[], ⟨none, 0, rfl, fun c => by simp at c⟩, by simp, fun c hc => by cases hc⟩
  · simp [Value.cells] at hc
    obtain ⟨rfl, rfl, rfl⟩ := hc
    rw [cellsAct3] at hat
    have key : ∀ i, ∃ c : Ac, i < len → c.Ok ∧ ∀ t, t < 13 → W.cell? ((a'.add (i * 13)).add t) = c.cells[t]? := by
      intro i
      by_cases hi : i < len
      · obtain ⟨y, ey⟩ := some_at3 hel hi
        have hb := hat i hi
        rw [ey] at hb
        obtain ⟨cs, hcs, htr⟩ := Option.bind_eq_some_iff.1 hb
        obtain ⟨c, rfl, hok⟩ := trod_act htr
        exact ⟨c, fun _ => ⟨hok, (cells_n hcs).2⟩⟩
      · exact ⟨⟨0, 0, 0, 0, 0, V0, V0⟩, fun h => absurd h hi⟩
    obtain ⟨f, hf2⟩ := Classical.axiomOfChoice key
    have hl : ((List.range len).map f).length = len := by simp
    unfold maxLen at hcm
    refine ⟨(List.range len).map f, ⟨some a', cap, by rw [hl], fun c => ?_⟩, by rw [hl]; omega, fun c hc => ?_⟩
    · rw [hl] at c
      have g0 := (hf2 0 c).2 0 (by omega)
      have hsp : a'.spot = none := by
        have e : (a'.add (0 * 13)).add 0 = a' := by
          obtain ⟨b, o, sp⟩ := a'
          cases sp <;> simp [Addr.add]
        rw [e] at g0
        have hs : W.cell? a' = some (.int .i64 (f 0).kind) := g0
        exact spot_none3 hs
      obtain ⟨gb, go, sp⟩ := a'
      simp only at hsp
      subst hsp
      refine ⟨gb, go, rfl, ?_, fun j c0 hj t ht => ?_⟩
      · rw [add_mk3, add_mk3] at g0
        have hs : W.cell? ⟨gb, go + 0 * 13 + 0, none⟩ = some (.int .i64 (f 0).kind) := g0
        exact World.block_lt_of_cell? W _ hs
      · have hjl : j < len := by
          rcases Nat.lt_or_ge j len with q | q
          · exact q
          · rw [List.getElem?_eq_none (by rw [hl]; exact q)] at hj; cases hj
        rw [List.getElem?_map, List.getElem?_range hjl] at hj
        have e : f j = c0 := Option.some.inj hj
        have := (hf2 j hjl).2 t ht
        rw [add_mk3, add_mk3, e] at this
        exact this
    · obtain ⟨i, hi, rfl⟩ := List.mem_map.1 hc
      exact (hf2 i (List.mem_range.1 hi)).1

end Go.Proofs.YthmocdabakkfhaaGreatDoor

/-
  Layer 9: an int that came in.
-/
namespace Go.Proofs.YthmocdabakkfhaaGreatDoor
set_option maxRecDepth 100000
open Go.ChangeShapes Go.WideShapes Go.ChangeAt Go.RowKit

theorem open_ih {W : World} {base : Nat} {v : Value} (hval : Value.okWide Tryz.prog W .any base 3 v) : ∃ k : Int, v = .int .i64 k := by
  simp only [Value.okWide, Tryz.underlying3, Cell.okWide] at hval
  cases v <;> simp_all [Cell.ok]

end Go.Proofs.YthmocdabakkfhaaGreatDoor
