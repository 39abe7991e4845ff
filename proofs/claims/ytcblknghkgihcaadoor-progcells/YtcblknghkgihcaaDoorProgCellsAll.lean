/-
  ProgCells, for every input: a function becomes the tree of data that the reference tells, both sides read that tree alike, and a function that can be, with operands that can be told, comes back as it was (or the function is greater than the law looks at), and a least function is checked and printed. Conditions: the table of orders and the library's tables, which the card ties; the function handed in holds itself nowhere, the row's own cell 'loops'.
-/
import Derived.Test.YtcblknghkgihcaaDoorPgLives
import Derived.Test.YtcblknghkgihcaaDoorCards
import Derived.Test.YtcblknghkgihcaaDoorTie
import Derived.SizedLaws
import Derived.Carry
import Derived.ShutString
import Derived.OpenShut
import Derived.Deep.DeepHandedRow
import Derived.Lib.LaidTab
import Derived.LaidMore
import Derived.Stop.LaidErr
import Derived.Test.YtcblknghkgihcaaDoorCdText
import Derived.Test.YtcblknghkgihcaaDoorCdOwn
import Derived.Lib.Strings
import Derived.Deep.Light
import Derived.Laws.OwnMore
import Derived.Test.YtcblknghkgihcaaDoorGA
import Derived.Deep.RegionHeld3
import Derived.Test.YtcblknghkgihcaaDoorGB
import Derived.Test.YtcblknghkgihcaaDoorGR
namespace Go.Proofs.YtcblknghkgihcaaDoor
set_option maxRecDepth 100000
open Go.ChangeShapes Go.WideShapes Go.ChangeAt Go.RowKit Txt Pg

theorem ownKnob_none : ownKnob Tryd.prog.godebug = none := by kernel_rfl
theorem laidOut : laidOutB Tryd.prog = true := by kernel_rfl
theorem gOrd : Tryd.prog.globalNamed "minstrel/prog.orders" = some 0 := by kernel_rfl
theorem gOrdType : (Tryd.prog.globals[0]?).map (·.type) = some 131 := by kernel_rfl
theorem cellsOrd : Tryd.prog.cellsOf 131 = 190 := by kernel_rfl
theorem cellsRowO : Tryd.prog.cellsOf 119 = 5 := by kernel_rfl
theorem cellsOp3 : Tryd.prog.cellsOf 117 = 3 := by kernel_rfl
theorem cellsOp1 : Tryd.prog.cellsOf 116 = 1 := by kernel_rfl
theorem cellsTxt : Tryd.prog.cellsOf 9 = 1 := by kernel_rfl
theorem cellsInt1 : Tryd.prog.cellsOf 3 = 1 := by kernel_rfl

def laidAll : List (String × DataW Unit) := [("math/bits.deBruijn32tab", Rows.laid_math_bits_deBruijn32tab), ("math/bits.deBruijn64tab", Rows.laid_math_bits_deBruijn64tab), ("internal/strconv.uint64pow10", Rows.laid_internal_strconv_uint64pow10), ("minstrel/prog.orders", Rows.laid_minstrel_prog_orders)]
def laidOrd : List (String × DataW Unit) := [("minstrel/prog.orders", Rows.laid_minstrel_prog_orders)]
theorem pow_data13 : (Rows.laid_internal_strconv_uint64pow10 : DataW Unit) = Lib.tabData .u64 Lib.pow10Tab := by kernel_rfl
def rowD (x : Rw) : DataW Unit := .agg [.lit (.string x.1), .lit (.int .i64 x.2.1), .agg [.lit (.int .i64 x.2.2.1), .lit (.int .i64 x.2.2.2.1), .lit (.int .i64 x.2.2.2.2)]]
theorem ord_data : (Rows.laid_minstrel_prog_orders : DataW Unit) = .agg (ordL.map rowD) := by kernel_rfl

/-- An array of numbers that reads as a list of numbers holds them, cell for cell. -/
theorem ints_of {H : Type} {enc : TypeId × Value → H} {P : Program} {w : World} {base : Nat} {sp : Nat → Bool} {held : Bool} {fuel : Nat} {t e : TypeId} {n : Nat} {cs : List Value} {ds : List (DataW H)} {p : List MemPlace}
    (ht : P.underlying t = some (.array n e)) (he : P.underlying e = some (.int .i64)) (hce : P.cellsOf e = 1) (hct : P.cellsOf t = n)
    (h : DataW.trod enc P w base sp held fuel t cs = some (.agg ds, p)) (i : Nat) (hi : i < n) : ∃ z : Int, cs[i]? = some (.int .i64 z) ∧ ds[i]? = some (.lit (.int .i64 z)) := by
  cases fuel with
  | zero => simp [DataW.trod] at h
  | succ fuel =>
    simp only [DataW.trod, ht, hce, hct, Nat.mul_one] at h
    split at h
    · obtain ⟨xs, hm, hx⟩ := Option.map_eq_some_iff.1 h
      have hxs : xs.map (·.1) = ds := by
        have := congrArg Prod.fst hx
        simpa using this
      obtain ⟨b, hb, hf⟩ := Lib.mapM_at hm i i (by simp [hi])
      obtain ⟨z, hc, rfl, _⟩ := DataW.trod_int he hf
      refine ⟨z, ?_, ?_⟩
      · have := congrArg (·[0]?) hc
        simpa [List.getElem?_take, List.getElem?_drop] using this
      · rw [← hxs]; simp [hb]
    · cases h

theorem list5 {l : List Value} (h : l.length = 5) : ∃ a b c d e, l = [a, b, c, d, e] := by
  match l, h with
  | [a, b, c, d, e], _ => exact ⟨a, b, c, d, e, rfl⟩

/-- A row of the table that reads as it should holds it, cell for cell. -/
theorem row_of {enc : TypeId × Value → Unit} {w : World} {base : Nat} {sp : Nat → Bool} {held : Bool} {fuel : Nat} {cs : List Value} {x : Rw} {p : List MemPlace}
    (h : DataW.trod enc Tryd.prog w base sp held fuel 119 cs = some (rowD x, p)) : cs = [.string (bs x.1), .int .i64 x.2.1, .int .i64 x.2.2.1, .int .i64 x.2.2.2.1, .int .i64 x.2.2.2.2] := by
  obtain ⟨xs, n, rfl, hd, hlen, hxl, hf⟩ := DataW.trod_struct Tryd.underlying119 h
  rw [cellsRowO] at hlen
  obtain ⟨c0, c1, c2, c3, c4, rfl⟩ := list5 hlen
  have hd1 : [DataW.lit (.string x.1), .lit (.int .i64 x.2.1), .agg [.lit (.int .i64 x.2.2.1), .lit (.int .i64 x.2.2.2.1), .lit (.int .i64 x.2.2.2.2)]] = xs.map (·.1) := by
    have := congrArg Prod.fst hd
    unfold rowD at this
    simpa using this
  match xs, hxl, hd1, hf with
  | [y0, y1, y2], _, hd1, hf =>
    simp only [List.map_cons, List.map_nil, List.cons.injEq, and_true] at hd1
    obtain ⟨e0, e1, e2⟩ := hd1
    have h0 : DataW.trod enc Tryd.prog w base sp held n 9 (([c0, c1, c2, c3, c4].drop 0).take (Tryd.prog.cellsOf 9)) = some y0 := hf 0 _ rfl
    have h1 : DataW.trod enc Tryd.prog w base sp held n 3 (([c0, c1, c2, c3, c4].drop 1).take (Tryd.prog.cellsOf 3)) = some y1 := hf 1 _ rfl
    have h2 : DataW.trod enc Tryd.prog w base sp held n 117 (([c0, c1, c2, c3, c4].drop 2).take (Tryd.prog.cellsOf 117)) = some y2 := hf 2 _ rfl
    simp only [cellsTxt, cellsInt1, cellsOp3, List.drop_zero, List.drop_succ_cons, List.take_succ_cons, List.take_zero] at h0 h1 h2
    obtain ⟨s0, hs0, hy0, _⟩ := DataW.trod_string Tryd.underlying9 h0
    obtain ⟨z1, hz1, hy1, _⟩ := DataW.trod_int Tryd.underlying3 h1
    obtain ⟨d2, p2⟩ := y2
    simp only at e2
    subst e2
    obtain ⟨a0, f0, g0⟩ := ints_of Tryd.underlying117 Tryd.underlying116 cellsOp1 cellsOp3 h2 0 (by decide)
    obtain ⟨a1, f1, g1⟩ := ints_of Tryd.underlying117 Tryd.underlying116 cellsOp1 cellsOp3 h2 1 (by decide)
    obtain ⟨a2, f2, g2⟩ := ints_of Tryd.underlying117 Tryd.underlying116 cellsOp1 cellsOp3 h2 2 (by decide)
    simp at f0 f1 f2 g0 g1 g2
    injection hs0 with hs0 _
    injection hz1 with hz1 _
    subst hs0 hz1 f0 f1 f2
    rw [hy0] at e0
    rw [hy1] at e1
    simp at e0 e1
    rw [e0, e1, g0, g1, g2, bs_data]

/-- What the row's list gives: the table's cells. -/
theorem ordTab {W : World} (h : laidMet Tryd.prog laidOrd W) : Ot W := by
  obtain ⟨ps, ⟨g', t', cs, fuel, p, q, hg', ht', hvar, hd, _, _⟩, _⟩ := h
  obtain rfl := Option.some.inj (gOrd.symm.trans hg')
  obtain rfl := Option.some.inj (gOrdType.symm.trans ht')
  rw [ord_data] at hd
  have key : ∀ r, r < 38 → ∀ j, j < 5 → W.cell? ⟨0, r * 5 + j, none⟩ = [Value.string (bs (ordL.getD r noRow).1), .int .i64 (ordL.getD r noRow).2.1, .int .i64 (ordL.getD r noRow).2.2.1, .int .i64 (ordL.getD r noRow).2.2.2.1, .int .i64 (ordL.getD r noRow).2.2.2.2][j]? := by
    intro r hr j hj
    cases fuel with
    | zero => simp [DataW.trod] at hd
    | succ fuel =>
      simp only [DataW.trod, Tryd.underlying131, cellsRowO, cellsOrd] at hd
      split at hd
      · obtain ⟨xs, hm, hx⟩ := Option.map_eq_some_iff.1 hd
        have hxs : xs.map (·.1) = ordL.map rowD := by
          have := congrArg Prod.fst hx
          simpa using this
        obtain ⟨b, hb, hf⟩ := Lib.mapM_at hm r r (by simp [hr])
        have hb1 : b.1 = rowD (ordL.getD r noRow) := by
          have h1 := congrArg (·[r]?) hxs
          simp only [List.getElem?_map, hb] at h1
          rw [List.getElem?_eq_getElem (show r < ordL.length from hr)] at h1
          simp only [Option.map_some, Option.some.injEq] at h1
          rw [h1, List.getD_eq_getElem?_getD, List.getElem?_eq_getElem (show r < ordL.length from hr)]
          rfl
        obtain ⟨bd, bp⟩ := b
        simp only at hb1
        subst hb1
        have hrow := row_of hf
        have h7 := World.var?_cell gOrd hvar (r * 5 + j)
        rw [h7, ← hrow, List.getElem?_take_of_lt hj, List.getElem?_drop]
        simp
      · cases hd
  have k0 := fun r hr => key r hr 0 (by decide)
  exact ⟨World.block_lt_of_cell? W ⟨0, 0, none⟩ (k0 0 (by decide)), fun r hr => ⟨key r hr 0 (by decide), key r hr 1 (by decide), key r hr 2 (by decide), key r hr 3 (by decide), key r hr 4 (by decide)⟩⟩

theorem bothTabs {W : World} (h : laidMetH Tryd.prog laidAll W) : Ot W ∧ TB W := by
  have h0 : laidMet Tryd.prog laidAll W := h
  have h1 : laidMet Tryd.prog [("internal/strconv.uint64pow10", Rows.laid_internal_strconv_uint64pow10), ("minstrel/prog.orders", Rows.laid_minstrel_prog_orders)] W := laidMet.tail (laidMet.tail h0)
  have h2 : laidMet Tryd.prog laidOrd W := laidMet.tail h1
  refine ⟨ordTab h2, ?_⟩
  obtain ⟨g, hg⟩ := Option.isSome_iff_exists.1 (by kernel_rfl : (Tryd.prog.globalNamed "internal/strconv.uint64pow10").isSome = true)
  have hb : ((Tryd.prog.globalNamed "internal/strconv.uint64pow10").bind fun g => (Tryd.prog.globals[g]?).map (·.type)) = some 153 := by kernel_rfl
  rw [hg] at hb
  rw [pow_data13] at h1
  exact Lib.tabIs_of_head hg hb Tryd.underlying153 Tryd.underlying30 (by kernel_rfl) (by kernel_rfl) h1

/-- A whole number that came in. -/
theorem open_int {W : World} {base : Nat} {v : Value} (hval : Value.okWide Tryd.prog W .any base 3 v) : ∃ k : Int, v = .int .i64 k ∧ i64 k := by
  simp only [Value.okWide, Tryd.underlying3, Cell.okWide] at hval
  cases v <;> simp_all [Cell.ok]
  next a n =>
    have h := hval.2
    simp [IntKind.has, IntKind.min, IntKind.max, IntKind.signed, IntKind.bits] at h
    unfold i64
    omega

end Go.Proofs.YtcblknghkgihcaaDoor
namespace Go.Proofs.YtcblknghkgihcaaDoor
set_option maxRecDepth 100000
open Go.ChangeShapes Go.WideShapes Go.ChangeAt Go.RowKit Txt Pg

theorem cellsPr : Tryd.prog.cellsOf 27 = 6 := by kernel_rfl
theorem cellsUp : Tryd.prog.cellsOf 54 = 2 := by kernel_rfl
theorem cellsIns : Tryd.prog.cellsOf 58 = 4 := by kernel_rfl
theorem cellsVl : Tryd.prog.cellsOf 63 = 4 := by kernel_rfl
theorem cellsRU : Tryd.prog.cellsOf 22 = 1 := by kernel_rfl
theorem cellsRI : Tryd.prog.cellsOf 23 = 1 := by kernel_rfl
theorem cellsRV : Tryd.prog.cellsOf 24 = 1 := by kernel_rfl
theorem cellsRP : Tryd.prog.cellsOf 25 = 1 := by kernel_rfl
theorem cellsBo : Tryd.prog.cellsOf 4 = 1 := by kernel_rfl
theorem cellsNm : Tryd.prog.cellsOf 61 = 1 := by kernel_rfl
theorem bytesUp : Tryd.prog.bytesOf 54 = 16 := by kernel_rfl
theorem bytesIns : Tryd.prog.bytesOf 58 = 32 := by kernel_rfl
theorem bytesVl : Tryd.prog.bytesOf 63 = 40 := by kernel_rfl
theorem bytesPr : Tryd.prog.bytesOf 27 = 112 := by kernel_rfl

theorem some_atP {α : Type} {l : List α} {n i : Nat} (h : l.length = n) (hi : i < n) : ∃ x, l[i]? = some x := ⟨l[i]'(by omega), List.getElem?_eq_getElem (by omega)⟩
theorem list2P {l : List Value} (h : l.length = 2) : ∃ a b, l = [a, b] := by
  match l, h with
  | [a, b], _ => exact ⟨a, b, rfl⟩
theorem list4P {l : List Value} (h : l.length = 4) : ∃ a b c d, l = [a, b, c, d] := by
  match l, h with
  | [a, b, c, d], _ => exact ⟨a, b, c, d, rfl⟩
theorem list6 {l : List Value} (h : l.length = 6) : ∃ a b c d e f, l = [a, b, c, d, e, f] := by
  match l, h with
  | [a, b, c, d, e, f], _ => exact ⟨a, b, c, d, e, f, rfl⟩
theorem spotP {W : World} {a : Addr} {u : Value} (h : W.cell? a = some u) : a.spot = none := by
  obtain ⟨b, o, s⟩ := a
  cases s with
  | none => rfl
  | some k =>
    unfold World.cell? at h
    split at h <;> simp at h
theorem addP (b o n : Nat) : Addr.add ⟨b, o, none⟩ n = ⟨b, o + n, none⟩ := by unfold Addr.add; split <;> simp_all
/-- z cells in a row. -/
theorem cells_at {W : World} {a : Addr} {cs : List Value} {z : Nat} (h : W.cells? 0 a z = some cs) (j : Nat) (hj : j < z) : ∃ c, cs[j]? = some c ∧ W.cell? (a.add j) = some c := by
  unfold World.cells? at h
  rw [if_pos (Nat.zero_le _)] at h
  obtain ⟨b, e, f⟩ := Lib.mapM_at h j j (by simp [hj])
  exact ⟨b, e, f⟩

theorem weights_allP {H : Type} {P : Program} {e : TypeId} : ∀ {ds : List (DataW H)} {d : DataW H}, d ∈ ds → ∀ n ∈ d.weights P e, n ∈ DataW.weightsAll P e ds
  | c :: ds, d, h, n, hn => by
    simp only [DataW.weightsAll, List.mem_append]
    rcases List.mem_cons.1 h with rfl | h
    · exact Or.inl hn
    · exact Or.inr (weights_allP h n hn)

/-- A row that came in, of parts of z cells, each of which is read as G says. -/
theorem row_open {H : Type} {enc : TypeId × Value → H} {W : World} {sp : Nat → Bool} {held : Bool} {fuel : Nat} {ts te : TypeId} {u : Value} {y : DataW H × List MemPlace} {z by' : Nat} (hz : 0 < z) (G : List Value → Prop)
    (ht : Tryd.prog.underlying ts = some (.slice te)) (hce : Tryd.prog.cellsOf te = z) (hby : Tryd.prog.bytesOf te = by') (hb16 : 1 ≤ by')
    (h : DataW.trod enc Tryd.prog W 0 sp held fuel ts [u] = some y) (hw : ∀ m ∈ y.1.weights Tryd.prog ts, m ≤ reachBytes)
    (hG : ∀ q (cs : List Value) (x : DataW H × List MemPlace), q < fuel → DataW.trod enc Tryd.prog W 0 sp held q te cs = some x → (∀ m ∈ x.1.weights Tryd.prog te, m ≤ reachBytes) → G cs) :
    ∃ (n : Nat) (C : Nat → List Value), SL W u n z (fun i j v => (C i)[j]? = some v) ∧ ∀ i, i < n → G (C i) := by
  rcases DataW.trod_slice ht h with ⟨hc, _⟩ | ⟨a, len, cap, elems, rest, q, hq, hc, hy, _, hlc, hcm, hel, hat, _⟩
  · injection hc with hc _
    subst hc
    exact ⟨0, fun _ => [], ⟨none, 0, rfl, Nat.le_refl _, by decide, by unfold far; omega, fun _ => ⟨rfl, rfl⟩, fun x e => by cases e⟩, fun i hi => absurd hi (Nat.not_lt_zero _)⟩
  · injection hc with hc _
    subst hc
    unfold maxLen at hcm
    rw [hy] at hw
    simp only [DataW.weights, ht, hby] at hw
    have hlen : len ≤ far := by
      have := hw _ List.mem_cons_self
      simp only [List.length_map, hel] at this
      unfold reachBytes at this
      unfold far
      have h2 : len * 1 ≤ len * by' := Nat.mul_le_mul_left _ hb16
      have h3 : len * by' ≤ (len + rest.length) * by' := Nat.mul_le_mul_right _ (Nat.le_add_right _ _)
      first | omega | (simp at *; omega)
    rw [hce] at hat
    have key : ∀ i, ∃ l : List Value, i < len → (W.cells? 0 (a.add (i * z)) z = some l) ∧ G l := by
      intro i
      by_cases hi : i < len
      · obtain ⟨x, ex⟩ := some_atP hel hi
        have hb := hat i hi
        rw [ex] at hb
        obtain ⟨cs, hcs, htr⟩ := Option.bind_eq_some_iff.1 hb
        refine ⟨cs, fun _ => ⟨hcs, hG q cs x (by omega) htr (fun m hm => ?_)⟩⟩
        refine hw m (List.mem_cons_of_mem _ (List.mem_append_left _ (weights_allP (d := x.1) ?_ m hm)))
        exact List.mem_map.2 ⟨x, List.mem_of_getElem? ex, rfl⟩
      · exact ⟨[], fun h => absurd h hi⟩
    obtain ⟨C, hC⟩ := Classical.axiomOfChoice key
    refine ⟨len, C, ⟨some a, cap, rfl, hlc, by omega, hlen, (fun e => by cases e), fun x e => ?_⟩, fun i hi => (hC i hi).2⟩
    cases e
    have hsp : 0 < len → a.spot = none := by
      intro h0
      obtain ⟨c, _, hc⟩ := cells_at (hC 0 h0).1 0 hz
      rw [Nat.zero_mul, Addr_add_zero, Addr_add_zero] at hc
      exact spotP hc
    refine ⟨hsp, fun i hi j hj => ?_⟩
    obtain ⟨c, h1, h2⟩ := cells_at (hC i hi).1 j hj
    have h3 := hsp (Nat.lt_of_le_of_lt (Nat.zero_le _) hi)
    obtain ⟨b, o, s⟩ := a
    simp only at h3
    subst h3
    rw [addP, addP] at h2
    exact ⟨c, h2, h1⟩

theorem rows_of {α : Type} : ∀ (n : Nat) (Q : Nat → α → Prop), (∀ i, i < n → ∃ x, Q i x) → ∃ l : List α, l.length = n ∧ ∀ i (h : i < l.length), Q i l[i]
  | 0, _, _ => ⟨[], rfl, fun i h => absurd h (Nat.not_lt_zero _)⟩
  | n + 1, Q, h => by
    obtain ⟨l, hl, hq⟩ := rows_of n Q (fun i hi => h i (by omega))
    obtain ⟨x, hx⟩ := h n (by omega)
    refine ⟨l ++ [x], by simp [hl], fun i hi => ?_⟩
    by_cases c : i < l.length
    · rw [List.getElem_append_left c]; exact hq i c
    · have : i = l.length := by rw [List.length_append, List.length_singleton] at hi; omega
      subst this
      rw [List.getElem_append_right (Nat.le_refl _)]
      simp only [Nat.sub_self, List.getElem_singleton]
      rw [hl]; exact hx

section
variable {H : Type} {enc : TypeId × Value → H} {W : World} {sp : Nat → Bool} {held : Bool}
theorem i64_of {k : Int} (wk : (Lit.int IntKind.i64 k).wf = true) : i64 k := by
  unfold i64
  simpa [Lit.wf, IntKind.min, IntKind.max, IntKind.signed, IntKind.bits] using wk
theorem up_open (q : Nat) (cs : List Value) (x : DataW H × List MemPlace) (h : DataW.trod enc Tryd.prog W 0 sp held q 54 cs = some x) : ∃ u : Upp, cs = [.bool u.own, .int .i64 u.pl] ∧ u.ok := by
  obtain ⟨xs, n, rfl, hd, hlen, hxl, hf⟩ := DataW.trod_struct Tryd.underlying54 h
  rw [cellsUp] at hlen
  obtain ⟨c0, c1, rfl⟩ := list2P hlen
  have h0 : DataW.trod enc Tryd.prog W 0 sp held n 4 (([c0, c1].drop 0).take (Tryd.prog.cellsOf 4)) = xs[0]? := hf 0 _ rfl
  have h1 : DataW.trod enc Tryd.prog W 0 sp held n 3 (([c0, c1].drop 1).take (Tryd.prog.cellsOf 3)) = xs[1]? := hf 1 _ rfl
  obtain ⟨y0, e0⟩ := some_atP hxl (i := 0) (by decide)
  obtain ⟨y1, e1⟩ := some_atP hxl (i := 1) (by decide)
  rw [e0] at h0
  rw [e1] at h1
  simp only [cellsBo, cellsInt1, List.drop_zero, List.drop_succ_cons, List.take_succ_cons, List.take_zero] at h0 h1
  obtain ⟨b, hb, _⟩ := DataW.trod_bool Tryd.underlying4 h0
  obtain ⟨k, hk, _, wk⟩ := DataW.trod_int Tryd.underlying3 h1
  injection hb with hb _
  injection hk with hk _
  subst hb hk
  exact ⟨⟨b, k⟩, rfl, i64_of wk⟩
theorem ins_open (q : Nat) (cs : List Value) (x : DataW H × List MemPlace) (h : DataW.trod enc Tryd.prog W 0 sp held q 58 cs = some x) : ∃ u : Ins, cs = [.int .i64 u.op, .int .i64 u.a, .int .i64 u.b, .int .i64 u.c] ∧ u.ok := by
  obtain ⟨xs, n, rfl, hd, hlen, hxl, hf⟩ := DataW.trod_struct Tryd.underlying58 h
  rw [cellsIns] at hlen
  obtain ⟨c0, c1, c2, c3, rfl⟩ := list4P hlen
  have h0 : DataW.trod enc Tryd.prog W 0 sp held n 3 (([c0, c1, c2, c3].drop 0).take (Tryd.prog.cellsOf 3)) = xs[0]? := hf 0 _ rfl
  have h1 : DataW.trod enc Tryd.prog W 0 sp held n 3 (([c0, c1, c2, c3].drop 1).take (Tryd.prog.cellsOf 3)) = xs[1]? := hf 1 _ rfl
  have h2 : DataW.trod enc Tryd.prog W 0 sp held n 3 (([c0, c1, c2, c3].drop 2).take (Tryd.prog.cellsOf 3)) = xs[2]? := hf 2 _ rfl
  have h3 : DataW.trod enc Tryd.prog W 0 sp held n 3 (([c0, c1, c2, c3].drop 3).take (Tryd.prog.cellsOf 3)) = xs[3]? := hf 3 _ rfl
  obtain ⟨y0, e0⟩ := some_atP hxl (i := 0) (by decide)
  obtain ⟨y1, e1⟩ := some_atP hxl (i := 1) (by decide)
  obtain ⟨y2, e2⟩ := some_atP hxl (i := 2) (by decide)
  obtain ⟨y3, e3⟩ := some_atP hxl (i := 3) (by decide)
  rw [e0] at h0
  rw [e1] at h1
  rw [e2] at h2
  rw [e3] at h3
  simp only [cellsInt1, List.drop_zero, List.drop_succ_cons, List.take_succ_cons, List.take_zero] at h0 h1 h2 h3
  obtain ⟨k0, hk0, _, w0⟩ := DataW.trod_int Tryd.underlying3 h0
  obtain ⟨k1, hk1, _, w1⟩ := DataW.trod_int Tryd.underlying3 h1
  obtain ⟨k2, hk2, _, w2⟩ := DataW.trod_int Tryd.underlying3 h2
  obtain ⟨k3, hk3, _, w3⟩ := DataW.trod_int Tryd.underlying3 h3
  injection hk0 with hk0 _
  injection hk1 with hk1 _
  injection hk2 with hk2 _
  injection hk3 with hk3 _
  subst hk0 hk1 hk2 hk3
  exact ⟨⟨k0, k1, k2, k3⟩, rfl, i64_of w0, i64_of w1, i64_of w2, i64_of w3⟩
theorem vl_open (q : Nat) (cs : List Value) (x : DataW H × List MemPlace) (h : DataW.trod enc Tryd.prog W 0 sp held q 63 cs = some x) (hw : ∀ m ∈ x.1.weights Tryd.prog 63, m ≤ reachBytes) : ∃ u : Vl, cs = [.int .i64 u.k, .int .u64 u.n, .string u.s, .int .i64 u.o] ∧ u.ok := by
  obtain ⟨xs, n, rfl, hd, hlen, hxl, hf⟩ := DataW.trod_struct Tryd.underlying63 h
  rw [cellsVl] at hlen
  obtain ⟨c0, c1, c2, c3, rfl⟩ := list4P hlen
  have h0 : DataW.trod enc Tryd.prog W 0 sp held n 3 (([c0, c1, c2, c3].drop 0).take (Tryd.prog.cellsOf 3)) = xs[0]? := hf 0 _ rfl
  have h1 : DataW.trod enc Tryd.prog W 0 sp held n 61 (([c0, c1, c2, c3].drop 1).take (Tryd.prog.cellsOf 61)) = xs[1]? := hf 1 _ rfl
  have h2 : DataW.trod enc Tryd.prog W 0 sp held n 9 (([c0, c1, c2, c3].drop 2).take (Tryd.prog.cellsOf 9)) = xs[2]? := hf 2 _ rfl
  have h3 : DataW.trod enc Tryd.prog W 0 sp held n 3 (([c0, c1, c2, c3].drop 3).take (Tryd.prog.cellsOf 3)) = xs[3]? := hf 3 _ rfl
  obtain ⟨y0, e0⟩ := some_atP hxl (i := 0) (by decide)
  obtain ⟨y1, e1⟩ := some_atP hxl (i := 1) (by decide)
  obtain ⟨y2, e2⟩ := some_atP hxl (i := 2) (by decide)
  obtain ⟨y3, e3⟩ := some_atP hxl (i := 3) (by decide)
  rw [e0] at h0
  rw [e1] at h1
  rw [e2] at h2
  rw [e3] at h3
  simp only [cellsInt1, cellsNm, cellsTxt, List.drop_zero, List.drop_succ_cons, List.take_succ_cons, List.take_zero] at h0 h1 h2 h3
  obtain ⟨k0, hk0, _, w0⟩ := DataW.trod_int Tryd.underlying3 h0
  obtain ⟨k1, hk1, _, w1⟩ := DataW.trod_int Tryd.underlying61 h1
  obtain ⟨k2, hk2, hy2, w2⟩ := DataW.trod_string Tryd.underlying9 h2
  obtain ⟨k3, hk3, _, w3⟩ := DataW.trod_int Tryd.underlying3 h3
  injection hk0 with hk0 _
  injection hk1 with hk1 _
  injection hk2 with hk2 _
  injection hk3 with hk3 _
  subst hk0 hk1 hk2 hk3
  have hn : 0 ≤ k1 ∧ k1 ≤ 18446744073709551615 := by simpa [Lit.wf, IntKind.min, IntKind.max, IntKind.signed, IntKind.bits] using w1
  have hs : k2.size ≤ far := by
    have h4 := hw k2.data.toList.length (by
      rw [hd]
      simp only [DataW.weights, Tryd.underlying63]
      refine DataW.weights_mem_each (ts := [3, 61, 9, 3]) (j := 2) (t := 9) (d := .lit (.string k2.data.toList)) rfl ?_ _ (by simp [DataW.weights])
      rw [List.getElem?_map, e2, hy2]; rfl)
    unfold reachBytes at h4
    unfold far
    have e : k2.data.toList.length = k2.size := by simp
    omega
  exact ⟨⟨k0, k1, k2, k3⟩, rfl, i64_of w0, ⟨hn.1, by show k1 < 18446744073709551616; omega⟩, hs, i64_of w3⟩

theorem su_of {u : Value} {n : Nat} {C : Nat → List Value} (hs : SL W u n 2 (fun i j v => (C i)[j]? = some v)) (hg : ∀ i, i < n → ∃ x : Upp, C i = [.bool x.own, .int .i64 x.pl] ∧ x.ok) : ∃ us, SU W u us := by
  obtain ⟨l, hl, hq⟩ := rows_of n _ hg
  refine ⟨l, ?_, fun x hx => ?_⟩
  · rw [hl]
    obtain ⟨a, cap, h1, h2, h3, h4, h5, h6⟩ := hs.form
    refine ⟨a, cap, h1, h2, h3, h4, h5, fun x hx => ⟨(h6 x hx).1, fun i hi j hj => ?_⟩⟩
    obtain ⟨v, hv, hF⟩ := (h6 x hx).2 i hi j hj
    have hi2 : i < l.length := by omega
    rw [(hq i hi2).1] at hF
    refine ⟨v, hv, l[i], List.getElem?_eq_getElem hi2, ?_⟩
    have hj2 : j = 0 ∨ j = 1 := by omega
    rcases hj2 with rfl | rfl <;> simpa using hF.symm
  · obtain ⟨i, hi, rfl⟩ := List.getElem_of_mem hx
    exact (hq i hi).2
theorem si_of {u : Value} {n : Nat} {C : Nat → List Value} (hs : SL W u n 4 (fun i j v => (C i)[j]? = some v)) (hg : ∀ i, i < n → ∃ x : Ins, C i = [.int .i64 x.op, .int .i64 x.a, .int .i64 x.b, .int .i64 x.c] ∧ x.ok) : ∃ us, SI W u us := by
  obtain ⟨l, hl, hq⟩ := rows_of n _ hg
  refine ⟨l, ?_, fun x hx => ?_⟩
  · rw [hl]
    obtain ⟨a, cap, h1, h2, h3, h4, h5, h6⟩ := hs.form
    refine ⟨a, cap, h1, h2, h3, h4, h5, fun x hx => ⟨(h6 x hx).1, fun i hi j hj => ?_⟩⟩
    obtain ⟨v, hv, hF⟩ := (h6 x hx).2 i hi j hj
    have hi2 : i < l.length := by omega
    rw [(hq i hi2).1] at hF
    refine ⟨v, hv, l[i], List.getElem?_eq_getElem hi2, ?_⟩
    have hj2 : j = 0 ∨ j = 1 ∨ j = 2 ∨ j = 3 := by omega
    rcases hj2 with rfl | rfl | rfl | rfl <;> simpa using hF.symm
  · obtain ⟨i, hi, rfl⟩ := List.getElem_of_mem hx
    exact (hq i hi).2
theorem sv_of {u : Value} {n : Nat} {C : Nat → List Value} (hs : SL W u n 4 (fun i j v => (C i)[j]? = some v)) (hg : ∀ i, i < n → ∃ x : Vl, C i = [.int .i64 x.k, .int .u64 x.n, .string x.s, .int .i64 x.o] ∧ x.ok) : ∃ us, SV W u us := by
  obtain ⟨l, hl, hq⟩ := rows_of n _ hg
  refine ⟨l, ?_, fun x hx => ?_⟩
  · rw [hl]
    obtain ⟨a, cap, h1, h2, h3, h4, h5, h6⟩ := hs.form
    refine ⟨a, cap, h1, h2, h3, h4, h5, fun x hx => ⟨(h6 x hx).1, fun i hi j hj => ?_⟩⟩
    obtain ⟨v, hv, hF⟩ := (h6 x hx).2 i hi j hj
    have hi2 : i < l.length := by omega
    rw [(hq i hi2).1] at hF
    refine ⟨v, hv, l[i], List.getElem?_eq_getElem hi2, ?_⟩
    have hj2 : j = 0 ∨ j = 1 ∨ j = 2 ∨ j = 3 := by omega
    rcases hj2 with rfl | rfl | rfl | rfl <;> simpa using hF.symm
  · obtain ⟨i, hi, rfl⟩ := List.getElem_of_mem hx
    exact (hq i hi).2
theorem sp_of {u : Value} {n : Nat} {C : Nat → List Value} (hs : SL W u n 6 (fun i j v => (C i)[j]? = some v)) (hg : ∀ i, i < n → ∃ x : Pr × Six, C i = [.int .i64 x.2.pa, .int .i64 x.2.rg, x.2.u, x.2.c, x.2.k, x.2.p] ∧ PR W x.1 x.2) : ∃ (ps : List Pr) (f : Nat → Six), SL W u ps.length 6 (fun i j v => v = (f i).at j) ∧ ∀ i (h : i < ps.length), PR W ps[i] (f i) := by
  obtain ⟨l, hl, hq⟩ := rows_of n _ hg
  subst hl
  refine ⟨l.map (·.1), fun i => if h : i < l.length then l[i].2 else ⟨0, 0, undef, undef, undef, undef⟩, ?_, fun i hi => ?_⟩
  · rw [List.length_map]
    obtain ⟨a, cap, h1, h2, h3, h4, h5, h6⟩ := hs.form
    refine ⟨a, cap, h1, h2, h3, h4, h5, fun x hx => ⟨(h6 x hx).1, fun i hi j hj => ?_⟩⟩
    obtain ⟨v, hv, hF⟩ := (h6 x hx).2 i hi j hj
    have hi2 : i < l.length := hi
    rw [(hq i hi2).1] at hF
    refine ⟨v, hv, ?_⟩
    simp only [dif_pos hi2]
    have hj2 : j = 0 ∨ j = 1 ∨ j = 2 ∨ j = 3 ∨ j = 4 ∨ j = 5 := by omega
    rcases hj2 with rfl | rfl | rfl | rfl | rfl | rfl <;> simpa [Six.at] using hF.symm
  · have hi2 : i < l.length := by rw [List.length_map] at hi; exact hi
    simp only [List.getElem_map, dif_pos hi2]
    exact (hq i hi2).2

theorem proto_open : ∀ (fuel : Nat) (cs : List Value) (x : DataW H × List MemPlace), DataW.trod enc Tryd.prog W 0 sp held fuel 27 cs = some x → (∀ m ∈ x.1.weights Tryd.prog 27, m ≤ reachBytes) → ∃ y : Pr × Six, cs = [.int .i64 y.2.pa, .int .i64 y.2.rg, y.2.u, y.2.c, y.2.k, y.2.p] ∧ PR W y.1 y.2 := by
  intro fuel
  induction fuel using Nat.strongRecOn with
  | _ fuel ih =>
  intro cs x h hw
  obtain ⟨xs, n, hn, hd, hlen, hxl, hf⟩ := DataW.trod_struct Tryd.underlying27 h
  rw [cellsPr] at hlen
  obtain ⟨c0, c1, c2, c3, c4, c5, rfl⟩ := list6 hlen
  have h0 : DataW.trod enc Tryd.prog W 0 sp held n 3 (([c0, c1, c2, c3, c4, c5].drop 0).take (Tryd.prog.cellsOf 3)) = xs[0]? := hf 0 _ rfl
  have h1 : DataW.trod enc Tryd.prog W 0 sp held n 3 (([c0, c1, c2, c3, c4, c5].drop 1).take (Tryd.prog.cellsOf 3)) = xs[1]? := hf 1 _ rfl
  have h2 : DataW.trod enc Tryd.prog W 0 sp held n 22 (([c0, c1, c2, c3, c4, c5].drop 2).take (Tryd.prog.cellsOf 22)) = xs[2]? := hf 2 _ rfl
  have h3 : DataW.trod enc Tryd.prog W 0 sp held n 23 (([c0, c1, c2, c3, c4, c5].drop 3).take (Tryd.prog.cellsOf 23)) = xs[3]? := hf 3 _ rfl
  have h4 : DataW.trod enc Tryd.prog W 0 sp held n 24 (([c0, c1, c2, c3, c4, c5].drop 4).take (Tryd.prog.cellsOf 24)) = xs[4]? := hf 4 _ rfl
  have h5 : DataW.trod enc Tryd.prog W 0 sp held n 25 (([c0, c1, c2, c3, c4, c5].drop 5).take (Tryd.prog.cellsOf 25)) = xs[5]? := hf 5 _ rfl
  obtain ⟨y0, e0⟩ := some_atP hxl (i := 0) (by decide)
  obtain ⟨y1, e1⟩ := some_atP hxl (i := 1) (by decide)
  obtain ⟨y2, e2⟩ := some_atP hxl (i := 2) (by decide)
  obtain ⟨y3, e3⟩ := some_atP hxl (i := 3) (by decide)
  obtain ⟨y4, e4⟩ := some_atP hxl (i := 4) (by decide)
  obtain ⟨y5, e5⟩ := some_atP hxl (i := 5) (by decide)
  rw [e0] at h0
  rw [e1] at h1
  rw [e2] at h2
  rw [e3] at h3
  rw [e4] at h4
  rw [e5] at h5
  simp only [cellsInt1, cellsRU, cellsRI, cellsRV, cellsRP, List.drop_zero, List.drop_succ_cons, List.take_succ_cons, List.take_zero] at h0 h1 h2 h3 h4 h5
  have hw' : ∀ (j : Nat) (tt : TypeId) (d : DataW H), [3, 3, 22, 23, 24, 25][j]? = some tt → (xs.map (·.1))[j]? = some d → ∀ m ∈ d.weights Tryd.prog tt, m ≤ reachBytes := by
    intro j tt d h1 h2 m hm
    refine hw m ?_
    rw [hd]
    simp only [DataW.weights, Tryd.underlying27]
    exact DataW.weights_mem_each (ts := [3, 3, 22, 23, 24, 25]) h1 h2 m hm
  obtain ⟨k0, hk0, _, w0⟩ := DataW.trod_int Tryd.underlying3 h0
  obtain ⟨k1, hk1, _, w1⟩ := DataW.trod_int Tryd.underlying3 h1
  injection hk0 with hk0 _
  injection hk1 with hk1 _
  subst hk0 hk1
  obtain ⟨n2, C2, s2, g2⟩ := row_open (by decide) _ Tryd.underlying22 cellsUp bytesUp (by decide) h2 (hw' 2 _ _ rfl (by rw [List.getElem?_map, e2]; rfl)) (fun q cs x _ h _ => up_open q cs x h)
  obtain ⟨n3, C3, s3, g3⟩ := row_open (by decide) _ Tryd.underlying23 cellsIns bytesIns (by decide) h3 (hw' 3 _ _ rfl (by rw [List.getElem?_map, e3]; rfl)) (fun q cs x _ h _ => ins_open q cs x h)
  obtain ⟨n4, C4, s4, g4⟩ := row_open (by decide) _ Tryd.underlying24 cellsVl bytesVl (by decide) h4 (hw' 4 _ _ rfl (by rw [List.getElem?_map, e4]; rfl)) (fun q cs x _ h hh => vl_open q cs x h hh)
  obtain ⟨n5, C5, s5, g5⟩ := row_open (by decide) _ Tryd.underlying25 cellsPr bytesPr (by decide) h5 (hw' 5 _ _ rfl (by rw [List.getElem?_map, e5]; rfl)) (fun q cs x hq h hh => ih q (by omega) cs x h hh)
  obtain ⟨us, hu⟩ := su_of s2 g2
  obtain ⟨is, hi⟩ := si_of s3 g3
  obtain ⟨ks, hk⟩ := sv_of s4 g4
  obtain ⟨ps, f, hp, hf'⟩ := sp_of s5 g5
  refine ⟨(.mk k0 k1 us is ks ps, ⟨k0, k1, c2, c3, c4, c5⟩), rfl, ?_⟩
  rw [PR_mk]
  exact ⟨rfl, rfl, i64_of w0, i64_of w1, hu, hi, hk, f, hp, hf'⟩
end

/-- A function that came in. -/
theorem open_proto {H : Type} {enc : TypeId × Value → H} {W : World} {base : Nat} {v : Value} {d : DataW H} {p : List MemPlace}
    (hval : Value.okWide Tryd.prog W .any base 27 v) (h0 : DataW.Trod enc Tryd.prog W 0 (fun _ => true) true 27 v d p) {ts : List TypeId} {ds : List (DataW H)} (hz : (DataW.weightsEach Tryd.prog ts ds).all (· ≤ reachBytes) = true) {j : Nat} (ht : ts[j]? = some 27) (hd : ds[j]? = some d) : ∃ (t : Pr) (x : Six), v = x.v ∧ PR W t x := by
  obtain ⟨fuel, hf⟩ := h0
  obtain ⟨⟨t, x⟩, e, hc⟩ := proto_open fuel _ _ hf (fun m hm => by
    have := List.all_eq_true.1 hz m (DataW.weights_mem_each ht hd m hm)
    simpa using this)
  simp only [Value.okWide, Tryd.underlying27] at hval
  obtain ⟨cs, rfl, _⟩ := hval
  refine ⟨t, x, ?_, hc⟩
  have : cs = #[.int .i64 x.pa, .int .i64 x.rg, x.u, x.c, x.k, x.p] := by
    simp [Value.cells] at e
    apply Array.ext'
    exact e
  rw [this]
  rfl

end Go.Proofs.YtcblknghkgihcaaDoor
namespace Go.Proofs.YtcblknghkgihcaaDoor
set_option maxRecDepth 100000
open Go.RowKit Crc

def foldE : (ts : List Tr) → (∀ t, t ∈ ts → List Nat → Nat ⊕ List Nat) → List Nat → Nat ⊕ List Nat
  | [], _, l => .inr l
  | t :: ts, f, l => match f t List.mem_cons_self l with
    | .inl x => .inl x
    | .inr m => foldE ts (fun t h => f t (List.mem_cons_of_mem _ h)) m
/-- The bytes of a tree behind others, or why there are none (1 ErrArg, 2 ErrLong); D: how many lists it may still lie in. -/
def encT : Tr → Nat → List Nat → Nat ⊕ List Nat
  | .mk k n s ts, D, l =>
    if k = 0 then (if l.length + 9 ≤ 1048576 then .inr (l ++ ([0] ++ be n 8)) else .inl 2)
    else if k = 1 then (if l.length + 5 + s.size ≤ 1048576 then .inr (l ++ ([1] ++ be s.size 4 ++ tx s)) else .inl 2)
    else if k = 2 then (match D with
      | 0 => .inl 2
      | D + 1 => if l.length + 5 ≤ 1048576 then foldE ts (fun t _ l => encT t D l) (l ++ ([2] ++ be ts.length 4)) else .inl 2)
    else .inl 1
def encL (ts : List Tr) (D : Nat) (l : List Nat) : Nat ⊕ List Nat := foldE ts (fun t _ l => encT t D l) l
theorem encT_mk (k : Int) (n : Nat) (s : ByteArray) (ts : List Tr) (D : Nat) (l : List Nat) : encT (.mk k n s ts) D l =
    if k = 0 then (if l.length + 9 ≤ 1048576 then .inr (l ++ ([0] ++ be n 8)) else .inl 2)
    else if k = 1 then (if l.length + 5 + s.size ≤ 1048576 then .inr (l ++ ([1] ++ be s.size 4 ++ tx s)) else .inl 2)
    else if k = 2 then (match D with
      | 0 => .inl 2
      | D + 1 => if l.length + 5 ≤ 1048576 then encL ts D (l ++ ([2] ++ be ts.length 4)) else .inl 2)
    else .inl 1 := by
  rw [encT.eq_def]
  cases D <;> rfl
theorem encL_nil (D : Nat) (l : List Nat) : encL [] D l = .inr l := rfl
theorem encL_cons (t : Tr) (ts : List Tr) (D : Nat) (l : List Nat) : encL (t :: ts) D l = match encT t D l with
    | .inl x => .inl x
    | .inr m => encL ts D m := rfl

theorem encL_append : ∀ (ts us : List Tr) (D : Nat) (l : List Nat), encL (ts ++ us) D l = match encL ts D l with | .inl x => .inl x | .inr m => encL us D m
  | [], us, D, l => by simp [encL_nil]
  | t :: ts, us, D, l => by
    simp only [List.cons_append, encL_cons]
    cases encT t D l with
    | inl x => rfl
    | inr m => exact encL_append ts us D m

theorem encL_take (ts : List Tr) (i : Nat) (h : i < ts.length) (D : Nat) (l m : List Nat) (hm : encL (ts.take i) D l = .inr m) : encL (ts.take (i + 1)) D l = encT ts[i] D m := by
  rw [List.take_succ_eq_append_getElem h, encL_append, hm]
  simp only [encL_cons, encL_nil]
  cases encT ts[i] D m <;> rfl

theorem encL_stop (ts : List Tr) (i : Nat) (D : Nat) (l : List Nat) (x : Nat) (hm : encL (ts.take i) D l = .inl x) : encL ts D l = .inl x := by
  conv => lhs; rw [← List.take_append_drop i ts]
  rw [encL_append, hm]

end Go.Proofs.YtcblknghkgihcaaDoor
namespace Go.Proofs.YtcblknghkgihcaaDoor
set_option maxRecDepth 100000
open Go.RowKit Crc

/-- Bytes as a string. -/
def bsN (l : List Nat) : ByteArray := strOfNums (l.map Int.ofNat)
theorem bsN_size (l : List Nat) : (bsN l).size = l.length := by unfold bsN; rw [strOfNums_size, List.length_map]
theorem tx_bsN {l : List Nat} (hl : Sm8 l) : tx (bsN l) = l := by
  unfold tx bsN
  rw [strOfNums_data, List.map_map, List.map_map]
  conv => rhs; rw [← List.map_id l]
  apply List.map_congr_left
  intro d hd
  have := hl d hd
  simp [Function.comp]
  omega
theorem tx_inj {s t : ByteArray} (h : tx s = tx t) : s = t := by
  unfold tx at h
  have e : s.data.toList = t.data.toList := by
    have := congrArg (List.map UInt8.ofNat) h
    rw [List.map_map, List.map_map] at this
    have f : (UInt8.ofNat ∘ UInt8.toNat) = id := by funext b; simp
    rw [f, List.map_id, List.map_id] at this
    exact this
  exact Go.WideShapes.bytes_inj e
theorem bsN_tx (s : ByteArray) : bsN (tx s) = s := tx_inj (tx_bsN (tx_sm s))
theorem bsN_inj {l m : List Nat} (hl : Sm8 l) (hm : Sm8 m) (h : bsN l = bsN m) : l = m := by rw [← tx_bsN hl, h, tx_bsN hm]
theorem bsN_eq {l m : List Nat} (hl : Sm8 l) (hm : Sm8 m) : ((bsN l).toList == (bsN m).toList) = decide (l = m) := by
  by_cases c : l = m
  · subst c; simp
  · rw [decide_eq_false c, beq_eq_false_iff_ne]
    intro e
    rw [ByteArray.toList_eq, ByteArray.toList_eq] at e
    exact c (bsN_inj hl hm (Go.WideShapes.bytes_inj e))
theorem conv_any {w : World} {v : Value} {l : List Nat} (h : BR w v l) : (convert 79 9 v).run Tryd.prog w = .ok (.string (bsN l)) w := by
  obtain ⟨s1, a, cap, rfl, h3, h4, h5⟩ := id h
  by_cases c : l.length = 0
  · have e : l = [] := List.eq_nil_of_length_eq_zero c
    subst e
    rcases h5 with ⟨rfl, rfl⟩ | ⟨x, rfl, _⟩
    · exact run_convert_bytes_nil w _ _ Tryd.underlying79 Tryd.underlying5 _ _ _ Tryd.underlying9
    · have := run_loadCells_list (P := Tryd.prog) w x [] (fun j u hj => by simp at hj)
      rw [run_convert_bytes_string w _ _ _ _ _ _ Tryd.underlying79 Tryd.underlying5 Tryd.underlying9, run_bytesToString w x _ cap [] (by simpa using this)]
      rfl
  · obtain ⟨b, o, rfl, _, hc⟩ := h.lies (by omega)
    refine run_convert_bytes_arg w _ _ Tryd.underlying79 Tryd.underlying5 b o l.length cap (l.map Int.ofNat) (by rw [List.length_map]) ?_ _ Tryd.underlying9
    intro i hi
    rw [hc i hi]
    congr 2
    rw [List.getD_eq_getElem?_getD, List.getD_eq_getElem?_getD, List.getElem?_map, List.getElem?_eq_getElem hi]
    rfl

/-- One cell read, or why none: 2 ErrLong, 3 ErrShort, 4 ErrForm; and what is left. -/
def decL (f : List Nat → Nat ⊕ (Tr × List Nat)) : Nat → List Nat → Nat ⊕ (List Tr × List Nat)
  | 0, l => .inr ([], l)
  | n + 1, l => match f l with
    | .inl x => .inl x
    | .inr (t, l2) => match decL f n l2 with
      | .inl x => .inl x
      | .inr (ts, l3) => .inr (t :: ts, l3)

def decT : Nat → List Nat → Nat ⊕ (Tr × List Nat)
  | _, [] => .inl 3
  | D, k :: l =>
    if k = 0 then (if l.length < 8 then .inl 3 else .inr (.mk 0 (nb (l.take 8)) ⟨#[]⟩ [], l.drop 8))
    else if k = 1 then (if l.length < 4 then .inl 3 else if l.length - 4 < nb (l.take 4) then .inl 3 else .inr (.mk 1 0 (bsN ((l.drop 4).take (nb (l.take 4)))) [], (l.drop 4).drop (nb (l.take 4))))
    else if k = 2 then (match D with
      | 0 => .inl 2
      | D + 1 => if l.length < 4 then .inl 3 else if l.length - 4 < nb (l.take 4) then .inl 3 else match decL (decT D) (nb (l.take 4)) (l.drop 4) with
        | .inl x => .inl x
        | .inr (ts, l2) => .inr (.mk 2 0 ⟨#[]⟩ ts, l2))
    else .inl 4

theorem decL_succ (f : List Nat → Nat ⊕ (Tr × List Nat)) (n : Nat) (l : List Nat) : decL f (n + 1) l = match f l with
    | .inl x => .inl x
    | .inr (t, l2) => match decL f n l2 with
      | .inl x => .inl x
      | .inr (ts, l3) => .inr (t :: ts, l3) := rfl

theorem decL_snoc (f : List Nat → Nat ⊕ (Tr × List Nat)) : ∀ (n : Nat) (l : List Nat), decL f (n + 1) l = match decL f n l with
    | .inl x => .inl x
    | .inr (ts, l2) => match f l2 with
      | .inl x => .inl x
      | .inr (t, l3) => .inr (ts ++ [t], l3)
  | 0, l => by
    simp only [decL]
    cases f l with
    | inl x => rfl
    | inr p => rfl
  | n + 1, l => by
    rw [decL_succ f (n + 1) l, decL_succ f n l]
    cases h : f l with
    | inl x => rfl
    | inr p =>
      obtain ⟨t, l2⟩ := p
      simp only
      rw [decL_snoc f n l2]
      cases decL f n l2 with
      | inl x => rfl
      | inr q =>
        obtain ⟨ts, l3⟩ := q
        simp only
        cases f l3 with
        | inl x => rfl
        | inr q => rfl

theorem decL_stop (f : List Nat → Nat ⊕ (Tr × List Nat)) (l : List Nat) (x i : Nat) (h : decL f i l = .inl x) : ∀ n, i ≤ n → decL f n l = .inl x := by
  intro n hn
  obtain ⟨d, rfl⟩ : ∃ d, n = i + d := ⟨n - i, by omega⟩
  clear hn
  induction d with
  | zero => exact h
  | succ d ih => rw [← Nat.add_assoc, decL_snoc, ih]

theorem decL_length (f : List Nat → Nat ⊕ (Tr × List Nat)) : ∀ (n : Nat) (l : List Nat) (ts : List Tr) (l2 : List Nat), decL f n l = .inr (ts, l2) → ts.length = n
  | 0, l, ts, l2, h => by simp [decL] at h; rw [h.1]; rfl
  | n + 1, l, ts, l2, h => by
    simp only [decL] at h
    cases h1 : f l with
    | inl x => rw [h1] at h; simp at h
    | inr p =>
      obtain ⟨t, l3⟩ := p
      rw [h1] at h
      simp only at h
      cases h2 : decL f n l3 with
      | inl x => rw [h2] at h; simp at h
      | inr q =>
        obtain ⟨us, l4⟩ := q
        rw [h2] at h
        simp only [Sum.inr.injEq, Prod.mk.injEq] at h
        rw [← h.1, List.length_cons, decL_length f n l3 us l4 h2]

end Go.Proofs.YtcblknghkgihcaaDoor
namespace Go.Proofs.YtcblknghkgihcaaDoor
set_option maxRecDepth 100000
open Go.RowKit Crc

/-- Nothing was turned but the reader's block. -/
structure KR (b : Nat) (w w' : World) : Prop where
  os : w'.os = w.os
  tape : w'.tape = w.tape
  output : w'.output = w.output
  size : w.heap.size ≤ w'.heap.size
  block : ∀ k, k < w.heap.size → k ≠ b → w'.heap[k]? = w.heap[k]?

theorem KR.refl (b : Nat) (w : World) : KR b w w := ⟨rfl, rfl, rfl, Nat.le_refl _, fun _ _ _ => rfl⟩
theorem KR.trans {b : Nat} {w w' w'' : World} (h : KR b w w') (k : KR b w' w'') : KR b w w'' :=
  ⟨k.os.trans h.os, k.tape.trans h.tape, k.output.trans h.output, Nat.le_trans h.size k.size, fun i hi hb => (k.block i (Nat.lt_of_lt_of_le hi h.size) hb).trans (h.block i hi hb)⟩
theorem KR.of {b : Nat} {w w' : World} (h : Below w.heap.size w w') : KR b w w' := ⟨h.os, h.tape, h.output, h.size, fun k hk _ => h.block k hk⟩
theorem KR.set (b j : Nat) (u : Value) (w : World) : KR b w (w.setCell ⟨b, j, none⟩ u) :=
  ⟨rfl, rfl, rfl, by rw [World.size_setCell]; exact Nat.le_refl _, fun k _ hb => heap_setCell_other _ _ _ _ hb⟩
theorem KR.alloc (b : Nat) (o : Obj) (w : World) : KR b w (w.alloc o) := KR.of ((Below.refl _ w).alloc (Nat.le_refl _) o)
/-- A store into a block that was made since. -/
theorem KR.setNew {b B j : Nat} {w w' : World} (h : KR b w w') (hB : w.heap.size ≤ B) (u : Value) : KR b w (w'.setCell ⟨B, j, none⟩ u) :=
  ⟨h.os, h.tape, h.output, by rw [World.size_setCell]; exact h.size, fun k hk hb => by rw [heap_setCell_other _ _ _ _ (by simp; omega)]; exact h.block k hk hb⟩

theorem RD.below {w w' : World} {b H : Nat} {v : Value} {l : List Nat} (h : RD w b H v l) (hg : Below w.heap.size w w') : RD w' b H v l := by
  have hlt := h.lt
  have hs := hg.size
  exact ⟨(hg.cell (p := ⟨b, 0, none⟩) hlt).trans h.c, fun i => (hg.frozen (p := ⟨b, i, none⟩) hlt).trans (h.fz i), h.br.below hg (Nat.le_refl _), h.ne, h.hi, by omega⟩
theorem RD.alloc {w : World} {b H : Nat} {v : Value} {l : List Nat} (h : RD w b H v l) (o : Obj) : RD (w.alloc o) b H v l := h.below ((Below.refl _ w).alloc (Nat.le_refl _) o)
/-- A store into a block that is neither the reader's nor holds its bytes. -/
theorem RD.setNew {w : World} {b H B j : Nat} {v : Value} {l : List Nat} (h : RD w b H v l) (hb : B ≠ b) (hv : H ≤ B) (u : Value) : RD (w.setCell ⟨B, j, none⟩ u) b H v l := by
  have e := heap_setCell_other w ⟨B, j, none⟩ b u (fun e => hb e.symm)
  refine ⟨(World.cell?_of_block (w := w) (a := ⟨b, 0, none⟩) e).trans h.c, fun i => (World.frozen?_of_block (w := w) (a := ⟨b, i, none⟩) e).trans (h.fz i), ?_, h.ne, h.hi, by rw [World.size_setCell]; exact h.lt⟩
  obtain ⟨h1, a, cap, h2, h3, h4, h5⟩ := h.br
  refine ⟨h1, a, cap, h2, h3, h4, ?_⟩
  rcases h5 with c | ⟨x, e2, hc⟩
  · exact Or.inl c
  · refine Or.inr ⟨x, e2, fun i hi => ?_⟩
    have := h.hi x _ _ (by rw [h2, e2])
    rw [← hc i hi]
    exact World.cell?_of_block (w := w) (a := x.add i) (heap_setCell_other w ⟨B, j, none⟩ (x.add i).block u (by rw [add_block]; simp; omega))

/-- What the reader does with a cell. -/
def Readd (r : Nat ⊕ (Tr × List Nat)) (b H : Nat) (w : World) (e : Ending) (w' : World) : Prop :=
  match r with
  | .inl x => e = gaveUp x ∧ KR b w w'
  | .inr p => ∃ cv v2, e = .returned cv ∧ CS w' (fun k => w.heap.size ≤ k) p.1 cv ∧ RD w' b H v2 p.2 ∧ KR b w w' ∧ p.2.length ≤ 1048576

end Go.Proofs.YtcblknghkgihcaaDoor
namespace Go.Proofs.YtcblknghkgihcaaDoor
set_option maxRecDepth 100000
open Go.RowKit Crc

/-- What the writer does with a cell. -/
def Wrote (r : Nat ⊕ List Nat) (b B : Nat) (v : Value) (w : World) (e : Ending) (w' : World) : Prop :=
  match r with
  | .inl x => e = gaveUp x ∧ Below B w w'
  | .inr m => e = .returned (.tuple #[]) ∧ ∃ v', WR w' b B v' m ∧ Kept b v v' w w' ∧ m.length ≤ 1048576

theorem WR.own_lt {w : World} {b B : Nat} {v : Value} {l : List Nat} (h : WR w b B v l) : v.ownBlock ≠ some w.heap.size := fun e => by have := (h.ow.2.lt _ e).2; omega

theorem WR.base {w : World} {b B : Nat} {v : Value} {l : List Nat} (h : WR w b B v l) : B ≤ w.heap.size := by have := h.lo; have := h.lt; omega

theorem WR.drew {w : World} {b B : Nat} {v : Value} {l : List Nat} (h : WR w b B v l) : WR w.drew b B v l := ⟨h.c, h.fz, h.ow, h.lo, h.lt, h.ne⟩
theorem Kept.undrew {b : Nat} {v v' : Value} {w w' : World} (h : Kept b v v' w.drew w') : Kept b v v' w w' := ⟨h.os, h.tape, h.output, h.size, h.block, h.own⟩
theorem ownsRow_slice {w : World} {B e s n : Nat} {v : Value} {xs : List Value} (h : w.ownsRow B e s v n xs) : ∃ a cap, v = .slice a n cap := by
  rcases h.2 with ⟨e, e2⟩ | ⟨g, cap, cur, e, _⟩
  · exact ⟨none, 0, by rw [e2]; exact e⟩
  · exact ⟨_, cap, e⟩

end Go.Proofs.YtcblknghkgihcaaDoor
namespace Go.Proofs.YtcblknghkgihcaaDoor
set_option maxRecDepth 100000
open Go.RowKit Crc

/-- What the reader does with so many cells. -/
def ReadL (r : Nat ⊕ (List Tr × List Nat)) (b H : Nat) (w : World) (e : Ending) (w' : World) : Prop :=
  match r with
  | .inl x => e = gaveUp x ∧ KR b w w'
  | .inr p => ∃ lv v2, e = .returned lv ∧ TW w' w.heap.size lv p.1 ∧ RD w' b H v2 p.2 ∧ KR b w w' ∧ p.2.length ≤ 1048576

theorem TW_nil (w : World) (B : Nat) : TW w B (.slice none 0 0) [] :=
  ⟨[], fun _ => 0, fun _ => 0, fun _ => ⟨#[]⟩, fun _ => .slice none 0 0, World.ownsRow_nil _ _ _ _, ⟨fun _ h => absurd h (Nat.not_lt_zero _), fun _ h => absurd h (Nat.not_lt_zero _), fun _ h => absurd h (Nat.not_lt_zero _), fun _ h => absurd h (Nat.not_lt_zero _)⟩, fun _ h => absurd h (Nat.not_lt_zero _)⟩

theorem KR.row {b B : Nat} {w w1 w2 : World} {v : Value} {o : Obj} (h : KR b w w1) (hB : w.heap.size ≤ B) (hg : (w1.alloc o).grownBy w2 v.ownBlock) (ho : ∀ k, v.ownBlock = some k → B ≤ k) : KR b w w2 := by
  have h1 := h.size
  have h2 := hg.size
  have h3 : (w1.alloc o).heap.size = w1.heap.size + 1 := by simp
  refine ⟨hg.os.trans h.os, hg.tape.trans h.tape, hg.output.trans h.output, by omega, fun k hk hb => ?_⟩
  rw [hg.block k (by omega) (fun e => by have := ho k e.symm; omega), Below.heap_alloc _ _ _ (by omega)]
  exact h.block k hk hb

theorem RD.grown {b H : Nat} {w1 w2 : World} {v u : Value} {l : List Nat} {o : Obj} (h : RD w1 b H u l) (hg : (w1.alloc o).grownBy w2 v.ownBlock) (ho : ∀ k, v.ownBlock = some k → H ≤ k ∧ k ≠ b) : RD w2 b H u l := by
  have h2 := hg.size
  have h3 : (w1.alloc o).heap.size = w1.heap.size + 1 := by simp
  have hlt := h.lt
  have hk : ∀ k, k < w1.heap.size → v.ownBlock ≠ some k → w2.heap[k]? = w1.heap[k]? := fun k h4 h5 => by
    rw [hg.block k (by omega) (fun e => h5 e.symm)]; exact Below.heap_alloc _ _ _ h4
  have e := hk b hlt (fun e => (ho b e).2 rfl)
  refine ⟨(World.cell?_of_block (w := w1) (a := ⟨b, 0, none⟩) e).trans h.c, fun i => (World.frozen?_of_block (w := w1) (a := ⟨b, i, none⟩) e).trans (h.fz i), ?_, h.ne, h.hi, by omega⟩
  obtain ⟨h1, a, cap, h2, h3, h4, h5⟩ := h.br
  refine ⟨h1, a, cap, h2, h3, h4, ?_⟩
  rcases h5 with c | ⟨x, e2, hc⟩
  · exact Or.inl c
  · refine Or.inr ⟨x, e2, fun i hi => ?_⟩
    have hx := h.hi x _ _ (by rw [h2, e2])
    have hlt2 : x.block < w1.heap.size := by
      have := hc i hi
      rcases Nat.lt_or_ge x.block w1.heap.size with q | q
      · exact q
      · exfalso
        unfold World.cell? at this
        rw [add_block, Array.getElem?_eq_none q] at this
        simp at this
    rw [← hc i hi]
    exact World.cell?_of_block (w := w1) (a := x.add i) (by rw [add_block]; exact hk x.block hlt2 (fun e => by have := (ho _ e).1; omega))

end Go.Proofs.YtcblknghkgihcaaDoor
namespace Go.Proofs.YtcblknghkgihcaaDoor
set_option maxRecDepth 100000
open Go.RowKit Crc

/-- The block of a result that is an api.Cell, as it is made. -/
def Rc (w : World) (q : Nat) : Prop := w.heap[q]? = some (.cells #[.int .i64 0, .int .u64 0, .string ⟨#[]⟩, .slice none 0 0] 33 (0, 0))

theorem Rc.cell {w : World} {q : Nat} (h : Rc w q) (j : Nat) : w.cell? ⟨q, j, none⟩ = (#[.int .i64 0, .int .u64 0, .string ⟨#[]⟩, .slice none 0 0] : Array Value)[j]? := cell_of_row w q j _ _ _ h
theorem Rc.free {w : World} {q : Nat} (h : Rc w q) (j : Nat) : w.frozen? ⟨q, j, none⟩ = false := by
  unfold Rc at h
  unfold World.frozen?
  simp [h]
theorem Rc.kr {b q : Nat} {w w' : World} (h : Rc w q) (k : KR b w w') (hq : q < w.heap.size) (hb : q ≠ b) : Rc w' q := (k.block q hq hb).trans h
theorem Rc.set {w W : World} {q : Nat} (h : Rc w q) (k : Int) (n : Nat) (s : ByteArray) (u : Value) (hW : W = (((w.setCell ⟨q, 0, none⟩ (.int .i64 k)).setCell ⟨q, 1, none⟩ (.int .u64 n)).setCell ⟨q, 2, none⟩ (.string s)).setCell ⟨q, 3, none⟩ u) :
    W.heap[q]? = some (.cells #[.int .i64 k, .int .u64 n, .string s, u] 33 (0, 0)) ∧ ∀ j, j ≠ q → W.heap[j]? = w.heap[j]? := by
  subst hW
  refine ⟨?_, fun j hj => ?_⟩
  · have z1 := heap_setCell_same _ _ 0 _ _ (.int .i64 k) h
    have z2 := heap_setCell_same _ _ 1 _ _ (.int .u64 n) z1
    have z3 := heap_setCell_same _ _ 2 _ _ (.string s) z2
    have z4 := heap_setCell_same _ _ 3 _ _ u z3
    exact z4
  · rw [heap_setCell_other _ _ _ _ hj, heap_setCell_other _ _ _ _ hj, heap_setCell_other _ _ _ _ hj, heap_setCell_other _ _ _ _ hj]

theorem CS_flat (w : World) (S : Nat → Prop) (k : Int) (n : Nat) (s : ByteArray) (hk : -9223372036854775808 ≤ k ∧ k ≤ 9223372036854775807) (hn : n < 18446744073709551616) (hs : s.size ≤ 9223372036854775807) : CS w S (.mk k n s []) (cellV k n s (.slice none 0 0)) :=
  CS.mk k n s [] none 0 (fun _ => 0) (fun _ => 0) (fun _ => ⟨#[]⟩) (fun _ => .slice none 0 0) hk hn hs (Nat.le_refl _) (by decide) (fun _ => rfl) (fun x e => by cases e) (fun x i e => by cases e) (fun i h => absurd h (Nat.not_lt_zero _))

/-- The result laid, all else as it was. -/
theorem laid_end {b H q : Nat} {w w6 W : World} {t : Tr} {k : Int} {n : Nat} {s : ByteArray} {u v2 : Value} {l2 : List Nat} (hrc : Rc w6 q) (hW : W = (((w6.setCell ⟨q, 0, none⟩ (.int .i64 k)).setCell ⟨q, 1, none⟩ (.int .u64 n)).setCell ⟨q, 2, none⟩ (.string s)).setCell ⟨q, 3, none⟩ u)
    (hq : q = w.heap.size) (hb : q ≠ b) (hH : H ≤ q) (hkr : KR b w w6) (hrd : RD w6 b H v2 l2) (hl : l2.length ≤ 1048576) (hcs : CS w6 (fun k => w.heap.size ≤ k ∧ k ≠ q) t (cellV k n s u)) :
    W.heap[q]? = some (.cells #[.int .i64 k, .int .u64 n, .string s, u] 33 (0, 0)) ∧ Readd (.inr (t, l2)) b H w (.returned (.agg #[.int .i64 k, .int .u64 n, .string s, u])) W := by
  obtain ⟨h1, h2⟩ := hrc.set k n s u hW
  refine ⟨h1, _, v2, rfl, (hcs.kept (w' := W) (fun k hk => h2 k hk.2)).widen (fun k hk => hk.1), ?_, ?_, hl⟩
  · subst hW
    exact (((hrd.setNew hb hH _).setNew hb hH _).setNew hb hH _).setNew hb hH _
  · subst hW
    exact (((hkr.setNew (by omega) _).setNew (by omega) _).setNew (by omega) _).setNew (by omega) _

end Go.Proofs.YtcblknghkgihcaaDoor
namespace Go.Proofs.YtcblknghkgihcaaDoor
set_option maxRecDepth 100000
open Go.RowKit Crc

/-- A tree in its plain form, as copied gives it. -/
def cpT : Tr → Tr
  | .mk k n s ts => if k = 0 then .mk 0 n ⟨#[]⟩ [] else if k = 1 then .mk 1 0 s [] else if k = 2 then .mk 2 0 ⟨#[]⟩ (ts.map cpT) else .mk k 0 ⟨#[]⟩ []
def cpL (ts : List Tr) : List Tr := ts.map cpT
theorem cpT_mk (k : Int) (n : Nat) (s : ByteArray) (ts : List Tr) : cpT (.mk k n s ts) = if k = 0 then .mk 0 n ⟨#[]⟩ [] else if k = 1 then .mk 1 0 s [] else if k = 2 then .mk 2 0 ⟨#[]⟩ (cpL ts) else .mk k 0 ⟨#[]⟩ [] := by rw [cpT]; rfl
theorem cpL_nil : cpL [] = [] := rfl
theorem cpL_cons (t : Tr) (ts : List Tr) : cpL (t :: ts) = cpT t :: cpL ts := rfl

theorem cpL_map (ts : List Tr) : cpL ts = ts.map cpT := rfl

def flat (ks : Nat → Int) (ns : Nat → Nat) (ss : Nat → ByteArray) (us : Nat → Value) : Nat → List Value
  | 0 => []
  | N + 1 => flat ks ns ss us N ++ quad (ks N) (ns N) (ss N) (us N)

theorem flat_length (ks : Nat → Int) (ns : Nat → Nat) (ss : Nat → ByteArray) (us : Nat → Value) : ∀ N, (flat ks ns ss us N).length = N * 4
  | 0 => rfl
  | N + 1 => by simp only [flat, List.length_append, flat_length ks ns ss us N, quad, List.length_cons, List.length_nil]; omega

theorem Quads.ext {xs : List Value} {N : Nat} {ks ks' : Nat → Int} {ns ns' : Nat → Nat} {ss ss' : Nat → ByteArray} {us us' : Nat → Value} (h : Quads xs N ks ns ss us) (e : ∀ i, i < N → ks' i = ks i ∧ ns' i = ns i ∧ ss' i = ss i ∧ us' i = us i) : Quads xs N ks' ns' ss' us' :=
  ⟨fun i hi => by rw [(e i hi).1]; exact h.q0 i hi, fun i hi => by rw [(e i hi).2.1]; exact h.q1 i hi, fun i hi => by rw [(e i hi).2.2.1]; exact h.q2 i hi, fun i hi => by rw [(e i hi).2.2.2]; exact h.q3 i hi⟩

theorem flat_quads (ks : Nat → Int) (ns : Nat → Nat) (ss : Nat → ByteArray) (us : Nat → Value) : ∀ N, Quads (flat ks ns ss us N) N ks ns ss us
  | 0 => ⟨fun i h => by omega, fun i h => by omega, fun i h => by omega, fun i h => by omega⟩
  | N + 1 => by
    refine Quads.ext ((flat_quads ks ns ss us N).snoc (flat_length ks ns ss us N) (ks N) (ns N) (ss N) (us N)) (fun i hi => ?_)
    by_cases c : i = N
    · subst c; simp
    · simp [c]

theorem flat_one (ks : Nat → Int) (ns : Nat → Nat) (ss : Nat → ByteArray) (us : Nat → Value) : ∀ N, (∀ i, i < N → (us i).oneCell' = true) → ∀ u ∈ flat ks ns ss us N, u.oneCell' = true
  | 0, _, u, hu => by simp [flat] at hu
  | N + 1, h, u, hu => by
    simp only [flat, List.mem_append] at hu
    rcases hu with hu | hu
    · exact flat_one ks ns ss us N (fun i hi => h i (by omega)) u hu
    · simp [quad] at hu
      rcases hu with rfl | rfl | rfl | rfl
      · rfl
      · rfl
      · rfl
      · exact h N (by omega)

/-- The cells of a slice that reads as cells, as one list. -/
theorem flat_cells {w : World} {g o N : Nat} {ks : Nat → Int} {ns : Nat → Nat} {ss : Nat → ByteArray} {us : Nat → Value} (h : ∀ i, i < N → Lies w g o i (ks i) (ns i) (ss i) (us i)) :
    ∀ j u, (flat ks ns ss us N)[j]? = some u → w.cell? (Addr.add ⟨g, o, none⟩ j) = some u := by
  intro j u hu
  have hj : j < N * 4 := by
    rcases Nat.lt_or_ge j (N * 4) with h1 | h1
    · exact h1
    · rw [List.getElem?_eq_none (by rw [flat_length]; exact h1)] at hu; cases hu
  have ha : Addr.add ⟨g, o, none⟩ j = ⟨g, o + j, none⟩ := by unfold Addr.add; split <;> simp_all
  rw [ha]
  have hq := flat_quads ks ns ss us N
  obtain ⟨i, r, rfl, hr⟩ : ∃ i r, j = i * 4 + r ∧ r < 4 := ⟨j / 4, j % 4, by omega, by omega⟩
  have hi : i < N := by omega
  match r, hr with
  | 0, _ => rw [Nat.add_zero, hq.q0 i hi] at hu; rw [← hu, Nat.add_zero]; exact (h i hi).c0
  | 1, _ => rw [hq.q1 i hi] at hu; rw [← hu, ← Nat.add_assoc]; exact (h i hi).c1
  | 2, _ => rw [hq.q2 i hi] at hu; rw [← hu, ← Nat.add_assoc]; exact (h i hi).c2
  | 3, _ => rw [hq.q3 i hi] at hu; rw [← hu, ← Nat.add_assoc]; exact (h i hi).c3

/-- One place of a row laid anew. -/
theorem Quads.put {xs : List Value} {N : Nat} {ks : Nat → Int} {ns : Nat → Nat} {ss : Nat → ByteArray} {us : Nat → Value} (h : Quads xs N ks ns ss us) (hl : xs.length = N * 4) (i : Nat) (hi : i < N) (k : Int) (n : Nat) (s : ByteArray) (u : Value) :
    Quads ((((xs.set (i * 4) (.int .i64 k)).set (i * 4 + 1) (.int .u64 n)).set (i * 4 + 2) (.string s)).set (i * 4 + 3) u) N (fun j => if j = i then k else ks j) (fun j => if j = i then n else ns j) (fun j => if j = i then s else ss j) (fun j => if j = i then u else us j) := by
  refine ⟨?_, ?_, ?_, ?_⟩
  all_goals
    intro j hj
    by_cases c : j = i
    · subst c
      simp only [List.getElem?_set, List.length_set, if_true]
      repeat (first | rw [if_neg (by omega)] | rw [if_pos (by omega)])
    · simp only [List.getElem?_set, c, if_false]
      repeat rw [if_neg (by omega)]
      first
        | exact h.q0 j hj
        | exact h.q1 j hj
        | exact h.q2 j hj
        | exact h.q3 j hj

theorem run_append_none {P : Program} (w : World) (t ty e : TypeId) (i : TypeInfo) (ht : P.underlying t = some (.slice e)) (hi : P.info? e = some i) (a : Option Addr) (cap : Nat) :
    (Builtin.append_ #[t, t] ty #[.slice none 0 0, .slice a 0 cap]).run P w = .ok (.slice none 0 0) w := by
  cases a <;> simp [Builtin.append_, run_underlying ht, sizeOf, typeInfo, hi, Builtin.lenOf, Builtin.firstCells, loadCells, loadCellsFrom]

theorem wpList_append_none {w : World} {ops : Array Oper} {rest : List Oper} {o : Oper} {a : Act} {Q : Exit → Act → World → Prop} (hgd : o.guard = none) (s x : Operand)
    (ho : o.op = .call { callee := .builtin .append, args := #[s, x], argTypes := #[31, 31] }) (hs : a.eval s = .slice none 0 0) (ad : Option Addr) (cap : Nat) (hx : a.eval x = .slice ad 0 cap)
    (h : wpList Tryd.prog ops Q rest (a.put o.dst (.slice none 0 0)) w) : wpList Tryd.prog ops Q (o :: rest) a w := by
  obtain ⟨i0, hi0, hz0, hz1, hz2⟩ := info_parts info25b
  refine wpList_plain hgd fun K hK => ?_
  have hrun := run_append_none (P := Tryd.prog) w 31 o.type 33 i0 Tryd.underlying31 hi0 ad cap
  unfold Oper.wp
  simp [execOp, ho, resolve, invoke, builtin, hs, hx, hrun, Result.andThen]
  exact hK _ _ h

/-- What copied and List tell. -/
def Copd (t : Tr) (w : World) (e : Ending) (w' : World) : Prop := ∃ v', e = .returned v' ∧ CS w' (fun k => w.heap.size ≤ k) t v' ∧ Below w.heap.size w w'

/-- A row of cells of one's own, the first i of them copied, the others as they were. -/
def RowI (w : World) (B : Nat) (v : Value) (ts : List Tr) (i : Nat) (ks : Nat → Int) (ns : Nat → Nat) (ss : Nat → ByteArray) (us : Nat → Value) : Prop :=
  ∃ (xs : List Value) (ks' : Nat → Int) (ns' : Nat → Nat) (ss' : Nat → ByteArray) (us' : Nat → Value), w.ownsRow B 33 4 v ts.length xs ∧ Quads xs ts.length ks' ns' ss' us' ∧
    (∀ j (h : j < ts.length), j < i → CS w (fun k => B ≤ k ∧ v.ownBlock ≠ some k ∧ k < w.heap.size) (cpT ts[j]) (cellV (ks' j) (ns' j) (ss' j) (us' j))) ∧
    (∀ j, i ≤ j → j < ts.length → ks' j = ks j ∧ ns' j = ns j ∧ ss' j = ss j ∧ us' j = us j)

theorem RowI.done {w : World} {B : Nat} {v : Value} {ts : List Tr} {ks : Nat → Int} {ns : Nat → Nat} {ss : Nat → ByteArray} {us : Nat → Value} (h : RowI w B v ts ts.length ks ns ss us) : TW w B v (ts.map cpT) := by
  obtain ⟨xs, ks', ns', ss', us', h1, h2, h3, _⟩ := h
  refine ⟨xs, ks', ns', ss', us', by rw [List.length_map]; exact h1, by rw [List.length_map]; exact h2, fun i hi => ?_⟩
  rw [List.length_map] at hi
  rw [List.getElem_map]
  exact (h3 i hi hi).widen (fun k hk => ⟨hk.1, hk.2.1, hk.2.2, trivial⟩)

/-- One more is copied and laid in its place. -/
theorem RowI.step {w w2 W : World} {B g cap : Nat} {ts : List Tr} {i : Nat} {ks : Nat → Int} {ns : Nat → Nat} {ss : Nat → ByteArray} {us : Nat → Value} {k : Int} {n : Nat} {s : ByteArray} {u : Value}
    (h : RowI w B (.slice (some ⟨g, 0, none⟩) ts.length cap) ts i ks ns ss us) (hi : i < ts.length) (hb : Below w.heap.size w w2) (hc : CS w2 (fun k => w.heap.size ≤ k) (cpT ts[i]) (cellV k n s u))
    (hW : W = (((w2.setCell ⟨g, i * 4, none⟩ (.int .i64 k)).setCell ⟨g, i * 4 + 1, none⟩ (.int .u64 n)).setCell ⟨g, i * 4 + 2, none⟩ (.string s)).setCell ⟨g, i * 4 + 3, none⟩ u) :
    RowI W B (.slice (some ⟨g, 0, none⟩) ts.length cap) ts (i + 1) ks ns ss us := by
  obtain ⟨xs, ks', ns', ss', us', h1, h2, h3, h4⟩ := h
  have hlt := h1.lt g rfl
  have hsz := hb.size
  have r0 : w2.ownsRow B 33 4 (.slice (some ⟨g, 0, none⟩) ts.length cap) ts.length xs := ownsRow_far h1 (hb.block g hlt.2) rfl
  have r1 := (r0.stored (i * 4) (.int .i64 k)).1
  have r2 := (r1.stored (i * 4 + 1) (.int .u64 n)).1
  have r3 := (r2.stored (i * 4 + 2) (.string s)).1
  have r4 := (r3.stored (i * 4 + 3) u).1
  have hoth : ∀ j, j ≠ g → W.heap[j]? = w2.heap[j]? := by
    intro j hj
    rw [hW, heap_setCell_other _ _ _ _ hj, heap_setCell_other _ _ _ _ hj, heap_setCell_other _ _ _ _ hj, heap_setCell_other _ _ _ _ hj]
  have hWs : W.heap.size = w2.heap.size := by rw [hW]; simp
  refine ⟨_, _, _, _, _, by rw [hW]; exact r4, h2.put h1.1 i hi k n s u, fun j hj hji => ?_, fun j hj hjn => ?_⟩
  · by_cases c : j = i
    · subst c
      simp only [if_true]
      refine (hc.real.kept (w' := W) (fun q hq => hoth q (by omega))).widen (fun q hq => ⟨by omega, fun e => ?_, by omega⟩)
      simp [Value.ownBlock] at e
      omega
    · simp only [c, if_false]
      refine ((h3 j hj (by omega)).kept (w' := W) (fun q hq => ?_)).widen (fun q hq => ⟨hq.1, hq.2.1, by omega⟩)
      rw [hoth q (fun e => hq.2.1 (by rw [e]; rfl))]
      exact hb.block q hq.2.2
  · have c : ¬ j = i := by omega
    simp only [c, if_false]
    exact h4 j (by omega) hjn

theorem len_cnts : ∀ l : List Tr, l.length ≤ cnts l := by
  intro l
  induction l with
  | nil => simp [cnts_nil]
  | cons t l ih => simp only [cnts_cons, List.length_cons]; have := cnt_pos t; omega
theorem cnts_get : ∀ {l : List Tr} (i : Nat) (h : i < l.length), l[i].cnt ≤ cnts l
  | a :: l, 0, _ => by rw [cnts_cons]; simp
  | a :: l, i + 1, h => by
    have := cnts_get (l := l) i (by simpa using h)
    rw [cnts_cons]; simp; omega

set_option maxHeartbeats 4000000 in
theorem list_of (D : Nat) (HC : ∀ (t : Tr) (v : Value) (w : World), t.dep < D → t.cnt ≤ 1000000 → CR w t v → Calls Tryd.prog 70 #[v] w (Copd (cpT t) w))
    (ts : List Tr) (a : Option Addr) (cap : Nat) (k0 : Int) (n0 : Nat) (s0 : ByteArray) (w : World) (hD : deps ts ≤ D) (hcnt : cnts ts ≤ 1000000) (h : CR w (.mk k0 n0 s0 ts) (cellV k0 n0 s0 (.slice a ts.length cap))) :
    Calls Tryd.prog 45 #[.slice a ts.length cap] w (Copd (.mk 2 0 ⟨#[]⟩ (ts.map cpT)) w) := by
  obtain ⟨i0, hi0, hz0, hz1, hz2⟩ := info_parts info25b
  generalize hv : cellV k0 n0 s0 (.slice a ts.length cap) = v0 at h
  cases h using CR.elim with
  | mk k n s _ a' cap' ks ns ss us hk hn hs hl hc h0 hx hr =>
  unfold cellV at hv
  simp only [Value.agg.injEq, Array.mk.injEq, List.cons.injEq, Value.slice.injEq, and_true, true_and] at hv
  obtain ⟨rfl, rfl⟩ := hv
  have HCC : Hid _ := HC
  obtain ⟨w1, hw1⟩ : ∃ w1, w1 = w.alloc (.cells #[.int .i64 0, .int .u64 0, .string ⟨#[]⟩, .slice none 0 0] 33) := ⟨_, rfl⟩
  have hs1 : w1.heap.size = w.heap.size + 1 := by rw [hw1]; simp
  have HRC : Hid (Rc w1 w.heap.size) := by show Rc _ _; rw [hw1]; exact heap_alloc_new _ _
  have HB1 : Hid (Below w.heap.size w w1) := by show Below _ _ _; rw [hw1]; exact (Below.refl _ _).alloc (Nat.le_refl _) _
  have HR : Hid (∀ i (h : i < ts.length), CR w ts[i] (cellV (ks i) (ns i) (ss i) (us i))) := hr
  have HX : Hid (∀ x i, a = some x → i < ts.length → x.spot = none ∧ Lies w x.block x.off i (ks i) (ns i) (ss i) (us i)) := hx
  have HD : Hid (deps ts ≤ D ∧ cnts ts ≤ 1000000) := ⟨hD, hcnt⟩
  have hN6 : ts.length ≤ 1000000 := by have := len_cnts ts; omega
  clear hr hx HC hD hcnt
  obtain ⟨N, hN⟩ : ∃ N, N = ts.length := ⟨_, rfl⟩
  have HN : Hid (N = ts.length) := hN
  by_cases cN : ts.length = 0
  · have e : ts = [] := List.eq_nil_of_length_eq_zero cN
    have HE : Hid (∀ W : World, W = (((w1.setCell ⟨w.heap.size, 0, none⟩ (.int .i64 2)).setCell ⟨w.heap.size, 1, none⟩ (.int .u64 (0 : Nat))).setCell ⟨w.heap.size, 2, none⟩ (.string ⟨#[]⟩)).setCell ⟨w.heap.size, 3, none⟩ (.slice none 0 0) → W.heap[w.heap.size]? = some (.cells #[.int .i64 2, .int .u64 (0 : Nat), .string ⟨#[]⟩, .slice none 0 0] 33 (0, 0)) ∧ Copd (.mk 2 0 ⟨#[]⟩ (ts.map cpT)) w (.returned (.agg #[.int .i64 2, .int .u64 (0 : Nat), .string ⟨#[]⟩, .slice none 0 0])) W) := by
      intro W hW
      refine ⟨(HRC.out.set 2 0 ⟨#[]⟩ (.slice none 0 0) hW).1, _, rfl, ?_, ?_⟩
      · rw [e]; exact CS_flat _ _ 2 0 ⟨#[]⟩ (by decide) (by decide) (by decide)
      · rw [hW]; exact (((HB1.out.setCell (Nat.le_refl _) _).setCell (Nat.le_refl _) _).setCell (Nat.le_refl _) _).setCell (Nat.le_refl _) _
    rw [cN]
    clear e cN hl h0
    have hrc4 := HRC.out
    have c0 := hrc4.cell 0
    have c1 := hrc4.cell 1
    have c2 := hrc4.cell 2
    have c3 := hrc4.cell 3
    have f0 := hrc4.free 0
    have f1 := hrc4.free 1
    have f2 := hrc4.free 2
    have f3 := hrc4.free 3
    clear hrc4
    go_enter Tryd.func45, Tryd.ntmps45
    go_wp2_with (at_builtin; refine wpList_append_none rfl _ _ rfl rfl _ _ rfl ?_)
    rw [← hw1]
    clear hw1
    go_loopw [10] (fun t10 wr => t10 = .int .i64 0 ∧ wr = w1) (fun _ _ => 0)
    case atStart => exact ⟨rfl, rfl⟩
    case round =>
      obtain ⟨rfl, rfl⟩ := hrel
      go_wp2
      obtain ⟨y1, y2⟩ := HE.out _ rfl
      exact bodyPost_ret (results_cell_row rfl _ _ w.heap.size _ _ _ _ rfl y1 Tryd.underlying33 rfl info25) rfl y2
  · obtain ⟨x, hx⟩ : ∃ x, a = some x := by
      cases a with
      | some x => exact ⟨x, rfl⟩
      | none => rw [h0 rfl] at cN; exact absurd rfl cN
    subst hx
    have hsp := (HX.out x 0 rfl (by omega)).1
    obtain ⟨g, o, sp⟩ := x
    simp only at hsp
    subst hsp
    have hus : ∀ i, i < ts.length → ∃ ai mi ci, us i = .slice ai mi ci := by
      intro i hi
      obtain ⟨_, _, _, ai, mi, ci, e⟩ := (HR.out i hi).cs.form
      unfold cellV at e
      simp at e
      exact ⟨ai, mi, ci, e.2.2.2⟩
    have HUS : Hid _ := hus
    have hnews := flat_cells (w := w1) (fun i hi => (HX.out _ i rfl hi).2.below HB1.out (Nat.le_refl _))
    have hone := flat_one ks ns ss us ts.length (fun i hi => by obtain ⟨_, _, _, e⟩ := hus i hi; rw [e]; rfl)
    have hflen := flat_length ks ns ss us ts.length
    have HFQ : Hid (Quads (flat ks ns ss us ts.length) ts.length ks ns ss us) := flat_quads ks ns ss us ts.length
    generalize flat ks ns ss us ts.length = fl at *
    rw [← hN] at hflen hl cN hN6 ⊢
    have hN0 : 0 < N := by omega
    clear hN h0 hus
    go_enter Tryd.func45, Tryd.ntmps45
    go_wp2_with (at_builtin; rw [← hw1]; refine wpList_append_lies _ rfl _ _ 31 rfl (w.heap.size + 1) 33 i0 _ 4 56 Tryd.underlying31 hi0 hz0 hz1 hz2 rfl (by decide) (.slice none 0 0) 0 [] rfl (World.ownsRow_nil _ _ _ _) ⟨g, o, none⟩ N cap fl rfl hflen hnews hone hN0 (by unfold maxLen; omega) (by omega) (by omega) (w.heap.size + 1) hs1 ?_)
    intro g3 cap3 w3 hown3 hgrow3 hat3 hlt3
    have hg3 : w.heap.size + 1 ≤ g3 := by
      rcases hat3 with e | e
      · simp [Value.ownBlock] at e
      · omega
    rw [← hw1] at hgrow3
    have HB3 : Hid (Below (w.heap.size + 1) w1 w3) := (Below.refl _ _).grown hgrow3 (by omega) (fun k hk => by cases hk)
    have HI0 : Hid (RowI w3 (w.heap.size + 1) (.slice (some ⟨g3, 0, none⟩) N cap3) ts 0 ks ns ss us) := by
      refine ⟨fl, ks, ns, ss, us, by rw [← HN.out]; exact hown3, HFQ.out, fun j _ h => absurd h (Nat.not_lt_zero _), fun j _ _ => ⟨rfl, rfl, rfl, rfl⟩⟩
    clear hw1 hown3 hgrow3 hat3 hnews hone hflen
    go_wp2_with fail
    go_loopw [10] (fun t10 wr => ∃ i : Nat, i ≤ N ∧ t10 = .int .i64 i ∧ Hid (RowI wr (w.heap.size + 1) (.slice (some ⟨g3, 0, none⟩) N cap3) ts i ks ns ss us) ∧ Hid (Below (w.heap.size + 1) w1 wr)) (fun t10 _ => N - (intOf t10).toNat)
    case atStart => exact ⟨0, Nat.zero_le _, rfl, HI0, HB3⟩
    case round =>
      obtain ⟨i, hi, rfl, HI, HW⟩ := hrel
      have hsz := HW.out.size
      have hbw : Below w.heap.size w wr := HB1.out.trans (HW.out.mono (by omega))
      by_cases c : i < N
      · have i1 : i < ts.length := by rw [← HN.out]; exact c
        obtain ⟨xs, ks', ns', ss', us', r1, r2, r3, r4⟩ := HI.out
        obtain ⟨e1, e2, e3, e4⟩ := r4 i (Nat.le_refl _) i1
        rw [← HN.out] at r1
        have l0 : wr.cell? ⟨g3, i * 4, none⟩ = some (.int .i64 (ks i)) := by rw [r1.cellAt _ (by omega), r2.q0 i i1, e1]
        have l1 : wr.cell? ⟨g3, i * 4 + 1, none⟩ = some (.int .u64 (ns i)) := by rw [r1.cellAt _ (by omega), r2.q1 i i1, e2]
        have l2 : wr.cell? ⟨g3, i * 4 + 2, none⟩ = some (.string (ss i)) := by rw [r1.cellAt _ (by omega), r2.q2 i i1, e3]
        obtain ⟨ai, mi, ci, hus⟩ := HUS.out i i1
        have l3 : wr.cell? ⟨g3, i * 4 + 3, none⟩ = some (.slice ai mi ci) := by rw [r1.cellAt _ (by omega), r2.q3 i i1, e4, hus]
        have hglt := (r1.lt g3 rfl).2
        have hcr := HR.out i i1
        rw [hus] at hcr
        have hba : Below w.heap.size w (wr.alloc (.cells #[.int .i64 (ks i), .int .u64 (ns i), .string (ss i), .slice ai mi ci] 33)) := hbw.alloc (by omega) _
        have hcall := HCC.out ts[i] _ (wr.alloc (.cells #[.int .i64 (ks i), .int .u64 (ns i), .string (ss i), .slice ai mi ci] 33)) (by have := deps_get i i1; have := HD.out.1; omega) (by have := cnts_get i i1; have := HD.out.2; omega) (hcr.kept hba (Nat.le_refl _))
        unfold cellV at hcall
        have HR1 : Hid (wr.ownsRow (w.heap.size + 1) 33 4 (.slice (some ⟨g3, 0, none⟩) N cap3) N xs) := r1
        clear r1 r2 r3 r4 e1 e2 e3 e4 hcr hba hbw
        go_wp2_with fail
        refine hcall.mono ?_
        rintro e w5 ⟨v5, rfl, q1, q2⟩
        obtain ⟨k5, n5, s5, a5, m5, cap5, rfl⟩ := q1.form
        have hsz5 := q2.size
        have hza : (wr.alloc (.cells #[.int .i64 (ks i), .int .u64 (ns i), .string (ss i), .slice ai mi ci] 33)).heap.size = wr.heap.size + 1 := by simp
        have hb5 : Below wr.heap.size wr w5 := ((Below.refl _ wr).alloc (Nat.le_refl _) _).trans (q2.mono (by omega))
        have r5 : w5.ownsRow (w.heap.size + 1) 33 4 (.slice (some ⟨g3, 0, none⟩) N cap3) N xs := ownsRow_far HR1.out (hb5.block g3 hglt) rfl
        have l0 : w5.cell? ⟨g3, i * 4, none⟩ = some (.int .i64 (ks i)) := cell_kept hb5 (Nat.le_refl _) l0
        have l1 : w5.cell? ⟨g3, i * 4 + 1, none⟩ = some (.int .u64 (ns i)) := cell_kept hb5 (Nat.le_refl _) l1
        have l2 : w5.cell? ⟨g3, i * 4 + 2, none⟩ = some (.string (ss i)) := cell_kept hb5 (Nat.le_refl _) l2
        have l3 : w5.cell? ⟨g3, i * 4 + 3, none⟩ = some (.slice ai mi ci) := cell_kept hb5 (Nat.le_refl _) l3
        have f0 := r5.frozenAt (i * 4)
        have f1 := r5.frozenAt (i * 4 + 1)
        have f2 := r5.frozenAt (i * 4 + 2)
        have f3 := r5.frozenAt (i * 4 + 3)
        have HST : Hid (∀ W : World, W = (((w5.setCell ⟨g3, i * 4, none⟩ (.int .i64 k5)).setCell ⟨g3, i * 4 + 1, none⟩ (.int .u64 n5)).setCell ⟨g3, i * 4 + 2, none⟩ (.string s5)).setCell ⟨g3, i * 4 + 3, none⟩ (.slice a5 m5 cap5) → RowI W (w.heap.size + 1) (.slice (some ⟨g3, 0, none⟩) N cap3) ts (i + 1) ks ns ss us ∧ Below (w.heap.size + 1) w1 W) := by
          intro W hW
          have hI := HI.out
          rw [HN.out] at hI ⊢
          refine ⟨hI.step i1 hb5 (q1.widen (fun k hk => by omega)) hW, ?_⟩
          have : Below (w.heap.size + 1) w1 w5 := HW.out.trans (hb5.mono (by omega))
          rw [hW]
          exact (((this.setCell (by simp; omega) _).setCell (by simp; omega) _).setCell (by simp; omega) _).setCell (by simp; omega) _
        unfold cellV
        clear hcall q1 q2 hb5 r5
        go_wp2
        obtain ⟨y1, y2⟩ := HST.out _ rfl
        go_roundw
        case rel => exact ⟨i + 1, by omega, by go_num, y1, y2⟩
        case measure => simp [intOf]; omega
      · have e : i = N := by omega
        subst e
        have hrc4 : Rc wr w.heap.size := (HW.out.block _ (by omega)).trans HRC.out
        have c0 := hrc4.cell 0
        have c1 := hrc4.cell 1
        have c2 := hrc4.cell 2
        have c3 := hrc4.cell 3
        have f0 := hrc4.free 0
        have f1 := hrc4.free 1
        have f2 := hrc4.free 2
        have f3 := hrc4.free 3
        have HE : Hid (∀ W : World, W = (((wr.setCell ⟨w.heap.size, 0, none⟩ (.int .i64 2)).setCell ⟨w.heap.size, 1, none⟩ (.int .u64 (0 : Nat))).setCell ⟨w.heap.size, 2, none⟩ (.string ⟨#[]⟩)).setCell ⟨w.heap.size, 3, none⟩ (.slice (some ⟨g3, 0, none⟩) i cap3) → W.heap[w.heap.size]? = some (.cells #[.int .i64 2, .int .u64 (0 : Nat), .string ⟨#[]⟩, .slice (some ⟨g3, 0, none⟩) i cap3] 33 (0, 0)) ∧ Copd (.mk 2 0 ⟨#[]⟩ (ts.map cpT)) w (.returned (.agg #[.int .i64 2, .int .u64 (0 : Nat), .string ⟨#[]⟩, .slice (some ⟨g3, 0, none⟩) i cap3])) W) := by
          intro W hW
          obtain ⟨y1, y2⟩ := hrc4.set 2 0 ⟨#[]⟩ _ hW
          have hI := HI.out
          refine ⟨y1, _, rfl, ?_, ?_⟩
          · rw [HN.out] at hI ⊢
            have := hI.done.cs (by rw [List.length_map]) 2 0 ⟨#[]⟩ (by decide) (by decide) (by decide)
            exact (this.kept (w' := W) (fun k hk => y2 k (by omega))).widen (fun k hk => by omega)
          · rw [hW]; exact (((hbw.setCell (Nat.le_refl _) _).setCell (Nat.le_refl _) _).setCell (Nat.le_refl _) _).setCell (Nat.le_refl _) _
        clear hrc4 hbw
        go_wp2
        obtain ⟨y1, y2⟩ := HE.out _ rfl
        exact bodyPost_ret (results_cell_row rfl _ _ w.heap.size _ _ _ _ rfl y1 Tryd.underlying33 rfl info25) rfl y2

set_option maxHeartbeats 4000000 in
theorem copied_any : ∀ (D : Nat) (t : Tr) (v : Value) (w : World), t.dep < D → t.cnt ≤ 1000000 → CR w t v → Calls Tryd.prog 70 #[v] w (Copd (cpT t) w) := by
  intro D
  induction D with
  | zero => intro t v w h; omega
  | succ D ih =>
    intro t v w hD hcnt h
    have h2 := h
    cases h using CR.elim with
    | mk k n s ts a cap ks ns ss us hk hn hs hl hc h0 hx hr =>
    have HL : Hid (∀ w' : World, Below w.heap.size w w' → Calls Tryd.prog 45 #[.slice a ts.length cap] w' (Copd (.mk 2 0 ⟨#[]⟩ (ts.map cpT)) w')) := by
      intro w' hb
      exact list_of D ih ts a cap k n s w' (by rw [Tr.dep_mk] at hD; omega) (by rw [Tr.cnt_mk] at hcnt; omega) (h2.kept hb (Nat.le_refl _))
    obtain ⟨w1, hw1⟩ : ∃ w1, w1 = (w.alloc (.cells #[.int .i64 k, .int .u64 n, .string s, .slice a ts.length cap] 33)).alloc (.cells #[.int .i64 0, .int .u64 0, .string ⟨#[]⟩, .slice none 0 0] 33) := ⟨_, rfl⟩
    have hs1 : w1.heap.size = w.heap.size + 2 := by rw [hw1]; simp
    have HRC : Hid (Rc w1 (w.heap.size + 1)) := by
      have e := heap_alloc_new (w.alloc (.cells #[.int .i64 k, .int .u64 n, .string s, .slice a ts.length cap] 33)) (.cells #[.int .i64 0, .int .u64 0, .string ⟨#[]⟩, .slice none 0 0] 33)
      rw [← hw1, show (w.alloc (.cells #[.int .i64 k, .int .u64 n, .string s, .slice a ts.length cap] 33)).heap.size = w.heap.size + 1 by simp] at e
      exact e
    have HB1 : Hid (Below w.heap.size w w1) := by show Below _ _ _; rw [hw1]; exact ((Below.refl _ _).alloc (Nat.le_refl _) _).alloc (by simp) _
    have G : ∀ j, w1.cell? ⟨w.heap.size, j, none⟩ = (#[.int .i64 k, .int .u64 n, .string s, .slice a ts.length cap] : Array Value)[j]? := by
      intro j
      rw [hw1, World.cell?_alloc_lt _ _ _ (by simp), World.cell?_alloc_new]
    have g0 : w1.cell? ⟨w.heap.size, 0, none⟩ = some (.int .i64 k) := G 0
    have g1 : w1.cell? ⟨w.heap.size, 1, none⟩ = some (.int .u64 n) := G 1
    have g2 : w1.cell? ⟨w.heap.size, 2, none⟩ = some (.string s) := G 2
    have g3 : w1.cell? ⟨w.heap.size, 3, none⟩ = some (.slice a ts.length cap) := G 3
    unfold cellV
    clear h2 hx hr ih h0 hD hcnt G
    by_cases k0 : k = 0
    · have HT : Hid (cpT (.mk k n s ts) = .mk 0 n ⟨#[]⟩ []) := by show _ = _; simp [cpT_mk, k0]
      rw [HT.out]
      subst k0
      have hmk := cnumber_any n w1
      go_enter Tryd.func70, Tryd.ntmps70
      go_wp2_with fail
      rw [← hw1]
      refine hmk.mono ?_
      rintro e w4 ⟨rfl, hb4⟩
      clear hmk hw1
      have hbb : Below w.heap.size w w4 := HB1.out.trans (hb4.mono (by omega))
      have hrc4 : Rc w4 (w.heap.size + 1) := (hb4.block _ (by omega)).trans HRC.out
      have c0 := hrc4.cell 0
      have c1 := hrc4.cell 1
      have c2 := hrc4.cell 2
      have c3 := hrc4.cell 3
      have f0 := hrc4.free 0
      have f1 := hrc4.free 1
      have f2 := hrc4.free 2
      have f3 := hrc4.free 3
      have HE : Hid (∀ W : World, W = (((w4.setCell ⟨w.heap.size + 1, 0, none⟩ (.int .i64 0)).setCell ⟨w.heap.size + 1, 1, none⟩ (.int .u64 n)).setCell ⟨w.heap.size + 1, 2, none⟩ (.string ⟨#[]⟩)).setCell ⟨w.heap.size + 1, 3, none⟩ (.slice none 0 0) → W.heap[w.heap.size + 1]? = some (.cells #[.int .i64 0, .int .u64 n, .string ⟨#[]⟩, .slice none 0 0] 33 (0, 0)) ∧ Copd (.mk 0 n ⟨#[]⟩ []) w (.returned (.agg #[.int .i64 0, .int .u64 n, .string ⟨#[]⟩, .slice none 0 0])) W) := by
        intro W hW
        obtain ⟨y1, y2⟩ := hrc4.set _ _ _ _ hW
        refine ⟨y1, _, rfl, ?_, ?_⟩
        · exact CS_flat _ _ 0 n ⟨#[]⟩ (by decide) hn (by decide)
        · rw [hW]; exact (((hbb.setCell (by simp) _).setCell (by simp) _).setCell (by simp) _).setCell (by simp) _
      clear hrc4 hb4 hbb
      unfold cellV
      go_wp2
      obtain ⟨y1, y2⟩ := HE.out _ rfl
      exact bodyPost_ret (results_cell_row rfl _ _ (w.heap.size + 1) _ _ _ _ rfl y1 Tryd.underlying33 rfl info25) rfl y2
    · by_cases k1 : k = 1
      · have HT : Hid (cpT (.mk k n s ts) = .mk 1 0 s []) := by show _ = _; simp [cpT_mk, k1]
        rw [HT.out]
        subst k1
        have hmk := ctext_any s w1
        go_enter Tryd.func70, Tryd.ntmps70
        go_wp2_with fail
        rw [← hw1]
        refine hmk.mono ?_
        rintro e w4 ⟨rfl, hb4⟩
        clear hmk hw1
        have hbb : Below w.heap.size w w4 := HB1.out.trans (hb4.mono (by omega))
        have hrc4 : Rc w4 (w.heap.size + 1) := (hb4.block _ (by omega)).trans HRC.out
        have c0 := hrc4.cell 0
        have c1 := hrc4.cell 1
        have c2 := hrc4.cell 2
        have c3 := hrc4.cell 3
        have f0 := hrc4.free 0
        have f1 := hrc4.free 1
        have f2 := hrc4.free 2
        have f3 := hrc4.free 3
        have HE : Hid (∀ W : World, W = (((w4.setCell ⟨w.heap.size + 1, 0, none⟩ (.int .i64 1)).setCell ⟨w.heap.size + 1, 1, none⟩ (.int .u64 (0 : Nat))).setCell ⟨w.heap.size + 1, 2, none⟩ (.string s)).setCell ⟨w.heap.size + 1, 3, none⟩ (.slice none 0 0) → W.heap[w.heap.size + 1]? = some (.cells #[.int .i64 1, .int .u64 (0 : Nat), .string s, .slice none 0 0] 33 (0, 0)) ∧ Copd (.mk 1 0 s []) w (.returned (.agg #[.int .i64 1, .int .u64 (0 : Nat), .string s, .slice none 0 0])) W) := by
          intro W hW
          obtain ⟨y1, y2⟩ := hrc4.set _ _ _ _ hW
          refine ⟨y1, _, rfl, ?_, ?_⟩
          · exact CS_flat _ _ 1 0 s (by decide) (by decide) hs
          · rw [hW]; exact (((hbb.setCell (by simp) _).setCell (by simp) _).setCell (by simp) _).setCell (by simp) _
        clear hrc4 hb4 hbb
        unfold cellV
        go_wp2
        obtain ⟨y1, y2⟩ := HE.out _ rfl
        exact bodyPost_ret (results_cell_row rfl _ _ (w.heap.size + 1) _ _ _ _ rfl y1 Tryd.underlying33 rfl info25) rfl y2
      · by_cases k2 : k = 2
        · have HT : Hid (cpT (.mk k n s ts) = .mk 2 0 ⟨#[]⟩ (ts.map cpT)) := by show _ = _; simp [cpT_mk, k2, cpL_map]
          rw [HT.out]
          subst k2
          have hmk := HL.out w1 HB1.out
          go_enter Tryd.func70, Tryd.ntmps70
          go_wp2_with fail
          rw [← hw1]
          refine hmk.mono ?_
          rintro e w4 ⟨v4, rfl, q1, hb4⟩
          obtain ⟨k5, n5, s5, a5, m5, cap5, rfl⟩ := q1.form
          clear hmk hw1
          have hbb : Below w.heap.size w w4 := HB1.out.trans (hb4.mono (by omega))
          have hrc4 : Rc w4 (w.heap.size + 1) := (hb4.block _ (by omega)).trans HRC.out
          have c0 := hrc4.cell 0
          have c1 := hrc4.cell 1
          have c2 := hrc4.cell 2
          have c3 := hrc4.cell 3
          have f0 := hrc4.free 0
          have f1 := hrc4.free 1
          have f2 := hrc4.free 2
          have f3 := hrc4.free 3
          have HE : Hid (∀ W : World, W = (((w4.setCell ⟨w.heap.size + 1, 0, none⟩ (.int .i64 k5)).setCell ⟨w.heap.size + 1, 1, none⟩ (.int .u64 n5)).setCell ⟨w.heap.size + 1, 2, none⟩ (.string s5)).setCell ⟨w.heap.size + 1, 3, none⟩ (.slice a5 m5 cap5) → W.heap[w.heap.size + 1]? = some (.cells #[.int .i64 k5, .int .u64 n5, .string s5, .slice a5 m5 cap5] 33 (0, 0)) ∧ Copd (.mk 2 0 ⟨#[]⟩ (ts.map cpT)) w (.returned (.agg #[.int .i64 k5, .int .u64 n5, .string s5, .slice a5 m5 cap5])) W) := by
            intro W hW
            obtain ⟨y1, y2⟩ := hrc4.set _ _ _ _ hW
            refine ⟨y1, _, rfl, ?_, ?_⟩
            · exact (q1.kept (w' := W) (fun k hk => y2 k (by omega))).widen (fun k hk => by omega)
            · rw [hW]; exact (((hbb.setCell (by simp) _).setCell (by simp) _).setCell (by simp) _).setCell (by simp) _
          clear hrc4 hb4 hbb q1
          unfold cellV
          go_wp2
          obtain ⟨y1, y2⟩ := HE.out _ rfl
          exact bodyPost_ret (results_cell_row rfl _ _ (w.heap.size + 1) _ _ _ _ rfl y1 Tryd.underlying33 rfl info25) rfl y2
        · have HT : Hid (cpT (.mk k n s ts) = .mk k 0 ⟨#[]⟩ []) := by show _ = _; simp [cpT_mk, k0, k1, k2]
          rw [HT.out]
          clear hw1 HRC HB1 g0 g1 g2 g3 HL hs1
          go_enter Tryd.func70, Tryd.ntmps70
          go_wp2
          have e := heap_alloc_new (w.alloc (.cells #[.int .i64 k, .int .u64 n, .string s, .slice a ts.length cap] 33)) (.cells #[.int .i64 k, .int .u64 0, .string ⟨#[]⟩, .slice none 0 0] 33)
          rw [show (w.alloc (.cells #[.int .i64 k, .int .u64 n, .string s, .slice a ts.length cap] 33)).heap.size = w.heap.size + 1 by simp] at e
          exact bodyPost_ret (results_cell_row rfl _ _ (w.heap.size + 1) _ _ _ _ rfl e Tryd.underlying33 rfl info25) rfl ⟨_, rfl, CS_flat _ _ k 0 ⟨#[]⟩ hk (by decide) (by decide), ((Below.refl _ _).alloc (Nat.le_refl _) _).alloc (by simp) _⟩

/-- List of a row that reads as trees. -/
theorem list_any (ts : List Tr) (a : Option Addr) (cap : Nat) (k0 : Int) (n0 : Nat) (s0 : ByteArray) (w : World) (hcnt : cnts ts ≤ 1000000) (h : CR w (.mk k0 n0 s0 ts) (cellV k0 n0 s0 (.slice a ts.length cap))) :
    Calls Tryd.prog 45 #[.slice a ts.length cap] w (Copd (.mk 2 0 ⟨#[]⟩ (ts.map cpT)) w) :=
  list_of (deps ts) (copied_any (deps ts)) ts a cap k0 n0 s0 w (Nat.le_refl _) hcnt h

end Go.Proofs.YtcblknghkgihcaaDoor
namespace Go.Proofs.YtcblknghkgihcaaDoor
set_option maxRecDepth 100000
open Go.RowKit Crc Pg

set_option maxHeartbeats 1000000 in
theorem numberCell_any (n : Int) (w : World) :
    Calls Tryd.prog 23 #[.int .i64 n] w fun e w' => e = .returned (cellV 0 (uw n) nob (.slice none 0 0)) ∧ Below w.heap.size w w' := by
  have h1 := fun o : Obj => cnumber_any (uw n) (w.alloc o)
  have hn := uw_wrap n
  have HB0 : Hid (∀ o : Obj, Below w.heap.size w (w.alloc o)) := fun o => (Below.refl _ w).alloc (Nat.le_refl _) o
  go_enter Tryd.func23, Tryd.ntmps23
  go_wp2_with fail
  refine (h1 _).mono ?_
  rintro e w2 ⟨rfl, hb⟩
  have hsz := hb.size
  have K := (hb.block w.heap.size (by simp)).trans (heap_alloc_new w _)
  obtain ⟨c0, c1, c2, c3⟩ := block4 K
  have fz := Lib.frozen_of_heap K
  have f0 := fz 0
  have f1 := fz 1
  have f2 := fz 2
  have f3 := fz 3
  have HK := hide_p (set4_block K (.int .i64 0) (.int .u64 (uw n)) (.string nob) (.slice none 0 0))
  have HB : Hid (Below w.heap.size w w2) := (HB0.out _).trans (hb.mono (by simp))
  clear K hb h1 fz hsz
  unfold cellV
  go_wp2
  exact bodyPost_ret (results_cell_row rfl _ _ w.heap.size _ _ _ _ rfl HK.out Tryd.underlying33 rfl info25) rfl ⟨rfl, set4_below HB.out (Nat.le_refl _) _ _ _ _⟩

/-- A row of one's own, whose first i cells are laid. -/
def RowZ (w : World) (B : Nat) (v : Value) (ts : List Tr) (i : Nat) : Prop :=
  ∃ (xs : List Value) (ks : Nat → Int) (ns : Nat → Nat) (ss : Nat → ByteArray) (us : Nat → Value), w.ownsRow B 33 4 v ts.length xs ∧ Quads xs i ks ns ss us ∧
    ∀ j (h : j < ts.length), j < i → CS w (fun k => B ≤ k ∧ v.ownBlock ≠ some k ∧ k < w.heap.size) ts[j] (cellV (ks j) (ns j) (ss j) (us j))
theorem RowZ.done {w : World} {B : Nat} {v : Value} {ts : List Tr} (h : RowZ w B v ts ts.length) : TW w B v ts := by
  obtain ⟨xs, ks, ns, ss, us, h1, h2, h3⟩ := h
  exact ⟨xs, ks, ns, ss, us, h1, h2, fun i hi => (h3 i hi hi).widen (fun k hk => ⟨hk.1, hk.2.1, hk.2.2, trivial⟩)⟩
theorem RowZ.far {w w' : World} {B g N : Nat} {ts : List Tr} {i : Nat} (h : RowZ w B (.slice (some ⟨g, 0, none⟩) N N) ts i) (hb : Below w.heap.size w w') : RowZ w' B (.slice (some ⟨g, 0, none⟩) N N) ts i := by
  obtain ⟨xs, ks, ns, ss, us, h1, h2, h3⟩ := h
  exact ⟨xs, ks, ns, ss, us, ownsRow_far h1 (hb.block g (h1.lt g rfl).2) rfl, h2, fun j hj hji => ((h3 j hj hji).kept (fun q hq => hb.block q hq.2.2)).widen (fun q hq => ⟨hq.1, hq.2.1, Nat.lt_of_lt_of_le hq.2.2 hb.size⟩)⟩
theorem RowZ.at {w : World} {B g N : Nat} {ts : List Tr} {i : Nat} (h : RowZ w B (.slice (some ⟨g, 0, none⟩) N N) ts i) (hN : N = ts.length) (j : Nat) (hj : j < ts.length * 4) : w.frozen? ⟨g, j, none⟩ = false ∧ ∃ u, w.cell? ⟨g, j, none⟩ = some u := by
  subst hN
  obtain ⟨xs, ks, ns, ss, us, h1, -, -⟩ := h
  refine ⟨h1.frozenAt j, xs[j]'(by have := h1.1; omega), ?_⟩
  rw [h1.cellAt j hj]
  exact List.getElem?_eq_getElem (by have := h1.1; omega)
theorem RowZ.lt {w : World} {B g N : Nat} {ts : List Tr} {i : Nat} (h : RowZ w B (.slice (some ⟨g, 0, none⟩) N N) ts i) : g < w.heap.size := by
  obtain ⟨xs, ks, ns, ss, us, h1, -, -⟩ := h
  exact (h1.lt g rfl).2
theorem Quads.put1 {xs : List Value} {i : Nat} {ks : Nat → Int} {ns : Nat → Nat} {ss : Nat → ByteArray} {us : Nat → Value} (h : Quads xs i ks ns ss us) (hl : i * 4 + 3 < xs.length) (k : Int) (n : Nat) (s : ByteArray) (u : Value) :
    Quads ((((xs.set (i * 4) (.int .i64 k)).set (i * 4 + 1) (.int .u64 n)).set (i * 4 + 2) (.string s)).set (i * 4 + 3) u) (i + 1) (fun j => if j = i then k else ks j) (fun j => if j = i then n else ns j) (fun j => if j = i then s else ss j) (fun j => if j = i then u else us j) := by
  refine ⟨?_, ?_, ?_, ?_⟩
  all_goals
    intro j hj
    by_cases c : j = i
    · subst c
      simp only [List.getElem?_set, List.length_set, if_true]
      repeat (first | rw [if_neg (by omega)] | rw [if_pos (by omega)])
    · simp only [List.getElem?_set, c, if_false]
      repeat rw [if_neg (by omega)]
      first
        | exact h.q0 j (by omega)
        | exact h.q1 j (by omega)
        | exact h.q2 j (by omega)
        | exact h.q3 j (by omega)
/-- One more is laid in its place. -/
theorem RowZ.step {w w2 W : World} {B g N : Nat} {ts : List Tr} {i : Nat} {k : Int} {n : Nat} {s : ByteArray} {u : Value} {t : Tr}
    (h : RowZ w B (.slice (some ⟨g, 0, none⟩) N N) ts i) (hN : N = ts.length) (hi : i < ts.length) (ht : ts[i] = t) (hb : Below w.heap.size w w2) (hc : CS w2 (fun k => w.heap.size ≤ k) t (cellV k n s u))
    (hW : W = (((w2.setCell ⟨g, i * 4, none⟩ (.int .i64 k)).setCell ⟨g, i * 4 + 1, none⟩ (.int .u64 n)).setCell ⟨g, i * 4 + 2, none⟩ (.string s)).setCell ⟨g, i * 4 + 3, none⟩ u) :
    RowZ W B (.slice (some ⟨g, 0, none⟩) N N) ts (i + 1) := by
  subst hN
  obtain ⟨xs, ks', ns', ss', us', h1, h2, h3⟩ := h
  have hlt := h1.lt g rfl
  have hsz := hb.size
  have hlen := h1.1
  have r0 : w2.ownsRow B 33 4 (.slice (some ⟨g, 0, none⟩) ts.length ts.length) ts.length xs := ownsRow_far h1 (hb.block g hlt.2) rfl
  have r1 := (r0.stored (i * 4) (.int .i64 k)).1
  have r2 := (r1.stored (i * 4 + 1) (.int .u64 n)).1
  have r3 := (r2.stored (i * 4 + 2) (.string s)).1
  have r4 := (r3.stored (i * 4 + 3) u).1
  have hoth : ∀ j, j ≠ g → W.heap[j]? = w2.heap[j]? := by
    intro j hj
    rw [hW, heap_setCell_other _ _ _ _ hj, heap_setCell_other _ _ _ _ hj, heap_setCell_other _ _ _ _ hj, heap_setCell_other _ _ _ _ hj]
  have hWs : W.heap.size = w2.heap.size := by rw [hW]; simp
  refine ⟨_, _, _, _, _, by rw [hW]; exact r4, h2.put1 (by omega) k n s u, fun j hj hji => ?_⟩
  by_cases c : j = i
  · subst c
    simp only [if_true]
    rw [ht]
    refine (hc.real.kept (w' := W) (fun q hq => hoth q (by omega))).widen (fun q hq => ⟨by omega, fun e => ?_, by omega⟩)
    simp [Value.ownBlock] at e
    omega
  · simp only [c, if_false]
    refine ((h3 j hj (by omega)).kept (w' := W) (fun q hq => ?_)).widen (fun q hq => ⟨hq.1, hq.2.1, by omega⟩)
    rw [hoth q (fun e => hq.2.1 (by rw [e]; rfl))]
    exact hb.block q hq.2.2
theorem numberCell_cop (n : Int) (w : World) : Calls Tryd.prog 23 #[.int .i64 n] w (Copd (numT n) w) := by
  refine (numberCell_any n w).mono ?_
  rintro e w' ⟨rfl, hb⟩
  exact ⟨_, rfl, cs_numT n, hb⟩
/-- What a list's end is. -/
theorem listCell_end {w wr : World} {N : Nat} {ts : List Tr} (hN : N = ts.length) (hrc : Rc wr w.heap.size) (hR : RowZ wr (w.heap.size + 1) (.slice (some ⟨w.heap.size + 1, 0, none⟩) N N) ts N) (hb : Below w.heap.size w wr) (W : World)
    (hW : W = (((wr.setCell ⟨w.heap.size, 0, none⟩ (.int .i64 2)).setCell ⟨w.heap.size, 1, none⟩ (.int .u64 (0 : Nat))).setCell ⟨w.heap.size, 2, none⟩ (.string ⟨#[]⟩)).setCell ⟨w.heap.size, 3, none⟩ (.slice (some ⟨w.heap.size + 1, 0, none⟩) N N)) :
    W.heap[w.heap.size]? = some (.cells #[.int .i64 2, .int .u64 (0 : Nat), .string ⟨#[]⟩, .slice (some ⟨w.heap.size + 1, 0, none⟩) N N] 33 (0, 0)) ∧ Copd (lisT ts) w (.returned (.agg #[.int .i64 2, .int .u64 (0 : Nat), .string ⟨#[]⟩, .slice (some ⟨w.heap.size + 1, 0, none⟩) N N])) W := by
  obtain ⟨y1, y2⟩ := hrc.set 2 0 ⟨#[]⟩ _ hW
  refine ⟨y1, _, rfl, ?_, ?_⟩
  · have hR2 : RowZ wr (w.heap.size + 1) (.slice (some ⟨w.heap.size + 1, 0, none⟩) N N) ts ts.length := by rw [← hN]; exact hR
    have := hR2.done.cs hN 2 0 ⟨#[]⟩ (by decide) (by decide) (by decide)
    exact (this.kept (w' := W) (fun k hk => y2 k (by omega))).widen (fun k hk => by omega)
  · rw [hW]; exact (((hb.setCell (Nat.le_refl _) _).setCell (Nat.le_refl _) _).setCell (Nat.le_refl _) _).setCell (Nat.le_refl _) _
/-- A row of numbers. -/
def Nums (w : World) (v : Value) (l : List Int) : Prop := ∃ g cap, v = .slice (some ⟨g, 0, none⟩) l.length cap ∧ ∀ i (h : i < l.length), w.cell? ⟨g, i, none⟩ = some (.int .i64 l[i])


set_option maxHeartbeats 4000000 in
theorem listCellN_any (l : List Int) (v : Value) (w : World) (h : Nums w v l) (hlen : l.length ≤ 1000000) :
    Calls Tryd.prog 44 #[v, .func (.func 23) #[] #[]] w (Copd (lisT (l.map numT)) w) := by
  obtain ⟨i0, hi0, hz0, hz1, hz2⟩ := info_parts info25b
  obtain ⟨g, cap, rfl, hc⟩ := h
  obtain ⟨N, hN⟩ : ∃ N, N = l.length := ⟨_, rfl⟩
  have HN := hide_p hN
  rw [← hN] at hlen
  obtain ⟨ts, hts⟩ : ∃ ts, ts = l.map numT := ⟨_, rfl⟩
  have HTS := hide_p hts
  have HNT : Hid (N = ts.length) := by show _ = _; rw [hts, List.length_map]; exact hN
  have HC := (show Hid (∀ i (h : i < l.length), w.cell? ⟨g, i, none⟩ = some (.int .i64 l[i])) from hc)
  rw [← hN]
  have HX : Hid (∀ n w', Calls Tryd.prog 23 #[.int .i64 n] w' (Copd (numT n) w')) := numberCell_cop
  rw [← hts]
  obtain ⟨w1, hw1⟩ : ∃ w1, w1 = w.alloc (.cells #[.int .i64 0, .int .u64 0, .string ⟨#[]⟩, .slice none 0 0] 33) := ⟨_, rfl⟩
  have HRC : Hid (Rc w1 w.heap.size) := by show Rc _ _; rw [hw1]; exact heap_alloc_new _ _
  have HB1 : Hid (Below w.heap.size w w1) := by show Below _ _ _; rw [hw1]; exact (Below.refl _ _).alloc (Nat.le_refl _) _
  have hs1 : w1.heap.size = w.heap.size + 1 := by rw [hw1]; simp
  have HM : Hid (∀ w2 xs, w2.ownsRow (w.heap.size + 1) 33 4 (.slice (some ⟨w.heap.size + 1, 0, none⟩) N N) N xs → w1.grownBy w2 none → RowZ w2 (w.heap.size + 1) (.slice (some ⟨w.heap.size + 1, 0, none⟩) N N) ts 0 ∧ Below (w.heap.size + 1) w1 w2) := by
    intro w2 xs q1 q2
    refine ⟨⟨xs, fun _ => 0, fun _ => 0, fun _ => nob, fun _ => .slice none 0 0, by rw [← HNT.out]; exact q1, ⟨fun i h => absurd h (Nat.not_lt_zero _), fun i h => absurd h (Nat.not_lt_zero _), fun i h => absurd h (Nat.not_lt_zero _), fun i h => absurd h (Nat.not_lt_zero _)⟩, fun j _ h => absurd h (Nat.not_lt_zero _)⟩, (Below.refl _ w1).grown q2 (by omega) (fun k hk => by cases hk)⟩
  clear hc hN hts
  go_enter Tryd.func44, Tryd.ntmps44
  go_upto_region 1 with fail
  rw [← hw1]
  clear hw1
  go_wp2_with (at_make; refine wpList_make_full _ rfl _ _ 31 rfl (w.heap.size + 1) 33 i0 _ 4 Tryd.underlying31 hi0 hz0 hz1 .i64 .i64 _ _ N rfl rfl rfl rfl (by rw [hz2]; omega) (by unfold maxLen; omega) (by omega) ?_)
  intro w2 q1 q2
  obtain ⟨q3, q4⟩ := HM.out w2 _ q1 q2
  have HF2 := hide_p q3
  have HB2 := hide_p q4
  clear q1 q2 q3 q4 HM
  go_wp2_with fail
  go_loopw [13] (fun t13 wr => ∃ i : Nat, i ≤ N ∧ t13 = .int .i64 i ∧ Hid (RowZ wr (w.heap.size + 1) (.slice (some ⟨w.heap.size + 1, 0, none⟩) N N) ts i) ∧ Hid (Below (w.heap.size + 1) w1 wr)) (fun t13 _ => N - (intOf t13).toNat)
  case atStart => exact ⟨0, Nat.zero_le _, rfl, HF2, HB2⟩
  case round =>
    obtain ⟨i, hi, rfl, HF, HB⟩ := hrel
    have hszr := HB.out.size
    have HBw : Hid (Below w.heap.size w wr) := HB1.out.trans (HB.out.mono (by omega))
    clear HF2 HB2
    by_cases c : i < N
    · have i1 : i < l.length := by rw [← HN.out]; exact c
      have hbw := HBw.out
      have e0 := cell_kept hbw (Nat.le_refl _) (HC.out i i1)
      have hel : l[i] = l[i] := rfl
      have hcall := HX.out l[i] wr
      have hti : ∃ h : i < ts.length, ts[i] = numT l[i] := by
        have e := HTS.out
        subst e
        exact ⟨by rw [List.length_map]; exact i1, by rw [List.getElem_map]⟩
      have HTI := (show Hid (∃ h : i < ts.length, ts[i] = numT l[i]) from hti)
      clear hti
      generalize l[i] = z at *
      clear hbw hel
      go_wp2_with fail
      refine hcall.mono ?_
      rintro e w5 ⟨v5, rfl, q1, q2⟩
      obtain ⟨k5, n5, s5, a5, m5, cap5, rfl⟩ := q1.form
      have hsz5 := q2.size
      have hb5 : Below wr.heap.size wr w5 := q2
      have HF5 := hide_p (HF.out.far hb5)
      have hg5 := HF5.out.lt
      obtain ⟨f0, u0, c0⟩ := HF5.out.at HNT.out (i * 4) (by have := HNT.out; omega)
      obtain ⟨f1, u1, c1⟩ := HF5.out.at HNT.out (i * 4 + 1) (by have := HNT.out; omega)
      obtain ⟨f2, u2, c2⟩ := HF5.out.at HNT.out (i * 4 + 2) (by have := HNT.out; omega)
      obtain ⟨f3, u3, c3⟩ := HF5.out.at HNT.out (i * 4 + 3) (by have := HNT.out; omega)
      have HST : Hid (∀ W : World, W = (((w5.setCell ⟨w.heap.size + 1, i * 4, none⟩ (.int .i64 k5)).setCell ⟨w.heap.size + 1, i * 4 + 1, none⟩ (.int .u64 n5)).setCell ⟨w.heap.size + 1, i * 4 + 2, none⟩ (.string s5)).setCell ⟨w.heap.size + 1, i * 4 + 3, none⟩ (.slice a5 m5 cap5) → RowZ W (w.heap.size + 1) (.slice (some ⟨w.heap.size + 1, 0, none⟩) N N) ts (i + 1) ∧ Below (w.heap.size + 1) w1 W) := by
        intro W hW
        obtain ⟨ht1, ht2⟩ := HTI.out
        refine ⟨HF.out.step HNT.out ht1 ht2 hb5 (q1) hW, ?_⟩
        have : Below (w.heap.size + 1) w1 w5 := HB.out.trans (hb5.mono (by omega))
        rw [hW]
        exact (((this.setCell (Nat.le_refl _) _).setCell (Nat.le_refl _) _).setCell (Nat.le_refl _) _).setCell (Nat.le_refl _) _
      unfold cellV
      clear hcall q1 q2 hb5
      go_wp2
      obtain ⟨y1, y2⟩ := HST.out _ rfl
      go_roundw
      case rel => exact ⟨i + 1, by omega, by go_num, y1, y2⟩
      case measure => simp [intOf]; omega
    · have e : i = N := by omega
      subst e
      have hrc4 : Rc wr w.heap.size := (HB.out.block _ (by omega)).trans HRC.out
      have c0 := hrc4.cell 0
      have c1 := hrc4.cell 1
      have c2 := hrc4.cell 2
      have c3 := hrc4.cell 3
      have f0 := hrc4.free 0
      have f1 := hrc4.free 1
      have f2 := hrc4.free 2
      have f3 := hrc4.free 3
      have HE := hide_p (listCell_end HNT.out hrc4 HF.out HBw.out)
      clear hrc4
      go_wp2
      obtain ⟨y1, y2⟩ := HE.out _ rfl
      exact bodyPost_ret (results_cell_row rfl _ _ w.heap.size _ _ _ _ rfl y1 Tryd.underlying33 rfl info25) rfl y2


set_option maxHeartbeats 4000000 in
theorem listCellU_any (l : List Upp) (v : Value) (w : World) (h : SU w v l) (hlen : l.length ≤ 1000000)
    (hf : ∀ (p : Bool) (q : Int), i64 q → ∀ w', Calls Tryd.prog 25 #[.agg #[.bool p, .int .i64 q]] w' (Copd (upT ⟨p, q⟩) w')) :
    Calls Tryd.prog 24 #[v, .func (.func 25) #[] #[]] w (Copd (lisT (l.map upT)) w) := by
  obtain ⟨i0, hi0, hz0, hz1, hz2⟩ := info_parts info25b
  obtain ⟨a, cap, rfl, hl1, hl2, hl3⟩ := h.1.val
  unfold far at hl3
  obtain ⟨N, hN⟩ : ∃ N, N = l.length := ⟨_, rfl⟩
  have HN := hide_p hN
  rw [← hN] at hlen
  obtain ⟨ts, hts⟩ : ∃ ts, ts = l.map upT := ⟨_, rfl⟩
  have HTS := hide_p hts
  have HNT : Hid (N = ts.length) := by show _ = _; rw [hts, List.length_map]; exact hN
  rw [← hN] at hl1 hl3
  have HS : Hid (SU w (.slice a N cap) l) := by rw [hN]; exact h
  rw [← hN]
  have HX := (show Hid (∀ (p : Bool) (q : Int), i64 q → ∀ w', Calls Tryd.prog 25 #[.agg #[.bool p, .int .i64 q]] w' (Copd (upT ⟨p, q⟩) w')) from hf)
  clear hf
  rw [← hts]
  obtain ⟨w1, hw1⟩ : ∃ w1, w1 = w.alloc (.cells #[.int .i64 0, .int .u64 0, .string ⟨#[]⟩, .slice none 0 0] 33) := ⟨_, rfl⟩
  have HRC : Hid (Rc w1 w.heap.size) := by show Rc _ _; rw [hw1]; exact heap_alloc_new _ _
  have HB1 : Hid (Below w.heap.size w w1) := by show Below _ _ _; rw [hw1]; exact (Below.refl _ _).alloc (Nat.le_refl _) _
  have hs1 : w1.heap.size = w.heap.size + 1 := by rw [hw1]; simp
  have HM : Hid (∀ w2 xs, w2.ownsRow (w.heap.size + 1) 33 4 (.slice (some ⟨w.heap.size + 1, 0, none⟩) N N) N xs → w1.grownBy w2 none → RowZ w2 (w.heap.size + 1) (.slice (some ⟨w.heap.size + 1, 0, none⟩) N N) ts 0 ∧ Below (w.heap.size + 1) w1 w2) := by
    intro w2 xs q1 q2
    refine ⟨⟨xs, fun _ => 0, fun _ => 0, fun _ => nob, fun _ => .slice none 0 0, by rw [← HNT.out]; exact q1, ⟨fun i h => absurd h (Nat.not_lt_zero _), fun i h => absurd h (Nat.not_lt_zero _), fun i h => absurd h (Nat.not_lt_zero _), fun i h => absurd h (Nat.not_lt_zero _)⟩, fun j _ h => absurd h (Nat.not_lt_zero _)⟩, (Below.refl _ w1).grown q2 (by omega) (fun k hk => by cases hk)⟩
  clear h hN hts
  go_enter Tryd.func24, Tryd.ntmps24
  go_upto_region 1 with fail
  rw [← hw1]
  clear hw1
  go_wp2_with (at_make; refine wpList_make_full _ rfl _ _ 31 rfl (w.heap.size + 1) 33 i0 _ 4 Tryd.underlying31 hi0 hz0 hz1 .i64 .i64 _ _ N rfl rfl rfl rfl (by rw [hz2]; omega) (by unfold maxLen; omega) (by omega) ?_)
  intro w2 q1 q2
  obtain ⟨q3, q4⟩ := HM.out w2 _ q1 q2
  have HF2 := hide_p q3
  have HB2 := hide_p q4
  clear q1 q2 q3 q4 HM
  go_wp2_with fail
  go_loopw [13] (fun t13 wr => ∃ i : Nat, i ≤ N ∧ t13 = .int .i64 i ∧ Hid (RowZ wr (w.heap.size + 1) (.slice (some ⟨w.heap.size + 1, 0, none⟩) N N) ts i) ∧ Hid (Below (w.heap.size + 1) w1 wr)) (fun t13 _ => N - (intOf t13).toNat)
  case atStart => exact ⟨0, Nat.zero_le _, rfl, HF2, HB2⟩
  case round =>
    obtain ⟨i, hi, rfl, HF, HB⟩ := hrel
    have hszr := HB.out.size
    have HBw : Hid (Below w.heap.size w wr) := HB1.out.trans (HB.out.mono (by omega))
    clear HF2 HB2
    by_cases c : i < N
    · have i1 : i < l.length := by rw [← HN.out]; exact c
      have hbw := HBw.out
      obtain ⟨-, g, o, rfl, p, q, hel, hok, e0, e1⟩ := (HS.out.kept hbw (Nat.le_refl _)).get i1
      have hba := hbw.alloc HBw.out.size (.cells #[.bool p, .int .i64 q] 54)
      have hcall := HX.out p q hok (wr.alloc (.cells #[.bool p, .int .i64 q] 54))
      have hti : ∃ h : i < ts.length, ts[i] = upT ⟨p, q⟩ := by
        have e := HTS.out
        subst e
        exact ⟨by rw [List.length_map]; exact i1, by rw [List.getElem_map]; rw [hel]⟩
      have HTI := (show Hid (∃ h : i < ts.length, ts[i] = upT ⟨p, q⟩) from hti)
      clear hti
      clear hba hbw
      go_wp2_with fail
      refine hcall.mono ?_
      rintro e w5 ⟨v5, rfl, q1, q2⟩
      obtain ⟨k5, n5, s5, a5, m5, cap5, rfl⟩ := q1.form
      have hsz5 := q2.size
      have hb5 : Below wr.heap.size wr w5 := ((Below.refl _ wr).alloc (Nat.le_refl _) _).trans (q2.mono (by simp))
      have HF5 := hide_p (HF.out.far hb5)
      have hg5 := HF5.out.lt
      obtain ⟨f0, u0, c0⟩ := HF5.out.at HNT.out (i * 4) (by have := HNT.out; omega)
      obtain ⟨f1, u1, c1⟩ := HF5.out.at HNT.out (i * 4 + 1) (by have := HNT.out; omega)
      obtain ⟨f2, u2, c2⟩ := HF5.out.at HNT.out (i * 4 + 2) (by have := HNT.out; omega)
      obtain ⟨f3, u3, c3⟩ := HF5.out.at HNT.out (i * 4 + 3) (by have := HNT.out; omega)
      have HST : Hid (∀ W : World, W = (((w5.setCell ⟨w.heap.size + 1, i * 4, none⟩ (.int .i64 k5)).setCell ⟨w.heap.size + 1, i * 4 + 1, none⟩ (.int .u64 n5)).setCell ⟨w.heap.size + 1, i * 4 + 2, none⟩ (.string s5)).setCell ⟨w.heap.size + 1, i * 4 + 3, none⟩ (.slice a5 m5 cap5) → RowZ W (w.heap.size + 1) (.slice (some ⟨w.heap.size + 1, 0, none⟩) N N) ts (i + 1) ∧ Below (w.heap.size + 1) w1 W) := by
        intro W hW
        obtain ⟨ht1, ht2⟩ := HTI.out
        refine ⟨HF.out.step HNT.out ht1 ht2 hb5 (q1.widen (fun k hk => by simp only [World.size_alloc] at hk; omega)) hW, ?_⟩
        have : Below (w.heap.size + 1) w1 w5 := HB.out.trans (hb5.mono (by omega))
        rw [hW]
        exact (((this.setCell (Nat.le_refl _) _).setCell (Nat.le_refl _) _).setCell (Nat.le_refl _) _).setCell (Nat.le_refl _) _
      unfold cellV
      clear hcall q1 q2 hb5
      go_wp2
      obtain ⟨y1, y2⟩ := HST.out _ rfl
      go_roundw
      case rel => exact ⟨i + 1, by omega, by go_num, y1, y2⟩
      case measure => simp [intOf]; omega
    · have e : i = N := by omega
      subst e
      have hrc4 : Rc wr w.heap.size := (HB.out.block _ (by omega)).trans HRC.out
      have c0 := hrc4.cell 0
      have c1 := hrc4.cell 1
      have c2 := hrc4.cell 2
      have c3 := hrc4.cell 3
      have f0 := hrc4.free 0
      have f1 := hrc4.free 1
      have f2 := hrc4.free 2
      have f3 := hrc4.free 3
      have HE := hide_p (listCell_end HNT.out hrc4 HF.out HBw.out)
      clear hrc4
      go_wp2
      obtain ⟨y1, y2⟩ := HE.out _ rfl
      exact bodyPost_ret (results_cell_row rfl _ _ w.heap.size _ _ _ _ rfl y1 Tryd.underlying33 rfl info25) rfl y2


set_option maxHeartbeats 4000000 in
theorem listCellI_any (l : List Ins) (v : Value) (w : World) (h : SI w v l) (hlen : l.length ≤ 1000000)
    (hf : ∀ p q r s : Int, (i64 p ∧ i64 q ∧ i64 r ∧ i64 s) → ∀ w', Calls Tryd.prog 27 #[.agg #[.int .i64 p, .int .i64 q, .int .i64 r, .int .i64 s]] w' (Copd (insT ⟨p, q, r, s⟩) w')) :
    Calls Tryd.prog 26 #[v, .func (.func 27) #[] #[]] w (Copd (lisT (l.map insT)) w) := by
  obtain ⟨i0, hi0, hz0, hz1, hz2⟩ := info_parts info25b
  obtain ⟨a, cap, rfl, hl1, hl2, hl3⟩ := h.1.val
  unfold far at hl3
  obtain ⟨N, hN⟩ : ∃ N, N = l.length := ⟨_, rfl⟩
  have HN := hide_p hN
  rw [← hN] at hlen
  obtain ⟨ts, hts⟩ : ∃ ts, ts = l.map insT := ⟨_, rfl⟩
  have HTS := hide_p hts
  have HNT : Hid (N = ts.length) := by show _ = _; rw [hts, List.length_map]; exact hN
  rw [← hN] at hl1 hl3
  have HS : Hid (SI w (.slice a N cap) l) := by rw [hN]; exact h
  rw [← hN]
  have HX := (show Hid (∀ p q r s : Int, (i64 p ∧ i64 q ∧ i64 r ∧ i64 s) → ∀ w', Calls Tryd.prog 27 #[.agg #[.int .i64 p, .int .i64 q, .int .i64 r, .int .i64 s]] w' (Copd (insT ⟨p, q, r, s⟩) w')) from hf)
  clear hf
  rw [← hts]
  obtain ⟨w1, hw1⟩ : ∃ w1, w1 = w.alloc (.cells #[.int .i64 0, .int .u64 0, .string ⟨#[]⟩, .slice none 0 0] 33) := ⟨_, rfl⟩
  have HRC : Hid (Rc w1 w.heap.size) := by show Rc _ _; rw [hw1]; exact heap_alloc_new _ _
  have HB1 : Hid (Below w.heap.size w w1) := by show Below _ _ _; rw [hw1]; exact (Below.refl _ _).alloc (Nat.le_refl _) _
  have hs1 : w1.heap.size = w.heap.size + 1 := by rw [hw1]; simp
  have HM : Hid (∀ w2 xs, w2.ownsRow (w.heap.size + 1) 33 4 (.slice (some ⟨w.heap.size + 1, 0, none⟩) N N) N xs → w1.grownBy w2 none → RowZ w2 (w.heap.size + 1) (.slice (some ⟨w.heap.size + 1, 0, none⟩) N N) ts 0 ∧ Below (w.heap.size + 1) w1 w2) := by
    intro w2 xs q1 q2
    refine ⟨⟨xs, fun _ => 0, fun _ => 0, fun _ => nob, fun _ => .slice none 0 0, by rw [← HNT.out]; exact q1, ⟨fun i h => absurd h (Nat.not_lt_zero _), fun i h => absurd h (Nat.not_lt_zero _), fun i h => absurd h (Nat.not_lt_zero _), fun i h => absurd h (Nat.not_lt_zero _)⟩, fun j _ h => absurd h (Nat.not_lt_zero _)⟩, (Below.refl _ w1).grown q2 (by omega) (fun k hk => by cases hk)⟩
  clear h hN hts
  go_enter Tryd.func26, Tryd.ntmps26
  go_upto_region 1 with fail
  rw [← hw1]
  clear hw1
  go_wp2_with (at_make; refine wpList_make_full _ rfl _ _ 31 rfl (w.heap.size + 1) 33 i0 _ 4 Tryd.underlying31 hi0 hz0 hz1 .i64 .i64 _ _ N rfl rfl rfl rfl (by rw [hz2]; omega) (by unfold maxLen; omega) (by omega) ?_)
  intro w2 q1 q2
  obtain ⟨q3, q4⟩ := HM.out w2 _ q1 q2
  have HF2 := hide_p q3
  have HB2 := hide_p q4
  clear q1 q2 q3 q4 HM
  go_wp2_with fail
  go_loopw [13] (fun t13 wr => ∃ i : Nat, i ≤ N ∧ t13 = .int .i64 i ∧ Hid (RowZ wr (w.heap.size + 1) (.slice (some ⟨w.heap.size + 1, 0, none⟩) N N) ts i) ∧ Hid (Below (w.heap.size + 1) w1 wr)) (fun t13 _ => N - (intOf t13).toNat)
  case atStart => exact ⟨0, Nat.zero_le _, rfl, HF2, HB2⟩
  case round =>
    obtain ⟨i, hi, rfl, HF, HB⟩ := hrel
    have hszr := HB.out.size
    have HBw : Hid (Below w.heap.size w wr) := HB1.out.trans (HB.out.mono (by omega))
    clear HF2 HB2
    by_cases c : i < N
    · have i1 : i < l.length := by rw [← HN.out]; exact c
      have hbw := HBw.out
      obtain ⟨-, g, o, rfl, p, q, r, s, hel, hok, e0, e1, e2, e3⟩ := (HS.out.kept hbw (Nat.le_refl _)).get i1
      have hba := hbw.alloc HBw.out.size (.cells #[.int .i64 p, .int .i64 q, .int .i64 r, .int .i64 s] 58)
      have hcall := HX.out p q r s hok (wr.alloc (.cells #[.int .i64 p, .int .i64 q, .int .i64 r, .int .i64 s] 58))
      have hti : ∃ h : i < ts.length, ts[i] = insT ⟨p, q, r, s⟩ := by
        have e := HTS.out
        subst e
        exact ⟨by rw [List.length_map]; exact i1, by rw [List.getElem_map]; rw [hel]⟩
      have HTI := (show Hid (∃ h : i < ts.length, ts[i] = insT ⟨p, q, r, s⟩) from hti)
      clear hti
      clear hba hbw
      go_wp2_with fail
      refine hcall.mono ?_
      rintro e w5 ⟨v5, rfl, q1, q2⟩
      obtain ⟨k5, n5, s5, a5, m5, cap5, rfl⟩ := q1.form
      have hsz5 := q2.size
      have hb5 : Below wr.heap.size wr w5 := ((Below.refl _ wr).alloc (Nat.le_refl _) _).trans (q2.mono (by simp))
      have HF5 := hide_p (HF.out.far hb5)
      have hg5 := HF5.out.lt
      obtain ⟨f0, u0, c0⟩ := HF5.out.at HNT.out (i * 4) (by have := HNT.out; omega)
      obtain ⟨f1, u1, c1⟩ := HF5.out.at HNT.out (i * 4 + 1) (by have := HNT.out; omega)
      obtain ⟨f2, u2, c2⟩ := HF5.out.at HNT.out (i * 4 + 2) (by have := HNT.out; omega)
      obtain ⟨f3, u3, c3⟩ := HF5.out.at HNT.out (i * 4 + 3) (by have := HNT.out; omega)
      have HST : Hid (∀ W : World, W = (((w5.setCell ⟨w.heap.size + 1, i * 4, none⟩ (.int .i64 k5)).setCell ⟨w.heap.size + 1, i * 4 + 1, none⟩ (.int .u64 n5)).setCell ⟨w.heap.size + 1, i * 4 + 2, none⟩ (.string s5)).setCell ⟨w.heap.size + 1, i * 4 + 3, none⟩ (.slice a5 m5 cap5) → RowZ W (w.heap.size + 1) (.slice (some ⟨w.heap.size + 1, 0, none⟩) N N) ts (i + 1) ∧ Below (w.heap.size + 1) w1 W) := by
        intro W hW
        obtain ⟨ht1, ht2⟩ := HTI.out
        refine ⟨HF.out.step HNT.out ht1 ht2 hb5 (q1.widen (fun k hk => by simp only [World.size_alloc] at hk; omega)) hW, ?_⟩
        have : Below (w.heap.size + 1) w1 w5 := HB.out.trans (hb5.mono (by omega))
        rw [hW]
        exact (((this.setCell (Nat.le_refl _) _).setCell (Nat.le_refl _) _).setCell (Nat.le_refl _) _).setCell (Nat.le_refl _) _
      unfold cellV
      clear hcall q1 q2 hb5
      go_wp2
      obtain ⟨y1, y2⟩ := HST.out _ rfl
      go_roundw
      case rel => exact ⟨i + 1, by omega, by go_num, y1, y2⟩
      case measure => simp [intOf]; omega
    · have e : i = N := by omega
      subst e
      have hrc4 : Rc wr w.heap.size := (HB.out.block _ (by omega)).trans HRC.out
      have c0 := hrc4.cell 0
      have c1 := hrc4.cell 1
      have c2 := hrc4.cell 2
      have c3 := hrc4.cell 3
      have f0 := hrc4.free 0
      have f1 := hrc4.free 1
      have f2 := hrc4.free 2
      have f3 := hrc4.free 3
      have HE := hide_p (listCell_end HNT.out hrc4 HF.out HBw.out)
      clear hrc4
      go_wp2
      obtain ⟨y1, y2⟩ := HE.out _ rfl
      exact bodyPost_ret (results_cell_row rfl _ _ w.heap.size _ _ _ _ rfl y1 Tryd.underlying33 rfl info25) rfl y2


set_option maxHeartbeats 4000000 in
theorem listCellV_any (l : List Vl) (v : Value) (w : World) (h : SV w v l) (hlen : l.length ≤ 1000000)
    (hf : ∀ (p q : Int) (r : ByteArray) (s : Int), (i64 p ∧ (0 ≤ q ∧ q < 18446744073709551616) ∧ r.size ≤ far ∧ i64 s) → ∀ w', Calls Tryd.prog 29 #[.agg #[.int .i64 p, .int .u64 q, .string r, .int .i64 s]] w' (Copd (vlT ⟨p, q, r, s⟩) w')) :
    Calls Tryd.prog 28 #[v, .func (.func 29) #[] #[]] w (Copd (lisT (l.map vlT)) w) := by
  obtain ⟨i0, hi0, hz0, hz1, hz2⟩ := info_parts info25b
  obtain ⟨a, cap, rfl, hl1, hl2, hl3⟩ := h.1.val
  unfold far at hl3
  obtain ⟨N, hN⟩ : ∃ N, N = l.length := ⟨_, rfl⟩
  have HN := hide_p hN
  rw [← hN] at hlen
  obtain ⟨ts, hts⟩ : ∃ ts, ts = l.map vlT := ⟨_, rfl⟩
  have HTS := hide_p hts
  have HNT : Hid (N = ts.length) := by show _ = _; rw [hts, List.length_map]; exact hN
  rw [← hN] at hl1 hl3
  have HS : Hid (SV w (.slice a N cap) l) := by rw [hN]; exact h
  rw [← hN]
  have HX := (show Hid (∀ (p q : Int) (r : ByteArray) (s : Int), (i64 p ∧ (0 ≤ q ∧ q < 18446744073709551616) ∧ r.size ≤ far ∧ i64 s) → ∀ w', Calls Tryd.prog 29 #[.agg #[.int .i64 p, .int .u64 q, .string r, .int .i64 s]] w' (Copd (vlT ⟨p, q, r, s⟩) w')) from hf)
  clear hf
  rw [← hts]
  obtain ⟨w1, hw1⟩ : ∃ w1, w1 = w.alloc (.cells #[.int .i64 0, .int .u64 0, .string ⟨#[]⟩, .slice none 0 0] 33) := ⟨_, rfl⟩
  have HRC : Hid (Rc w1 w.heap.size) := by show Rc _ _; rw [hw1]; exact heap_alloc_new _ _
  have HB1 : Hid (Below w.heap.size w w1) := by show Below _ _ _; rw [hw1]; exact (Below.refl _ _).alloc (Nat.le_refl _) _
  have hs1 : w1.heap.size = w.heap.size + 1 := by rw [hw1]; simp
  have HM : Hid (∀ w2 xs, w2.ownsRow (w.heap.size + 1) 33 4 (.slice (some ⟨w.heap.size + 1, 0, none⟩) N N) N xs → w1.grownBy w2 none → RowZ w2 (w.heap.size + 1) (.slice (some ⟨w.heap.size + 1, 0, none⟩) N N) ts 0 ∧ Below (w.heap.size + 1) w1 w2) := by
    intro w2 xs q1 q2
    refine ⟨⟨xs, fun _ => 0, fun _ => 0, fun _ => nob, fun _ => .slice none 0 0, by rw [← HNT.out]; exact q1, ⟨fun i h => absurd h (Nat.not_lt_zero _), fun i h => absurd h (Nat.not_lt_zero _), fun i h => absurd h (Nat.not_lt_zero _), fun i h => absurd h (Nat.not_lt_zero _)⟩, fun j _ h => absurd h (Nat.not_lt_zero _)⟩, (Below.refl _ w1).grown q2 (by omega) (fun k hk => by cases hk)⟩
  clear h hN hts
  go_enter Tryd.func28, Tryd.ntmps28
  go_upto_region 1 with fail
  rw [← hw1]
  clear hw1
  go_wp2_with (at_make; refine wpList_make_full _ rfl _ _ 31 rfl (w.heap.size + 1) 33 i0 _ 4 Tryd.underlying31 hi0 hz0 hz1 .i64 .i64 _ _ N rfl rfl rfl rfl (by rw [hz2]; omega) (by unfold maxLen; omega) (by omega) ?_)
  intro w2 q1 q2
  obtain ⟨q3, q4⟩ := HM.out w2 _ q1 q2
  have HF2 := hide_p q3
  have HB2 := hide_p q4
  clear q1 q2 q3 q4 HM
  go_wp2_with fail
  go_loopw [13] (fun t13 wr => ∃ i : Nat, i ≤ N ∧ t13 = .int .i64 i ∧ Hid (RowZ wr (w.heap.size + 1) (.slice (some ⟨w.heap.size + 1, 0, none⟩) N N) ts i) ∧ Hid (Below (w.heap.size + 1) w1 wr)) (fun t13 _ => N - (intOf t13).toNat)
  case atStart => exact ⟨0, Nat.zero_le _, rfl, HF2, HB2⟩
  case round =>
    obtain ⟨i, hi, rfl, HF, HB⟩ := hrel
    have hszr := HB.out.size
    have HBw : Hid (Below w.heap.size w wr) := HB1.out.trans (HB.out.mono (by omega))
    clear HF2 HB2
    by_cases c : i < N
    · have i1 : i < l.length := by rw [← HN.out]; exact c
      have hbw := HBw.out
      obtain ⟨-, g, o, rfl, p, q, r, s, hel, hok, e0, e1, e2, e3⟩ := (HS.out.kept hbw (Nat.le_refl _)).get i1
      have hba := hbw.alloc HBw.out.size (.cells #[.int .i64 p, .int .u64 q, .string r, .int .i64 s] 63)
      have hcall := HX.out p q r s hok (wr.alloc (.cells #[.int .i64 p, .int .u64 q, .string r, .int .i64 s] 63))
      have hti : ∃ h : i < ts.length, ts[i] = vlT ⟨p, q, r, s⟩ := by
        have e := HTS.out
        subst e
        exact ⟨by rw [List.length_map]; exact i1, by rw [List.getElem_map]; rw [hel]⟩
      have HTI := (show Hid (∃ h : i < ts.length, ts[i] = vlT ⟨p, q, r, s⟩) from hti)
      clear hti
      clear hba hbw
      go_wp2_with fail
      refine hcall.mono ?_
      rintro e w5 ⟨v5, rfl, q1, q2⟩
      obtain ⟨k5, n5, s5, a5, m5, cap5, rfl⟩ := q1.form
      have hsz5 := q2.size
      have hb5 : Below wr.heap.size wr w5 := ((Below.refl _ wr).alloc (Nat.le_refl _) _).trans (q2.mono (by simp))
      have HF5 := hide_p (HF.out.far hb5)
      have hg5 := HF5.out.lt
      obtain ⟨f0, u0, c0⟩ := HF5.out.at HNT.out (i * 4) (by have := HNT.out; omega)
      obtain ⟨f1, u1, c1⟩ := HF5.out.at HNT.out (i * 4 + 1) (by have := HNT.out; omega)
      obtain ⟨f2, u2, c2⟩ := HF5.out.at HNT.out (i * 4 + 2) (by have := HNT.out; omega)
      obtain ⟨f3, u3, c3⟩ := HF5.out.at HNT.out (i * 4 + 3) (by have := HNT.out; omega)
      have HST : Hid (∀ W : World, W = (((w5.setCell ⟨w.heap.size + 1, i * 4, none⟩ (.int .i64 k5)).setCell ⟨w.heap.size + 1, i * 4 + 1, none⟩ (.int .u64 n5)).setCell ⟨w.heap.size + 1, i * 4 + 2, none⟩ (.string s5)).setCell ⟨w.heap.size + 1, i * 4 + 3, none⟩ (.slice a5 m5 cap5) → RowZ W (w.heap.size + 1) (.slice (some ⟨w.heap.size + 1, 0, none⟩) N N) ts (i + 1) ∧ Below (w.heap.size + 1) w1 W) := by
        intro W hW
        obtain ⟨ht1, ht2⟩ := HTI.out
        refine ⟨HF.out.step HNT.out ht1 ht2 hb5 (q1.widen (fun k hk => by simp only [World.size_alloc] at hk; omega)) hW, ?_⟩
        have : Below (w.heap.size + 1) w1 w5 := HB.out.trans (hb5.mono (by omega))
        rw [hW]
        exact (((this.setCell (Nat.le_refl _) _).setCell (Nat.le_refl _) _).setCell (Nat.le_refl _) _).setCell (Nat.le_refl _) _
      unfold cellV
      clear hcall q1 q2 hb5
      go_wp2
      obtain ⟨y1, y2⟩ := HST.out _ rfl
      go_roundw
      case rel => exact ⟨i + 1, by omega, by go_num, y1, y2⟩
      case measure => simp [intOf]; omega
    · have e : i = N := by omega
      subst e
      have hrc4 : Rc wr w.heap.size := (HB.out.block _ (by omega)).trans HRC.out
      have c0 := hrc4.cell 0
      have c1 := hrc4.cell 1
      have c2 := hrc4.cell 2
      have c3 := hrc4.cell 3
      have f0 := hrc4.free 0
      have f1 := hrc4.free 1
      have f2 := hrc4.free 2
      have f3 := hrc4.free 3
      have HE := hide_p (listCell_end HNT.out hrc4 HF.out HBw.out)
      clear hrc4
      go_wp2
      obtain ⟨y1, y2⟩ := HE.out _ rfl
      exact bodyPost_ret (results_cell_row rfl _ _ w.heap.size _ _ _ _ rfl y1 Tryd.underlying33 rfl info25) rfl y2


set_option maxHeartbeats 4000000 in
theorem listCellP_any (ps : List Pr) (f : Nat → Six) (v : Value) (W w : World) (h : SL W v ps.length 6 (fun i j u => u = (f i).at j)) (hW : Below W.heap.size W w) (hlen : ps.length ≤ 1000000) (hp : ∀ i (hi : i < ps.length), PR W ps[i] (f i))
    (hf : ∀ i (hi : i < ps.length), ∀ w', Below W.heap.size W w' → Calls Tryd.prog 7 #[(f i).v] w' (Copd (cellT ps[i]) w')) :
    Calls Tryd.prog 30 #[v, .func (.func 7) #[] #[]] w (Copd (lisT (ps.map cellT)) w) := by
  obtain ⟨i0, hi0, hz0, hz1, hz2⟩ := info_parts info25b
  obtain ⟨a, cap, rfl, hl1, hl2, hl3⟩ := h.val
  unfold far at hl3
  obtain ⟨N, hN⟩ : ∃ N, N = ps.length := ⟨_, rfl⟩
  have HN := hide_p hN
  rw [← hN] at hlen
  obtain ⟨ts, hts⟩ : ∃ ts, ts = ps.map cellT := ⟨_, rfl⟩
  have HTS := hide_p hts
  have HNT : Hid (N = ts.length) := by show _ = _; rw [hts, List.length_map]; exact hN
  rw [← hN] at hl1 hl3 h
  have HS : Hid (SL W (.slice a N cap) N 6 (fun i j u => u = (f i).at j)) := h
  rw [← hN]
  have HHW := hide_p hW
  have HX := (show Hid (∀ i (hi : i < ps.length), ∀ w', Below W.heap.size W w' → Calls Tryd.prog 7 #[(f i).v] w' (Copd (cellT ps[i]) w')) from hf)
  have HPF := (show Hid (∀ i (hi : i < ps.length), PR W ps[i] (f i)) from hp)
  clear hf hW hp
  rw [← hts]
  obtain ⟨w1, hw1⟩ : ∃ w1, w1 = w.alloc (.cells #[.int .i64 0, .int .u64 0, .string ⟨#[]⟩, .slice none 0 0] 33) := ⟨_, rfl⟩
  have HRC : Hid (Rc w1 w.heap.size) := by show Rc _ _; rw [hw1]; exact heap_alloc_new _ _
  have HB1 : Hid (Below w.heap.size w w1) := by show Below _ _ _; rw [hw1]; exact (Below.refl _ _).alloc (Nat.le_refl _) _
  have hs1 : w1.heap.size = w.heap.size + 1 := by rw [hw1]; simp
  have HM : Hid (∀ w2 xs, w2.ownsRow (w.heap.size + 1) 33 4 (.slice (some ⟨w.heap.size + 1, 0, none⟩) N N) N xs → w1.grownBy w2 none → RowZ w2 (w.heap.size + 1) (.slice (some ⟨w.heap.size + 1, 0, none⟩) N N) ts 0 ∧ Below (w.heap.size + 1) w1 w2) := by
    intro w2 xs q1 q2
    refine ⟨⟨xs, fun _ => 0, fun _ => 0, fun _ => nob, fun _ => .slice none 0 0, by rw [← HNT.out]; exact q1, ⟨fun i h => absurd h (Nat.not_lt_zero _), fun i h => absurd h (Nat.not_lt_zero _), fun i h => absurd h (Nat.not_lt_zero _), fun i h => absurd h (Nat.not_lt_zero _)⟩, fun j _ h => absurd h (Nat.not_lt_zero _)⟩, (Below.refl _ w1).grown q2 (by omega) (fun k hk => by cases hk)⟩
  clear h hN hts
  go_enter Tryd.func30, Tryd.ntmps30
  go_upto_region 1 with fail
  rw [← hw1]
  clear hw1
  go_wp2_with (at_make; refine wpList_make_full _ rfl _ _ 31 rfl (w.heap.size + 1) 33 i0 _ 4 Tryd.underlying31 hi0 hz0 hz1 .i64 .i64 _ _ N rfl rfl rfl rfl (by rw [hz2]; omega) (by unfold maxLen; omega) (by omega) ?_)
  intro w2 q1 q2
  obtain ⟨q3, q4⟩ := HM.out w2 _ q1 q2
  have HF2 := hide_p q3
  have HB2 := hide_p q4
  clear q1 q2 q3 q4 HM
  go_wp2_with fail
  go_loopw [13] (fun t13 wr => ∃ i : Nat, i ≤ N ∧ t13 = .int .i64 i ∧ Hid (RowZ wr (w.heap.size + 1) (.slice (some ⟨w.heap.size + 1, 0, none⟩) N N) ts i) ∧ Hid (Below (w.heap.size + 1) w1 wr)) (fun t13 _ => N - (intOf t13).toNat)
  case atStart => exact ⟨0, Nat.zero_le _, rfl, HF2, HB2⟩
  case round =>
    obtain ⟨i, hi, rfl, HF, HB⟩ := hrel
    have hszr := HB.out.size
    have HBw : Hid (Below w.heap.size w wr) := HB1.out.trans (HB.out.mono (by omega))
    clear HF2 HB2
    by_cases c : i < N
    · have i1 : i < ps.length := by rw [← HN.out]; exact c
      have hbw := HBw.out
      have hbW : Below W.heap.size W wr := HHW.out.trans (hbw.mono HHW.out.size)
      obtain ⟨-, g, o, rfl, e0, e1, e2, e3, e4, e5⟩ := SP.get (HS.out.kept hbW (Nat.le_refl _)) c
      have hx0 := HX.out i i1
      have hsf := six_form (PR.prs _ _ (HPF.out i i1))
      have hti : ∃ h : i < ts.length, ts[i] = cellT ps[i] := by
        have e := HTS.out
        subst e
        exact ⟨by rw [List.length_map]; exact i1, by rw [List.getElem_map]⟩
      have HTI := (show Hid (∃ h : i < ts.length, ts[i] = cellT ps[i]) from hti)
      clear hti
      unfold Six.v at hx0
      generalize f i = y at *
      obtain ⟨ypa, yrg, yu, yc, yk, yp⟩ := y
      simp only at e0 e1 e2 e3 e4 e5 hx0 hsf
      obtain ⟨b1, o1, r1, b2, o2, r2, b3, o3, r3, b4, o4, r4, rfl, rfl, rfl, rfl⟩ := hsf
      have hcall := hx0 (wr.alloc (.cells #[.int .i64 ypa, .int .i64 yrg, .slice b1 o1 r1, .slice b2 o2 r2, .slice b3 o3 r3, .slice b4 o4 r4] 27)) (hbW.alloc hbW.size _)
      generalize cellT ps[i] = ct at *
      clear hx0 hbW
      clear hbw
      go_wp2_with fail
      refine hcall.mono ?_
      rintro e w5 ⟨v5, rfl, q1, q2⟩
      obtain ⟨k5, n5, s5, a5, m5, cap5, rfl⟩ := q1.form
      have hsz5 := q2.size
      have hb5 : Below wr.heap.size wr w5 := ((Below.refl _ wr).alloc (Nat.le_refl _) _).trans (q2.mono (by simp))
      have HF5 := hide_p (HF.out.far hb5)
      have hg5 := HF5.out.lt
      obtain ⟨f0, u0, c0⟩ := HF5.out.at HNT.out (i * 4) (by have := HNT.out; omega)
      obtain ⟨f1, u1, c1⟩ := HF5.out.at HNT.out (i * 4 + 1) (by have := HNT.out; omega)
      obtain ⟨f2, u2, c2⟩ := HF5.out.at HNT.out (i * 4 + 2) (by have := HNT.out; omega)
      obtain ⟨f3, u3, c3⟩ := HF5.out.at HNT.out (i * 4 + 3) (by have := HNT.out; omega)
      have HST : Hid (∀ W : World, W = (((w5.setCell ⟨w.heap.size + 1, i * 4, none⟩ (.int .i64 k5)).setCell ⟨w.heap.size + 1, i * 4 + 1, none⟩ (.int .u64 n5)).setCell ⟨w.heap.size + 1, i * 4 + 2, none⟩ (.string s5)).setCell ⟨w.heap.size + 1, i * 4 + 3, none⟩ (.slice a5 m5 cap5) → RowZ W (w.heap.size + 1) (.slice (some ⟨w.heap.size + 1, 0, none⟩) N N) ts (i + 1) ∧ Below (w.heap.size + 1) w1 W) := by
        intro W hW
        obtain ⟨ht1, ht2⟩ := HTI.out
        refine ⟨HF.out.step HNT.out ht1 ht2 hb5 (q1.widen (fun k hk => by simp only [World.size_alloc] at hk; omega)) hW, ?_⟩
        have : Below (w.heap.size + 1) w1 w5 := HB.out.trans (hb5.mono (by omega))
        rw [hW]
        exact (((this.setCell (Nat.le_refl _) _).setCell (Nat.le_refl _) _).setCell (Nat.le_refl _) _).setCell (Nat.le_refl _) _
      unfold cellV
      clear hcall q1 q2 hb5
      go_wp2
      obtain ⟨y1, y2⟩ := HST.out _ rfl
      go_roundw
      case rel => exact ⟨i + 1, by omega, by go_num, y1, y2⟩
      case measure => simp [intOf]; omega
    · have e : i = N := by omega
      subst e
      have hrc4 : Rc wr w.heap.size := (HB.out.block _ (by omega)).trans HRC.out
      have c0 := hrc4.cell 0
      have c1 := hrc4.cell 1
      have c2 := hrc4.cell 2
      have c3 := hrc4.cell 3
      have f0 := hrc4.free 0
      have f1 := hrc4.free 1
      have f2 := hrc4.free 2
      have f3 := hrc4.free 3
      have HE := hide_p (listCell_end HNT.out hrc4 HF.out HBw.out)
      clear hrc4
      go_wp2
      obtain ⟨y1, y2⟩ := HE.out _ rfl
      exact bodyPost_ret (results_cell_row rfl _ _ w.heap.size _ _ _ _ rfl y1 Tryd.underlying33 rfl info25) rfl y2

end Go.Proofs.YtcblknghkgihcaaDoor
namespace Go.Proofs.YtcblknghkgihcaaDoor
set_option maxRecDepth 100000
open Go.RowKit Crc Pg

theorem retCell {w w5 : World} {b B : Nat} {t : Tr} {k : Int} {n : Nat} {s : ByteArray} {u x0 x1 x2 x3 : Value} (hblk : w5.heap[b]? = some (.cells #[x0, x1, x2, x3] 33 (0, 0))) (hw : w.heap.size ≤ b) (hB : b < B) (hc : CS w5 (fun k => B ≤ k) t (cellV k n s u)) (hb : Below w.heap.size w w5) (W : World)
    (hW : W = (((w5.setCell ⟨b, 0, none⟩ (.int .i64 k)).setCell ⟨b, 1, none⟩ (.int .u64 n)).setCell ⟨b, 2, none⟩ (.string s)).setCell ⟨b, 3, none⟩ u) :
    W.heap[b]? = some (.cells #[.int .i64 k, .int .u64 n, .string s, u] 33 (0, 0)) ∧ Copd t w (.returned (.agg #[.int .i64 k, .int .u64 n, .string s, u])) W := by
  subst hW
  refine ⟨set4_block hblk _ _ _ _, _, rfl, ?_, set4_below hb hw _ _ _ _⟩
  exact (hc.kept (fun q hq => set4_other (by omega) _ _ _ _)).widen (fun q hq => by omega)
theorem nums2 (w : World) (a b : Int) (T : TypeId) : Nums (w.alloc (.cells #[.int .i64 a, .int .i64 b] T)) (.slice (some ⟨w.heap.size, 0, none⟩) 2 2) [a, b] :=
  ⟨w.heap.size, 2, rfl, fun i hi => by
    rw [World.cell?_alloc_new]
    match i, hi with
    | 0, _ => rfl
    | 1, _ => rfl⟩
theorem nums4 (w : World) (a b c d : Int) (T : TypeId) : Nums (w.alloc (.cells #[.int .i64 a, .int .i64 b, .int .i64 c, .int .i64 d] T)) (.slice (some ⟨w.heap.size, 0, none⟩) 4 4) [a, b, c, d] :=
  ⟨w.heap.size, 4, rfl, fun i hi => by
    rw [World.cell?_alloc_new]
    match i, hi with
    | 0, _ => rfl
    | 1, _ => rfl
    | 2, _ => rfl
    | 3, _ => rfl⟩

theorem list2 (w1 : World) (a b : Int) : Calls Tryd.prog 44 #[.slice (some ⟨w1.heap.size, 0, none⟩) 2 2, .func (.func 23) #[] #[]] (w1.alloc (.cells #[.int .i64 a, .int .i64 b] 3)) (Copd (lisT [numT a, numT b]) (w1.alloc (.cells #[.int .i64 a, .int .i64 b] 3))) := by
  have hl : [a, b].length ≤ 1000000 := by rw [List.length_cons, List.length_cons, List.length_nil]; decide
  have h := listCellN_any [a, b] _ _ (nums2 w1 a b 3) hl
  rw [List.map_cons, List.map_cons, List.map_nil] at h
  exact h
theorem list4 (w1 : World) (a b c d : Int) : Calls Tryd.prog 44 #[.slice (some ⟨w1.heap.size, 0, none⟩) 4 4, .func (.func 23) #[] #[]] (w1.alloc (.cells #[.int .i64 a, .int .i64 b, .int .i64 c, .int .i64 d] 3)) (Copd (lisT [numT a, numT b, numT c, numT d]) (w1.alloc (.cells #[.int .i64 a, .int .i64 b, .int .i64 c, .int .i64 d] 3))) := by
  have hl : [a, b, c, d].length ≤ 1000000 := by rw [List.length_cons, List.length_cons, List.length_cons, List.length_cons, List.length_nil]; decide
  have h := listCellN_any [a, b, c, d] _ _ (nums4 w1 a b c d 3) hl
  rw [List.map_cons, List.map_cons, List.map_cons, List.map_cons, List.map_nil] at h
  exact h

set_option maxHeartbeats 1000000 in
theorem upCell_any (p : Bool) (q : Int) (w : World) : Calls Tryd.prog 25 #[.agg #[.bool p, .int .i64 q]] w (Copd (upT ⟨p, q⟩) w) := by
  obtain ⟨w1, hw1⟩ : ∃ w1, w1 = (w.alloc (.cells #[.bool p, .int .i64 q] 54)).alloc (.cells #[.int .i64 0, .int .u64 0, .string ⟨#[]⟩, .slice none 0 0] 33) := ⟨_, rfl⟩
  have hs1 : w1.heap.size = w.heap.size + 2 := by rw [hw1]; simp
  have HB1 : Hid (Below w.heap.size w w1) := by show Below _ _ _; rw [hw1]; exact ((Below.refl _ _).alloc (Nat.le_refl _) _).alloc (by simp) _
  have HA1 : Hid (w1.heap[w.heap.size + 1]? = some (.cells #[.int .i64 0, .int .u64 0, .string ⟨#[]⟩, .slice none 0 0] 33 (0, 0))) := by show _ = _; rw [hw1]; exact heap_alloc_at _ _ _ (by simp)
  have G : ∀ j, w1.cell? ⟨w.heap.size, j, none⟩ = (#[.bool p, .int .i64 q] : Array Value)[j]? := by
    intro j
    rw [hw1, World.cell?_alloc_lt _ _ _ (by simp), World.cell?_alloc_new]
  have x0 : w1.cell? ⟨w.heap.size, 0, none⟩ = some (.bool p) := G 0
  have x1 : w1.cell? ⟨w.heap.size, 1, none⟩ = some (.int .i64 q) := G 1
  have HL : Hid (∀ a b, Calls Tryd.prog 44 #[.slice (some ⟨w.heap.size + 2, 0, none⟩) 2 2, .func (.func 23) #[] #[]] (w1.alloc (.cells #[.int .i64 a, .int .i64 b] 3)) (Copd (lisT [numT a, numT b]) (w1.alloc (.cells #[.int .i64 a, .int .i64 b] 3)))) := by rw [← hs1]; exact list2 w1
  have HE : Hid (∀ (a b : Int) (w5 : World) (k : Int) (n : Nat) (s : ByteArray) (u : Value), CS w5 (fun k => (w1.alloc (.cells #[.int .i64 a, .int .i64 b] 3)).heap.size ≤ k) (lisT [numT a, numT b]) (cellV k n s u) → Below (w1.alloc (.cells #[.int .i64 a, .int .i64 b] 3)).heap.size (w1.alloc (.cells #[.int .i64 a, .int .i64 b] 3)) w5 →
      w5.heap[w.heap.size + 1]? = some (.cells #[.int .i64 0, .int .u64 0, .string ⟨#[]⟩, .slice none 0 0] 33 (0, 0)) ∧ ∀ W, W = (((w5.setCell ⟨w.heap.size + 1, 0, none⟩ (.int .i64 k)).setCell ⟨w.heap.size + 1, 1, none⟩ (.int .u64 n)).setCell ⟨w.heap.size + 1, 2, none⟩ (.string s)).setCell ⟨w.heap.size + 1, 3, none⟩ u →
      W.heap[w.heap.size + 1]? = some (.cells #[.int .i64 k, .int .u64 n, .string s, u] 33 (0, 0)) ∧ Copd (lisT [numT a, numT b]) w (.returned (.agg #[.int .i64 k, .int .u64 n, .string s, u])) W) := by
    intro a b w5 k n s u q1 q2
    have hb5 : Below w1.heap.size w1 w5 := ((Below.refl _ _).alloc (Nat.le_refl _) _).trans (q2.mono (by simp))
    have e := (hb5.block (w.heap.size + 1) (by omega)).trans HA1.out
    exact ⟨e, fun W hW => retCell e (by omega) (by simp; omega) q1 (HB1.out.trans (hb5.mono (by omega))) W hW⟩
  clear G
  cases p with
  | false =>
    have ht : upT ⟨false, q⟩ = lisT [numT 0, numT q] := rfl
    rw [ht]
    clear ht
    go_enter Tryd.func25, Tryd.ntmps25
    go_upto_region 1 with fail
    rw [← hw1]
    clear hw1
    go_wp2_with fail
    refine (HL.out 0 q).mono ?_
    rintro e w5 ⟨v5, rfl, q1, q2⟩
    obtain ⟨k5, n5, s5, a5, m5, cap5, rfl⟩ := q1.form
    obtain ⟨y0, y1⟩ := HE.out _ _ _ _ _ _ _ q1 q2
    have HY := hide_p y1
    obtain ⟨c0, c1, c2, c3⟩ := block4 y0
    have fz := Lib.frozen_of_heap y0
    have f0 := fz 0
    have f1 := fz 1
    have f2 := fz 2
    have f3 := fz 3
    unfold cellV
    clear q1 q2 y0 y1 fz HE HL
    go_wp2
    obtain ⟨z1, z2⟩ := HY.out _ rfl
    exact bodyPost_ret (results_cell_row rfl _ _ (w.heap.size + 1) _ _ _ _ rfl z1 Tryd.underlying33 rfl info25) rfl z2
  | true =>
    have ht : upT ⟨true, q⟩ = lisT [numT 1, numT q] := rfl
    rw [ht]
    clear ht
    go_enter Tryd.func25, Tryd.ntmps25
    go_upto_region 1 with fail
    rw [← hw1]
    clear hw1
    go_wp2_with fail
    refine (HL.out 1 q).mono ?_
    rintro e w5 ⟨v5, rfl, q1, q2⟩
    obtain ⟨k5, n5, s5, a5, m5, cap5, rfl⟩ := q1.form
    obtain ⟨y0, y1⟩ := HE.out _ _ _ _ _ _ _ q1 q2
    have HY := hide_p y1
    obtain ⟨c0, c1, c2, c3⟩ := block4 y0
    have fz := Lib.frozen_of_heap y0
    have f0 := fz 0
    have f1 := fz 1
    have f2 := fz 2
    have f3 := fz 3
    unfold cellV
    clear q1 q2 y0 y1 fz HE HL
    go_wp2
    obtain ⟨z1, z2⟩ := HY.out _ rfl
    exact bodyPost_ret (results_cell_row rfl _ _ (w.heap.size + 1) _ _ _ _ rfl z1 Tryd.underlying33 rfl info25) rfl z2

set_option maxHeartbeats 1000000 in
theorem orderCell_any (p q r s : Int) (w : World) : Calls Tryd.prog 27 #[.agg #[.int .i64 p, .int .i64 q, .int .i64 r, .int .i64 s]] w (Copd (insT ⟨p, q, r, s⟩) w) := by
  obtain ⟨w1, hw1⟩ : ∃ w1, w1 = (w.alloc (.cells #[.int .i64 p, .int .i64 q, .int .i64 r, .int .i64 s] 58)).alloc (.cells #[.int .i64 0, .int .u64 0, .string ⟨#[]⟩, .slice none 0 0] 33) := ⟨_, rfl⟩
  have hs1 : w1.heap.size = w.heap.size + 2 := by rw [hw1]; simp
  have HB1 : Hid (Below w.heap.size w w1) := by show Below _ _ _; rw [hw1]; exact ((Below.refl _ _).alloc (Nat.le_refl _) _).alloc (by simp) _
  have HA1 : Hid (w1.heap[w.heap.size + 1]? = some (.cells #[.int .i64 0, .int .u64 0, .string ⟨#[]⟩, .slice none 0 0] 33 (0, 0))) := by show _ = _; rw [hw1]; exact heap_alloc_at _ _ _ (by simp)
  have G : ∀ j, w1.cell? ⟨w.heap.size, j, none⟩ = (#[.int .i64 p, .int .i64 q, .int .i64 r, .int .i64 s] : Array Value)[j]? := by
    intro j
    rw [hw1, World.cell?_alloc_lt _ _ _ (by simp), World.cell?_alloc_new]
  have x0 : w1.cell? ⟨w.heap.size, 0, none⟩ = some (.int .i64 p) := G 0
  have x1 : w1.cell? ⟨w.heap.size, 1, none⟩ = some (.int .i64 q) := G 1
  have x2 : w1.cell? ⟨w.heap.size, 2, none⟩ = some (.int .i64 r) := G 2
  have x3 : w1.cell? ⟨w.heap.size, 3, none⟩ = some (.int .i64 s) := G 3
  have HL : Hid (Calls Tryd.prog 44 #[.slice (some ⟨w.heap.size + 2, 0, none⟩) 4 4, .func (.func 23) #[] #[]] (w1.alloc (.cells #[.int .i64 p, .int .i64 q, .int .i64 r, .int .i64 s] 3)) (Copd (lisT [numT p, numT q, numT r, numT s]) (w1.alloc (.cells #[.int .i64 p, .int .i64 q, .int .i64 r, .int .i64 s] 3)))) := by rw [← hs1]; exact list4 w1 p q r s
  have HBA : Hid (∀ o, Below w1.heap.size w1 (w1.alloc o)) := fun o => (Below.refl _ _).alloc (Nat.le_refl _) _
  show Calls _ _ _ _ (Copd (lisT [numT p, numT q, numT r, numT s]) w)
  clear G
  go_enter Tryd.func27, Tryd.ntmps27
  go_upto_region 1 with fail
  rw [← hw1]
  clear hw1
  go_wp2_with fail
  refine HL.out.mono ?_
  rintro e w5 ⟨v5, rfl, q1, q2⟩
  obtain ⟨k5, n5, s5, a5, m5, cap5, rfl⟩ := q1.form
  have hb5 : Below w1.heap.size w1 w5 := (HBA.out _).trans (q2.mono (by simp))
  have y0 := (hb5.block (w.heap.size + 1) (by omega)).trans HA1.out
  have HY := hide_p (retCell y0 (w := w) (by omega) (by simp; omega) q1 (HB1.out.trans (hb5.mono (by omega))))
  obtain ⟨c0, c1, c2, c3⟩ := block4 y0
  have fz := Lib.frozen_of_heap y0
  have f0 := fz 0
  have f1 := fz 1
  have f2 := fz 2
  have f3 := fz 3
  unfold cellV
  clear q1 q2 y0 fz HL hb5
  go_wp2
  obtain ⟨z1, z2⟩ := HY.out _ rfl
  exact bodyPost_ret (results_cell_row rfl _ _ (w.heap.size + 1) _ _ _ _ rfl z1 Tryd.underlying33 rfl info25) rfl z2

theorem cp_num (n : Nat) : cpT (.mk 0 n nob []) = .mk 0 n nob [] := by rw [cpT_mk]; simp [nob]
theorem cp_txt (s : ByteArray) : cpT (.mk 1 0 s []) = .mk 1 0 s [] := by rw [cpT_mk]; simp
theorem clist1 (p : Int) (w4 : World) : Calls Tryd.prog 45 #[.slice (some ⟨w4.heap.size, 0, none⟩) 1 1] (w4.alloc (.cells #[.int .i64 0, .int .u64 (uw p), .string nob, .slice none 0 0] 33))
    (Copd (lisT [numT p]) (w4.alloc (.cells #[.int .i64 0, .int .u64 (uw p), .string nob, .slice none 0 0] 33))) := by
  have h := list_any [numT p] (some ⟨w4.heap.size, 0, none⟩) 1 2 0 nob (w4.alloc (.cells #[.int .i64 0, .int .u64 (uw p), .string nob, .slice none 0 0] 33)) (by unfold numT; rw [cnts_cons, Tr.cnt_mk, cnts_nil]; decide)
    (CS.cr (cs_block (S := fun _ => True) (l := [nq p]) (heap_alloc_new w4 _) rfl rfl (Nat.le_refl 1) (by decide) trivial (fun i hi => by
      match i, hi with
      | 0, _ => exact cs_numT p)))
  unfold numT at h ⊢
  rw [List.map_cons, List.map_nil, cp_num] at h
  exact h
theorem clist2 (p : Int) (k : Int) (n : Nat) (s : ByteArray) (w4 : World) (h : k = 0 ∧ s = nob ∧ n < 18446744073709551616 ∨ k = 1 ∧ n = 0 ∧ s.size ≤ 9223372036854775807) :
    Calls Tryd.prog 45 #[.slice (some ⟨w4.heap.size, 0, none⟩) 2 2] (w4.alloc (.cells #[.int .i64 0, .int .u64 (uw p), .string nob, .slice none 0 0, .int .i64 k, .int .u64 n, .string s, .slice none 0 0] 33))
    (Copd (lisT [numT p, .mk k n s []]) (w4.alloc (.cells #[.int .i64 0, .int .u64 (uw p), .string nob, .slice none 0 0, .int .i64 k, .int .u64 n, .string s, .slice none 0 0] 33))) := by
  have hl := list_any [numT p, .mk k n s []] (some ⟨w4.heap.size, 0, none⟩) 2 2 0 nob (w4.alloc (.cells #[.int .i64 0, .int .u64 (uw p), .string nob, .slice none 0 0, .int .i64 k, .int .u64 n, .string s, .slice none 0 0] 33)) (by unfold numT; rw [cnts_cons, cnts_cons, Tr.cnt_mk, Tr.cnt_mk, cnts_nil]; decide)
    (CS.cr (cs_block (S := fun _ => True) (l := [nq p, ⟨k, n, s, .slice none 0 0⟩]) (heap_alloc_new w4 _) rfl rfl (Nat.le_refl 2) (by decide) trivial (fun i hi => by
      match i, hi with
      | 0, _ => exact cs_numT p
      | 1, _ =>
        rcases h with ⟨rfl, rfl, h⟩ | ⟨rfl, rfl, h⟩
        · exact cs_num n h
        · exact cs_txt s h)))
  unfold numT at hl ⊢
  have e : cpT (.mk k n s []) = .mk k n s [] := by
    rcases h with ⟨rfl, rfl, -⟩ | ⟨rfl, rfl, -⟩
    · exact cp_num n
    · exact cp_txt s
  rw [List.map_cons, List.map_cons, List.map_nil, cp_num, e] at hl
  exact hl

theorem keep8k {W w' : World} {A B : Nat} {u0 u1 u2 u3 z0 z1 z2 z3 : Value} (h : W.cell? ⟨A, 0, none⟩ = some u0 ∧ W.cell? ⟨A, 1, none⟩ = some u1 ∧ W.cell? ⟨A, 2, none⟩ = some u2 ∧ W.cell? ⟨A, 3, none⟩ = some u3 ∧ W.cell? ⟨B, 0, none⟩ = some z0 ∧ W.cell? ⟨B, 1, none⟩ = some z1 ∧ W.cell? ⟨B, 2, none⟩ = some z2 ∧ W.cell? ⟨B, 3, none⟩ = some z3) (k : Below W.heap.size W w') :
    w'.cell? ⟨A, 0, none⟩ = some u0 ∧ w'.cell? ⟨A, 1, none⟩ = some u1 ∧ w'.cell? ⟨A, 2, none⟩ = some u2 ∧ w'.cell? ⟨A, 3, none⟩ = some u3 ∧ w'.cell? ⟨B, 0, none⟩ = some z0 ∧ w'.cell? ⟨B, 1, none⟩ = some z1 ∧ w'.cell? ⟨B, 2, none⟩ = some z2 ∧ w'.cell? ⟨B, 3, none⟩ = some z3 := by
  obtain ⟨h0, h1, h2, h3, g0, g1, g2, g3⟩ := h
  exact ⟨cell_kept k (Nat.le_refl _) h0, cell_kept k (Nat.le_refl _) h1, cell_kept k (Nat.le_refl _) h2, cell_kept k (Nat.le_refl _) h3, cell_kept k (Nat.le_refl _) g0, cell_kept k (Nat.le_refl _) g1, cell_kept k (Nat.le_refl _) g2, cell_kept k (Nat.le_refl _) g3⟩

set_option maxHeartbeats 4000000 in
theorem constantCell_any (p q : Int) (r : ByteArray) (s : Int) (hq : 0 ≤ q ∧ q < 18446744073709551616) (hr : r.size ≤ far) (w : World) :
    Calls Tryd.prog 29 #[.agg #[.int .i64 p, .int .u64 q, .string r, .int .i64 s]] w (Copd (vlT ⟨p, q, r, s⟩) w) := by
  obtain ⟨qn, rfl⟩ : ∃ n : Nat, q = n := ⟨q.toNat, by omega⟩
  have hqn : qn < 18446744073709551616 := by omega
  have hr2 : r.size ≤ 9223372036854775807 := by unfold far at hr; omega
  obtain ⟨w1, hw1⟩ : ∃ w1, w1 = (w.alloc (.cells #[.int .i64 p, .int .u64 (qn : Int), .string r, .int .i64 s] 63)).alloc (.cells #[.int .i64 0, .int .u64 0, .string ⟨#[]⟩, .slice none 0 0] 33) := ⟨_, rfl⟩
  have hs1 : w1.heap.size = w.heap.size + 2 := by rw [hw1]; simp
  have HB1 : Hid (Below w.heap.size w w1) := by show Below _ _ _; rw [hw1]; exact ((Below.refl _ _).alloc (Nat.le_refl _) _).alloc (by simp) _
  have HA1 : Hid (w1.heap[w.heap.size]? = some (.cells #[.int .i64 p, .int .u64 (qn : Int), .string r, .int .i64 s] 63 (0, 0)) ∧ w1.heap[w.heap.size + 1]? = some (.cells #[.int .i64 0, .int .u64 0, .string ⟨#[]⟩, .slice none 0 0] 33 (0, 0))) := by
    show _ ∧ _
    rw [hw1]
    exact ⟨by rw [Below.heap_alloc _ _ _ (by simp)]; exact heap_alloc_new _ _, heap_alloc_at _ _ _ (by simp)⟩
  have HN1 := hide_p (numberCell_any p w1)
  have HCN : Hid (∀ w', Calls Tryd.prog 43 #[.int .u64 (qn : Int)] w' fun e w'' => e = .returned (.agg #[.int .i64 0, .int .u64 qn, .string nob, .slice none 0 0]) ∧ Below w'.heap.size w' w'') := cnumber_any qn
  have HCT : Hid (∀ w', Calls Tryd.prog 46 #[.string r] w' fun e w'' => e = .returned (.agg #[.int .i64 1, .int .u64 (0 : Nat), .string r, .slice none 0 0]) ∧ Below w'.heap.size w' w'') := ctext_any r
  obtain ⟨x0, x1, x2, x3⟩ := block4 HA1.out.1
  obtain ⟨T, hT⟩ : ∃ T, T = vlT ⟨p, (qn : Int), r, s⟩ := ⟨_, rfl⟩
  have HT := hide_p hT
  rw [← hT]
  clear hT hq hr
  go_enter Tryd.func29, Tryd.ntmps29
  go_upto_region 1 with fail
  rw [← hw1]
  clear hw1
  go_wp2_with fail
  refine HN1.out.mono ?_
  rintro e w2 ⟨rfl, hb2⟩
  have HB2 := hide_p hb2
  have hs2 := hb2.size
  have hv2 := (hb2.block w.heap.size (by omega)).trans HA1.out.1
  have hr2' := (hb2.block (w.heap.size + 1) (by omega)).trans HA1.out.2
  have HV2 := hide_p (And.intro hv2 hr2')
  obtain ⟨v0, v1, v2, v3⟩ := block4 hv2
  have HFIN : Hid (∀ (w4 : World) (cs : Array Value) (w6 : World) (k : Int) (n : Nat) (sx : ByteArray) (u : Value) (wa : World), Below w2.heap.size w2 wa → Below wa.heap.size wa w4 → CS w6 (fun k => (w4.alloc (.cells cs 33)).heap.size ≤ k) T (cellV k n sx u) → Below (w4.alloc (.cells cs 33)).heap.size (w4.alloc (.cells cs 33)) w6 →
      w6.heap[w.heap.size + 1]? = some (.cells #[.int .i64 0, .int .u64 0, .string ⟨#[]⟩, .slice none 0 0] 33 (0, 0)) ∧ ∀ W, W = (((w6.setCell ⟨w.heap.size + 1, 0, none⟩ (.int .i64 k)).setCell ⟨w.heap.size + 1, 1, none⟩ (.int .u64 n)).setCell ⟨w.heap.size + 1, 2, none⟩ (.string sx)).setCell ⟨w.heap.size + 1, 3, none⟩ u →
      W.heap[w.heap.size + 1]? = some (.cells #[.int .i64 k, .int .u64 n, .string sx, u] 33 (0, 0)) ∧ Copd T w (.returned (.agg #[.int .i64 k, .int .u64 n, .string sx, u])) W) := by
    intro w4 cs w6 k n sx u wa h0 h1 q1 q2
    have s0 := h0.size
    have s1 := h1.size
    have h4 : Below w2.heap.size w2 w4 := h0.trans (h1.mono s0)
    have h6 : Below w2.heap.size w2 w6 := (h4.alloc h4.size _).trans (q2.mono (by simp; omega))
    have e := (h6.block (w.heap.size + 1) (by omega)).trans HV2.out.2
    exact ⟨e, fun W hW => retCell e (by omega) (by simp; omega) q1 ((HB1.out.trans (HB2.out.mono (by omega))).trans (h6.mono (by omega))) W hW⟩
  have HKB : Hid ((w2.alloc (.cells #[.int .i64 0, .int .u64 (uw p), .string nob, .slice none 0 0] 33)).heap[w2.heap.size]? = some (.cells #[.int .i64 0, .int .u64 (uw p), .string nob, .slice none 0 0] 33 (0, 0)) ∧ Below w2.heap.size w2 (w2.alloc (.cells #[.int .i64 0, .int .u64 (uw p), .string nob, .slice none 0 0] 33))) := ⟨heap_alloc_new _ _, (Below.refl _ _).alloc (Nat.le_refl _) _⟩
  obtain ⟨w3, hw3⟩ : ∃ w3, w3 = w2.alloc (.cells #[.int .i64 0, .int .u64 (uw p), .string nob, .slice none 0 0] 33) := ⟨_, rfl⟩
  rw [← hw3] at HKB
  obtain ⟨k0, k1, k2, k3⟩ := block4 HKB.out.1
  have hv3 := (HKB.out.2.block w.heap.size (by omega)).trans hv2
  obtain ⟨y0, y1, y2, y3⟩ := block4 hv3
  have HS3 : Hid (w3.heap.size = w2.heap.size + 1) := by show _ = _; rw [hw3]; simp
  have hL1 := clist1 p
  have HL1 := hide_p hL1
  have HL2 := hide_p (clist2 p)
  have hq3 : Below w3.heap.size w3 w3.drew := (Below.refl _ _).drew
  have hne : ¬ w2.heap.size = w.heap.size + 1 := by omega
  have hne2 : ¬ w.heap.size + 1 = w2.heap.size := by omega
  clear x0 x1 x2 x3 v0 v1 v2 v3 hb2 hv2 hr2' hv3 hL1
  unfold cellV
  go_upto_region 2 with fail
  rw [← hw3]
  clear hw3
  by_cases c3 : p = 3
  · subst c3
    have ht : T = lisT [numT 3, .mk 0 qn nob []] := by rw [HT.out]; unfold vlT; simp
    have HL : Hid (∀ w4 : World, Calls Tryd.prog 45 #[.slice (some ⟨w4.heap.size, 0, none⟩) 2 2] (w4.alloc (.cells #[.int .i64 0, .int .u64 (uw 3), .string nob, .slice none 0 0, .int .i64 0, .int .u64 qn, .string nob, .slice none 0 0] 33)) (Copd T (w4.alloc (.cells #[.int .i64 0, .int .u64 (uw 3), .string nob, .slice none 0 0, .int .i64 0, .int .u64 qn, .string nob, .slice none 0 0] 33)))) := by
      intro w4
      rw [ht]
      exact HL2.out 0 qn nob w4 (Or.inl ⟨rfl, rfl, hqn⟩)
    clear ht HL1 HL2 HCT
    go_wp2_with fail
    go_region_held3 (fun w' => w'.cell? ⟨w2.heap.size, 0, none⟩ = some (.int .i64 0) ∧ w'.cell? ⟨w2.heap.size, 1, none⟩ = some (.int .u64 (uw 3)) ∧ w'.cell? ⟨w2.heap.size, 2, none⟩ = some (.string nob) ∧ w'.cell? ⟨w2.heap.size, 3, none⟩ = some (.slice none 0 0) ∧ w'.cell? ⟨w.heap.size, 0, none⟩ = some (.int .i64 3) ∧ w'.cell? ⟨w.heap.size, 1, none⟩ = some (.int .u64 qn) ∧ w'.cell? ⟨w.heap.size, 2, none⟩ = some (.string r) ∧ w'.cell? ⟨w.heap.size, 3, none⟩ = some (.int .i64 s))
      (first
        | exact keep8k (by assumption) hbS
        | go_keep)
      (first
        | (go_at_call 43; refine (HCN.out _).mono ?_; rintro e w4 ⟨rfl, hbS⟩; have hq4 := hq3.trans (hbS.mono hq3.size))
        | (go_at_call 45; refine (HL.out _).mono ?_; rintro e w6 ⟨v6, rfl, q1, hbS⟩; obtain ⟨k6, n6, s6, a6, m6, cap6, rfl⟩ := q1.form; obtain ⟨z0, z1⟩ := HFIN.out _ _ _ _ _ _ _ _ HKB.out.2 hq4 q1 hbS; have HZ := hide_p z1; obtain ⟨c0, c1, c2, c3⟩ := block4 z0; have fz := Lib.frozen_of_heap z0; have f0 := fz 0; have f1 := fz 1; have f2 := fz 2; have f3 := fz 3; clear z0 z1 fz q1; unfold cellV))
    obtain ⟨y1, y2⟩ := HZ.out _ rfl
    have HY1 := hide_p y1
    have HY2 := hide_p y2
    clear y1 y2 HZ c0 c1 c2 c3 f0 f1 f2 f3
    go_wp2
    exact bodyPost_ret (results_cell_row rfl _ _ (w.heap.size + 1) _ _ _ _ rfl HY1.out Tryd.underlying33 rfl info25) rfl HY2.out
  · by_cases c4 : p = 4
    · subst c4
      have ht : T = lisT [numT 4, .mk 1 0 r []] := by rw [HT.out]; unfold vlT; simp
      have HL : Hid (∀ w4 : World, Calls Tryd.prog 45 #[.slice (some ⟨w4.heap.size, 0, none⟩) 2 2] (w4.alloc (.cells #[.int .i64 0, .int .u64 (uw 4), .string nob, .slice none 0 0, .int .i64 1, .int .u64 (0 : Nat), .string r, .slice none 0 0] 33)) (Copd T (w4.alloc (.cells #[.int .i64 0, .int .u64 (uw 4), .string nob, .slice none 0 0, .int .i64 1, .int .u64 (0 : Nat), .string r, .slice none 0 0] 33)))) := by
        intro w4
        rw [ht]
        exact HL2.out 1 0 r w4 (Or.inr ⟨rfl, rfl, hr2⟩)
      clear ht HL1 HL2 HCN
      go_wp2_with fail
      go_region_held3 (fun w' => w'.cell? ⟨w2.heap.size, 0, none⟩ = some (.int .i64 0) ∧ w'.cell? ⟨w2.heap.size, 1, none⟩ = some (.int .u64 (uw 4)) ∧ w'.cell? ⟨w2.heap.size, 2, none⟩ = some (.string nob) ∧ w'.cell? ⟨w2.heap.size, 3, none⟩ = some (.slice none 0 0) ∧ w'.cell? ⟨w.heap.size, 0, none⟩ = some (.int .i64 4) ∧ w'.cell? ⟨w.heap.size, 1, none⟩ = some (.int .u64 qn) ∧ w'.cell? ⟨w.heap.size, 2, none⟩ = some (.string r) ∧ w'.cell? ⟨w.heap.size, 3, none⟩ = some (.int .i64 s))
        (first
          | exact keep8k (by assumption) hbS
          | go_keep)
        (first
          | (go_at_call 46; refine (HCT.out _).mono ?_; rintro e w4 ⟨rfl, hbS⟩; have hq4 := hq3.trans (hbS.mono hq3.size))
          | (go_at_call 45; refine (HL.out _).mono ?_; rintro e w6 ⟨v6, rfl, q1, hbS⟩; obtain ⟨k6, n6, s6, a6, m6, cap6, rfl⟩ := q1.form; obtain ⟨z0, z1⟩ := HFIN.out _ _ _ _ _ _ _ _ HKB.out.2 hq4 q1 hbS; have HZ := hide_p z1; obtain ⟨c0, c1, c2, c3⟩ := block4 z0; have fz := Lib.frozen_of_heap z0; have f0 := fz 0; have f1 := fz 1; have f2 := fz 2; have f3 := fz 3; clear z0 z1 fz q1; unfold cellV))
      obtain ⟨y1, y2⟩ := HZ.out _ rfl
      have HY1 := hide_p y1
      have HY2 := hide_p y2
      clear y1 y2 HZ c0 c1 c2 c3 f0 f1 f2 f3
      go_wp2
      exact bodyPost_ret (results_cell_row rfl _ _ (w.heap.size + 1) _ _ _ _ rfl HY1.out Tryd.underlying33 rfl info25) rfl HY2.out
    · have ht : T = lisT [numT p] := by rw [HT.out]; unfold vlT; simp [c3, c4]
      have HL : Hid (Calls Tryd.prog 45 #[.slice (some ⟨w3.heap.size, 0, none⟩) 1 1] (w3.alloc (.cells #[.int .i64 0, .int .u64 (uw p), .string nob, .slice none 0 0] 33)) (Copd T (w3.alloc (.cells #[.int .i64 0, .int .u64 (uw p), .string nob, .slice none 0 0] 33)))) := by
        show Calls _ _ _ _ _
        rw [ht]
        exact HL1.out w3
      have HBR : Hid (Below w3.heap.size w3 w3) := Below.refl _ _
      clear ht HL1 HL2 HCN HCT
      go_wp2_with fail
      refine HL.out.mono ?_
      rintro e w6 ⟨v6, rfl, q1, hbS⟩
      obtain ⟨k6, n6, s6, a6, m6, cap6, rfl⟩ := q1.form
      obtain ⟨z0, z1⟩ := HFIN.out _ _ _ _ _ _ _ _ HKB.out.2 HBR.out q1 hbS
      have HZ := hide_p z1
      obtain ⟨c0, c1, c2, c3'⟩ := block4 z0
      have fz := Lib.frozen_of_heap z0
      have f0 := fz 0
      have f1 := fz 1
      have f2 := fz 2
      have f3 := fz 3
      clear z0 z1 fz q1
      unfold cellV
      go_wp2
      obtain ⟨y1, y2⟩ := HZ.out _ rfl
      exact bodyPost_ret (results_cell_row rfl _ _ (w.heap.size + 1) _ _ _ _ rfl y1 Tryd.underlying33 rfl info25) rfl y2

end Go.Proofs.YtcblknghkgihcaaDoor
namespace Go.Proofs.YtcblknghkgihcaaDoor
set_option maxRecDepth 100000
open Go.RowKit Crc Pg

theorem CS.later {w w' : World} {B : Nat} {t : Tr} {v : Value} (h : CS w (fun k => B ≤ k) t v) (hb : Below w.heap.size w w') : CS w' (fun k => B ≤ k) t v := (h.real.kept (fun q hq => hb.block q hq.2)).widen (fun _ hq => hq.1)
theorem keep6t {W w' : World} {B : Nat} {u0 u1 u2 u3 u4 u5 : Value} (h : W.cell? ⟨B, 0, none⟩ = some u0 ∧ W.cell? ⟨B, 1, none⟩ = some u1 ∧ W.cell? ⟨B, 2, none⟩ = some u2 ∧ W.cell? ⟨B, 3, none⟩ = some u3 ∧ W.cell? ⟨B, 4, none⟩ = some u4 ∧ W.cell? ⟨B, 5, none⟩ = some u5) (k : Below W.heap.size W w') : w'.cell? ⟨B, 0, none⟩ = some u0 ∧ w'.cell? ⟨B, 1, none⟩ = some u1 ∧ w'.cell? ⟨B, 2, none⟩ = some u2 ∧ w'.cell? ⟨B, 3, none⟩ = some u3 ∧ w'.cell? ⟨B, 4, none⟩ = some u4 ∧ w'.cell? ⟨B, 5, none⟩ = some u5 := by
  obtain ⟨h0, h1, h2, h3, h4, h5⟩ := h
  exact ⟨cell_kept k (Nat.le_refl _) h0, cell_kept k (Nat.le_refl _) h1, cell_kept k (Nat.le_refl _) h2, cell_kept k (Nat.le_refl _) h3, cell_kept k (Nat.le_refl _) h4, cell_kept k (Nat.le_refl _) h5⟩
theorem ne_succ1 (n : Nat) : n ≠ n + 1 := by omega
theorem keep6e {w7 : World} {b B : Nat} {v0 v1 v2 v3 u0 u1 u2 u3 u4 u5 : Value} {o : Obj} (h : w7.cell? ⟨B, 0, none⟩ = some u0 ∧ w7.cell? ⟨B, 1, none⟩ = some u1 ∧ w7.cell? ⟨B, 2, none⟩ = some u2 ∧ w7.cell? ⟨B, 3, none⟩ = some u3 ∧ w7.cell? ⟨B, 4, none⟩ = some u4 ∧ w7.cell? ⟨B, 5, none⟩ = some u5) (hne : B ≠ b) :
    (((((w7.setCell ⟨b, 0, none⟩ v0).setCell ⟨b, 1, none⟩ v1).setCell ⟨b, 2, none⟩ v2).setCell ⟨b, 3, none⟩ v3).alloc o).cell? ⟨B, 0, none⟩ = some u0 ∧ (((((w7.setCell ⟨b, 0, none⟩ v0).setCell ⟨b, 1, none⟩ v1).setCell ⟨b, 2, none⟩ v2).setCell ⟨b, 3, none⟩ v3).alloc o).cell? ⟨B, 1, none⟩ = some u1 ∧ (((((w7.setCell ⟨b, 0, none⟩ v0).setCell ⟨b, 1, none⟩ v1).setCell ⟨b, 2, none⟩ v2).setCell ⟨b, 3, none⟩ v3).alloc o).cell? ⟨B, 2, none⟩ = some u2 ∧ (((((w7.setCell ⟨b, 0, none⟩ v0).setCell ⟨b, 1, none⟩ v1).setCell ⟨b, 2, none⟩ v2).setCell ⟨b, 3, none⟩ v3).alloc o).cell? ⟨B, 3, none⟩ = some u3 ∧ (((((w7.setCell ⟨b, 0, none⟩ v0).setCell ⟨b, 1, none⟩ v1).setCell ⟨b, 2, none⟩ v2).setCell ⟨b, 3, none⟩ v3).alloc o).cell? ⟨B, 4, none⟩ = some u4 ∧ (((((w7.setCell ⟨b, 0, none⟩ v0).setCell ⟨b, 1, none⟩ v1).setCell ⟨b, 2, none⟩ v2).setCell ⟨b, 3, none⟩ v3).alloc o).cell? ⟨B, 5, none⟩ = some u5 := by
  have key : ∀ j u, w7.cell? ⟨B, j, none⟩ = some u → (((((w7.setCell ⟨b, 0, none⟩ v0).setCell ⟨b, 1, none⟩ v1).setCell ⟨b, 2, none⟩ v2).setCell ⟨b, 3, none⟩ v3).alloc o).cell? ⟨B, j, none⟩ = some u := by
    intro j u hu
    have hlt := World.block_lt_of_cell? w7 _ hu
    refine (World.cell?_of_block (w := w7) (a := ⟨B, j, none⟩) ?_).trans hu
    show (((((w7.setCell ⟨b, 0, none⟩ v0).setCell ⟨b, 1, none⟩ v1).setCell ⟨b, 2, none⟩ v2).setCell ⟨b, 3, none⟩ v3).alloc o).heap[B]? = w7.heap[B]?
    rw [Below.heap_alloc _ _ _ (by simp only [World.size_setCell]; exact hlt), set4_other hne]
  obtain ⟨h0, h1, h2, h3, h4, h5⟩ := h
  exact ⟨key _ _ h0, key _ _ h1, key _ _ h2, key _ _ h3, key _ _ h4, key _ _ h5⟩
theorem toCell_end {w w7 : World} {b : Nat} {pa rg : Int} {t3 t4 t5 t6 : Tr} {k3 k4 k5 k6 : Int} {n3 n4 n5 n6 : Nat} {s3 s4 s5 s6 : ByteArray} {u3 u4 u5 u6 : Value} (hwb : w.heap.size < b) (hb7 : b < w7.heap.size) (h7 : Below w.heap.size w w7) (hblk : w7.heap[b]? = some (.cells #[.int .i64 0, .int .u64 0, .string ⟨#[]⟩, .slice none 0 0] 33 (0, 0)))
    (c3 : CS w7 (fun k => b + 1 ≤ k) t3 (cellV k3 n3 s3 u3)) (c4 : CS w7 (fun k => b + 1 ≤ k) t4 (cellV k4 n4 s4 u4)) (c5 : CS w7 (fun k => b + 1 ≤ k) t5 (cellV k5 n5 s5 u5)) (c6 : CS w7 (fun k => b + 1 ≤ k) t6 (cellV k6 n6 s6 u6)) (W : World)
    (hW : W = ((((w7.setCell ⟨b, 0, none⟩ (.int .i64 2)).setCell ⟨b, 1, none⟩ (.int .u64 (0 : Nat))).setCell ⟨b, 2, none⟩ (.string nob)).setCell ⟨b, 3, none⟩ (.slice (some ⟨w7.heap.size, 0, none⟩) 6 6)).alloc (.cells #[.int .i64 0, .int .u64 (uw pa), .string nob, .slice none 0 0, .int .i64 0, .int .u64 (uw rg), .string nob, .slice none 0 0, .int .i64 k3, .int .u64 n3, .string s3, u3, .int .i64 k4, .int .u64 n4, .string s4, u4, .int .i64 k5, .int .u64 n5, .string s5, u5, .int .i64 k6, .int .u64 n6, .string s6, u6] 33)) :
    W.heap[b]? = some (.cells #[.int .i64 2, .int .u64 (0 : Nat), .string nob, .slice (some ⟨w7.heap.size, 0, none⟩) 6 6] 33 (0, 0)) ∧ Copd (lisT [numT pa, numT rg, t3, t4, t5, t6]) w (.returned (.agg #[.int .i64 2, .int .u64 (0 : Nat), .string nob, .slice (some ⟨w7.heap.size, 0, none⟩) 6 6])) W := by
  obtain ⟨V, hV⟩ : ∃ V, V = (((w7.setCell ⟨b, 0, none⟩ (.int .i64 2)).setCell ⟨b, 1, none⟩ (.int .u64 (0 : Nat))).setCell ⟨b, 2, none⟩ (.string nob)).setCell ⟨b, 3, none⟩ (.slice (some ⟨w7.heap.size, 0, none⟩) 6 6) := ⟨_, rfl⟩
  rw [← hV] at hW
  have hVs : V.heap.size = w7.heap.size := by rw [hV]; simp only [World.size_setCell]
  have hVb : V.heap[b]? = some (.cells #[.int .i64 2, .int .u64 (0 : Nat), .string nob, .slice (some ⟨w7.heap.size, 0, none⟩) 6 6] 33 (0, 0)) := by rw [hV]; exact set4_block hblk _ _ _ _
  have hVB : Below w.heap.size w V := by rw [hV]; exact set4_below h7 (by omega) _ _ _ _
  have hoth : ∀ k, k ≠ b → k < w7.heap.size → W.heap[k]? = w7.heap[k]? := by
    intro k hk hk2
    rw [hW, Below.heap_alloc _ _ _ (by omega), hV, set4_other hk]
  have h24 : W.heap[w7.heap.size]? = some (.cells #[.int .i64 0, .int .u64 (uw pa), .string nob, .slice none 0 0, .int .i64 0, .int .u64 (uw rg), .string nob, .slice none 0 0, .int .i64 k3, .int .u64 n3, .string s3, u3, .int .i64 k4, .int .u64 n4, .string s4, u4, .int .i64 k5, .int .u64 n5, .string s5, u5, .int .i64 k6, .int .u64 n6, .string s6, u6] 33 (0, 0)) := by
    rw [hW]
    exact heap_alloc_at _ _ _ hVs
  have hs7 := h7.size
  have up : ∀ {t v}, CS w7 (fun k => b + 1 ≤ k) t v → CS W (fun k => w.heap.size ≤ k) t v := fun h => (h.real.kept (fun q hq => hoth q (by have := hq.1; omega) hq.2)).widen (fun q hq => by have := hq.1; omega)
  refine ⟨by rw [hW, Below.heap_alloc _ _ _ (by omega)]; exact hVb, _, rfl, ?_, by rw [hW]; exact hVB.alloc hVB.size _⟩
  exact cs_block (S := fun k => w.heap.size ≤ k) (l := [nq pa, nq rg, ⟨k3, n3, s3, u3⟩, ⟨k4, n4, s4, u4⟩, ⟨k5, n5, s5, u5⟩, ⟨k6, n6, s6, u6⟩]) h24 rfl rfl (Nat.le_refl 6) (by decide) hs7 (fun i hi => by
    match i, hi with
    | 0, _ => exact cs_numT _
    | 1, _ => exact cs_numT _
    | 2, _ => exact up c3
    | 3, _ => exact up c4
    | 4, _ => exact up c5
    | 5, _ => exact up c6)

set_option maxHeartbeats 8000000 in
theorem toCell_any : ∀ (t : Pr) (x : Six) (W w : World), PR W t x → Below W.heap.size W w → t.cnt ≤ 100000 →
    Calls Tryd.prog 7 #[x.v] w (Copd (cellT t) w) := by
  refine Pr.ind' fun pa rg us cs ks ps ih => ?_
  intro x W w h hW hcnt
  rw [PR_mk] at h
  obtain ⟨pa', rg', vu, vc, vk, vp⟩ := x
  simp only at h
  obtain ⟨rfl, rfl, hpa, hrg, hu, hc, hk, f, hp, hch⟩ := h
  rw [cellT_mk]
  rw [Pr.cnt_mk] at hcnt
  have hl := plen_cnts ps
  have HU : Hid (∀ w', Below W.heap.size W w' → Calls Tryd.prog 24 #[vu, .func (.func 25) #[] #[]] w' (Copd (lisT (us.map upT)) w')) := fun w' hb => listCellU_any us vu w' (hu.kept hb (Nat.le_refl _)) (by omega) (fun p q _ w'' => upCell_any p q w'')
  have HC : Hid (∀ w', Below W.heap.size W w' → Calls Tryd.prog 26 #[vc, .func (.func 27) #[] #[]] w' (Copd (lisT (cs.map insT)) w')) := fun w' hb => listCellI_any cs vc w' (hc.kept hb (Nat.le_refl _)) (by omega) (fun p q r s _ w'' => orderCell_any p q r s w'')
  have HK : Hid (∀ w', Below W.heap.size W w' → Calls Tryd.prog 28 #[vk, .func (.func 29) #[] #[]] w' (Copd (lisT (ks.map vlT)) w')) := fun w' hb => listCellV_any ks vk w' (hk.kept hb (Nat.le_refl _)) (by omega) (fun p q r s hv w'' => constantCell_any p q r s hv.2.1 hv.2.2.1 w'')
  have HP : Hid (∀ w', Below W.heap.size W w' → Calls Tryd.prog 30 #[vp, .func (.func 7) #[] #[]] w' (Copd (lisT (ps.map cellT)) w')) := fun w' hb => listCellP_any ps f vp W w' hp hb (by omega) hch (fun i hi w'' hb2 => ih ps[i] (List.getElem_mem hi) (f i) W w'' (hch i hi) hb2 (by have := pcnts_get i hi; omega))
  have HHW := hide_p hW
  obtain ⟨au, cu, rfl, -, -, -⟩ := hu.1.val
  obtain ⟨ac, cc, rfl, -, -, -⟩ := hc.1.val
  obtain ⟨ak, ck, rfl, -, -, -⟩ := hk.1.val
  obtain ⟨ap, cp, rfl, -, -, -⟩ := hp.val
  obtain ⟨T3, hT3⟩ : ∃ T, T = lisT (us.map upT) := ⟨_, rfl⟩
  obtain ⟨T4, hT4⟩ : ∃ T, T = lisT (cs.map insT) := ⟨_, rfl⟩
  obtain ⟨T5, hT5⟩ : ∃ T, T = lisT (ks.map vlT) := ⟨_, rfl⟩
  obtain ⟨T6, hT6⟩ : ∃ T, T = lisT (ps.map cellT) := ⟨_, rfl⟩
  rw [← hT3] at HU
  rw [← hT4] at HC
  rw [← hT5] at HK
  rw [← hT6] at HP
  rw [← hT3, ← hT4, ← hT5, ← hT6]
  clear hT3 hT4 hT5 hT6 hu hc hk hp hch ih hl hcnt hW hpa hrg
  generalize us.length = nu at *
  generalize cs.length = nc at *
  generalize ks.length = nk at *
  generalize ps.length = np at *
  unfold Six.v
  simp only
  have HN1 : Hid (∀ w', Calls Tryd.prog 23 #[.int .i64 pa'] w' fun e w'' => e = .returned (.agg #[.int .i64 0, .int .u64 (uw pa'), .string nob, .slice none 0 0]) ∧ Below w'.heap.size w' w'') := numberCell_any pa'
  have HN2 : Hid (∀ w', Calls Tryd.prog 23 #[.int .i64 rg'] w' fun e w'' => e = .returned (.agg #[.int .i64 0, .int .u64 (uw rg'), .string nob, .slice none 0 0]) ∧ Below w'.heap.size w' w'') := numberCell_any rg'
  obtain ⟨w1, hw1⟩ : ∃ w1, w1 = (w.alloc (.cells #[.int .i64 pa', .int .i64 rg', .slice au nu cu, .slice ac nc cc, .slice ak nk ck, .slice ap np cp] 27)).alloc (.cells #[.int .i64 0, .int .u64 0, .string ⟨#[]⟩, .slice none 0 0] 33) := ⟨_, rfl⟩
  have HS1 : Hid (w1.heap.size = w.heap.size + 2) := by show _ = _; rw [hw1]; simp
  have HB1 : Hid (Below w.heap.size w w1) := by show Below _ _ _; rw [hw1]; exact ((Below.refl _ _).alloc (Nat.le_refl _) _).alloc (by simp) _
  have HA1 : Hid (w1.heap[w.heap.size + 1]? = some (.cells #[.int .i64 0, .int .u64 0, .string ⟨#[]⟩, .slice none 0 0] 33 (0, 0))) := by show _ = _; rw [hw1]; exact heap_alloc_at _ _ _ (by simp)
  have G : ∀ j, w1.cell? ⟨w.heap.size, j, none⟩ = (#[.int .i64 pa', .int .i64 rg', .slice au nu cu, .slice ac nc cc, .slice ak nk ck, .slice ap np cp] : Array Value)[j]? := by
    intro j
    rw [hw1, World.cell?_alloc_lt _ _ _ (by simp), World.cell?_alloc_new]
  have x0 : w1.cell? ⟨w.heap.size, 0, none⟩ = some (.int .i64 pa') := G 0
  have x1 : w1.cell? ⟨w.heap.size, 1, none⟩ = some (.int .i64 rg') := G 1
  have x2 : w1.cell? ⟨w.heap.size, 2, none⟩ = some (.slice au nu cu) := G 2
  have x3 : w1.cell? ⟨w.heap.size, 3, none⟩ = some (.slice ac nc cc) := G 3
  have x4 : w1.cell? ⟨w.heap.size, 4, none⟩ = some (.slice ak nk ck) := G 4
  have x5 : w1.cell? ⟨w.heap.size, 5, none⟩ = some (.slice ap np cp) := G 5
  have HBW : Hid (∀ w', Below w1.heap.size w1 w' → Below W.heap.size W w') := by
    intro w' hb
    have h1 := HHW.out.size
    have h2 := HB1.out.size
    exact HHW.out.trans ((HB1.out.trans (hb.mono h2)).mono h1)
  have HE : Hid (∀ w7, Below w1.heap.size w1 w7 → w7.heap[w.heap.size + 1]? = some (.cells #[.int .i64 0, .int .u64 0, .string ⟨#[]⟩, .slice none 0 0] 33 (0, 0)) ∧ Below w.heap.size w w7 ∧ w.heap.size + 1 < w7.heap.size) := by
    intro w7 h7
    have h1 := HS1.out
    have h2 := h7.size
    exact ⟨(h7.block (w.heap.size + 1) (by omega)).trans HA1.out, HB1.out.trans (h7.mono (by omega)), by omega⟩
  have HWS : Hid (∀ w', Below w1.heap.size w1 w' → ∀ {w7 t v}, CS w7 (fun k => w'.heap.size ≤ k) t v → CS w7 (fun k => w.heap.size + 1 + 1 ≤ k) t v) := by
    intro w' h7 w7 t v hc
    have h1 := HS1.out
    have h2 := h7.size
    exact hc.widen (fun q hq => by omega)
  have hq1 : Below w1.heap.size w1 w1.drew := (Below.refl _ _).drew
  clear G
  go_enter Tryd.func7, Tryd.ntmps7
  go_upto_region 1 with fail
  rw [← hw1]
  clear hw1
  go_region_held3 (fun w' => w'.cell? ⟨w.heap.size, 0, none⟩ = some (.int .i64 pa') ∧ w'.cell? ⟨w.heap.size, 1, none⟩ = some (.int .i64 rg') ∧ w'.cell? ⟨w.heap.size, 2, none⟩ = some (.slice au nu cu) ∧ w'.cell? ⟨w.heap.size, 3, none⟩ = some (.slice ac nc cc) ∧ w'.cell? ⟨w.heap.size, 4, none⟩ = some (.slice ak nk ck) ∧ w'.cell? ⟨w.heap.size, 5, none⟩ = some (.slice ap np cp))
    (first
      | with_reducible exact keep6e hS7 (ne_succ1 _)
      | exact keep6t (by assumption) hbS
      | go_keep)
    (first
      | (go_at_call 30; refine (HP.out _ (HBW.out _ hq6)).mono ?_; rintro e w7 ⟨v7, rfl, qp, hbS⟩; obtain ⟨k6, n6, s6, a6, m6, e6, rfl⟩ := qp.form; have hq7 := hq6.trans (hbS.mono hq6.size); have qu := CS.later qu hbS; have qc := CS.later qc hbS; have qk := CS.later qk hbS; obtain ⟨z0, z1, z2⟩ := HE.out _ hq7; have HF := hide_p (toCell_end (b := w.heap.size + 1) (pa := pa') (rg := rg') (Nat.lt_succ_self w.heap.size) z2 z1 z0 (HWS.out _ hq3 qu) (HWS.out _ hq4 qc) (HWS.out _ hq5 qk) (HWS.out _ hq6 qp)); obtain ⟨c0, c1, c2, c3⟩ := block4 z0; have fz := Lib.frozen_of_heap z0; have f0 := fz 0; have f1 := fz 1; have f2 := fz 2; have f3 := fz 3; have hS7 := keep6t ⟨x0, x1, x2, x3, x4, x5⟩ hq7; clear z0 z1 fz qu qc qk qp; unfold cellV)
      | (go_at_call 28; refine (HK.out _ (HBW.out _ hq5)).mono ?_; rintro e w6 ⟨v6, rfl, qk, hbS⟩; obtain ⟨k5, n5, s5, a5, m5, e5, rfl⟩ := qk.form; have hq6 := hq5.trans (hbS.mono hq5.size); have qu := CS.later qu hbS; have qc := CS.later qc hbS; unfold cellV)
      | (go_at_call 26; refine (HC.out _ (HBW.out _ hq4)).mono ?_; rintro e w5 ⟨v5, rfl, qc, hbS⟩; obtain ⟨k4, n4, s4, a4, m4, e4, rfl⟩ := qc.form; have hq5 := hq4.trans (hbS.mono hq4.size); have qu := CS.later qu hbS; unfold cellV)
      | (go_at_call 24; refine (HU.out _ (HBW.out _ hq3)).mono ?_; rintro e w4 ⟨v4, rfl, qu, hbS⟩; obtain ⟨k3, n3, s3, a3, m3, e3, rfl⟩ := qu.form; have hq4 := hq3.trans (hbS.mono hq3.size); unfold cellV)
      | (go_at_call 23; refine (HN2.out _).mono ?_; rintro e w3 ⟨rfl, hbS⟩; have hq3 := hq2.trans (hbS.mono hq2.size))
      | (go_at_call 23; refine (HN1.out _).mono ?_; rintro e w2 ⟨rfl, hbS⟩; have hq2 := hq1.trans (hbS.mono hq1.size)))
  obtain ⟨y1, y2⟩ := HF.out _ rfl
  have HY1 := hide_p y1
  have HY2 := hide_p y2
  clear y1 y2 HF c0 c1 c2 c3 f0 f1 f2 f3
  go_wp2
  exact bodyPost_ret (results_cell_row rfl _ _ (w.heap.size + 1) _ _ _ _ rfl HY1.out Tryd.underlying33 rfl info25) rfl HY2.out

end Go.Proofs.YtcblknghkgihcaaDoor
namespace Go.Proofs.YtcblknghkgihcaaDoor
set_option maxRecDepth 100000
open Go.RowKit Crc Txt Pg

namespace Pg
def insIn (x : Ins) : Bool := decide (0 ≤ x.a ∧ x.a ≤ 131072 ∧ 0 ≤ x.b ∧ x.b ≤ 131072 ∧ 0 ≤ x.c ∧ x.c ≤ 131072)
def inR (r : Pr) : Bool := r.cs.all insIn
def inL (L : List Pr) : Bool := L.all inR
theorem sm_numT (n : Int) (h : 0 ≤ n ∧ n ≤ 131072) : ((smT (numT n) : Nat) : Int) = n := by
  have h1 : uw n ≤ 131072 := by unfold uw; omega
  have h2 : ((uw n : Nat) : Int) = n := by rw [uw_val]; omega
  unfold smT numT
  simp only [h1, and_self, if_true]
  exact h2
theorem at_lis (l : List Tr) (i : Nat) : atT (lisT l) i = l.getD i zT := rfl
theorem many_lis (l : List Tr) : manyL (lisT l) = l := rfl
theorem rUp_back (u : Upp) (h : 0 ≤ u.pl ∧ u.pl ≤ 131072) : rUp (upT u) = u := by
  obtain ⟨o, p⟩ := u
  unfold rUp upT
  simp only [at_lis, List.getD_cons_zero, List.getD_cons_succ]
  have h1 := sm_numT p h
  rw [h1]
  cases o with
  | false =>
    have h0 := sm_numT 0 (by omega)
    have : ¬ smT (numT (if false = true then 1 else 0)) = 1 := by simp only [Bool.false_eq_true, if_false]; omega
    rw [decide_eq_false this]
  | true =>
    have h0 := sm_numT 1 (by omega)
    have : smT (numT (if true = true then 1 else 0)) = 1 := by simp only [if_true]; omega
    rw [decide_eq_true this]
theorem rIns_back (x : Ins) (h0 : 0 ≤ x.op ∧ x.op ≤ 131072) (h : insIn x = true) : rIns (insT x) = x := by
  obtain ⟨o, a, b, c⟩ := x
  unfold insIn at h
  simp only [decide_eq_true_eq] at h h0
  unfold rIns insT
  simp only [at_lis, List.getD_cons_zero, List.getD_cons_succ]
  rw [sm_numT o h0, sm_numT a ⟨h.1, h.2.1⟩, sm_numT b ⟨h.2.2.1, h.2.2.2.1⟩, sm_numT c ⟨h.2.2.2.2.1, h.2.2.2.2.2⟩]
theorem txt_inj {s t : ByteArray} (h : s.toList = t.toList) : s = t := by
  rw [Lib.toList_data, Lib.toList_data] at h
  cases s; cases t; congr 1; exact Array.toList_inj.1 h
theorem rVl_back (v : Vl) (hn : 0 ≤ v.n ∧ v.n < 18446744073709551616) (h : noC v = false) : rVl (vlT v) = v := by
  obtain ⟨k, n, s, o⟩ := v
  unfold noC normB inB at h
  simp only [Bool.or_eq_false_iff, Bool.not_eq_false', Bool.and_eq_true, decide_eq_true_eq, beq_iff_eq] at h
  obtain ⟨⟨hk0, hk5⟩, ⟨⟨hK, hN⟩, hS⟩, hO⟩ := h
  have hs := txt_inj hS
  simp only at hn
  have ho : o = 0 := by rw [← hO]; unfold nO; rw [if_neg (by omega)]
  unfold rVl
  rw [vlT_of]
  simp only
  have hk := sm_numT k (by omega)
  by_cases c3 : k = 3
  · subst c3
    have e : s = nob := by rw [← hs]; rfl
    have hk3 : smT (numT 3) = 3 := by omega
    simp only [if_true, at_lis, List.getD_cons_zero, List.getD_cons_succ, hk3, e, ho]
    simp
    omega
  · by_cases c4 : k = 4
    · subst c4
      have e : n = 0 := by rw [← hN]; rfl
      have hk4 : smT (numT 4) = 4 := by omega
      simp only [c3, if_false, if_true, at_lis, List.getD_cons_zero, List.getD_cons_succ, hk4, e, ho]
      simp
    · have e1 : n = 0 := by rw [← hN]; unfold nN; rw [if_neg c3]
      have e2 : s = nob := by rw [← hs]; unfold nS; rw [if_neg c4]; rfl
      have h3 : ¬ smT (numT k) = 3 := by omega
      have h4 : ¬ smT (numT k) = 4 := by omega
      simp only [c3, c4, if_false, at_lis, List.getD_cons_zero, h3, h4, hk, e1, e2, ho]
theorem map_back {α β : Type} {f : α → β} {g : β → α} {l : List α} (h : ∀ x ∈ l, g (f x) = x) : (l.map f).map g = l := by
  induction l with
  | nil => rfl
  | cons a l ih => rw [List.map_cons, List.map_cons, h a List.mem_cons_self, ih (fun x hx => h x (List.mem_cons_of_mem _ hx))]
theorem back_core (D : Nat) (pa rg : Int) (us : List Upp) (cs : List Ins) (ks : List Vl) (ps : List Pr) (arg : Int) (anu : Nat) (hpa : 0 ≤ rg ∧ rg ≤ 131072) (hs : soundB (.mk pa rg us cs ks ps) = true) (ha : arg ≤ 131072) (hb : anu ≤ 131072) (hu : findB us arg anu = true)
    (hi : inR (.mk pa rg us cs ks ps) = true) (hv : ∀ v ∈ ks, 0 ≤ v.n ∧ v.n < 18446744073709551616) (h0 : D = 0 → ps = []) (hk : ∀ D', D = D' + 1 → ∀ q ∈ ps, rdT D' (cellT q) = q) : rdT D (cellT (.mk pa rg us cs ks ps)) = .mk pa rg us cs ks ps := by
  unfold soundB at hs
  simp only [Bool.and_eq_true, decide_eq_true_eq, Bool.not_eq_true'] at hs
  obtain ⟨⟨⟨⟨s1, s2⟩, s3⟩, s4⟩, s5⟩ := hs
  unfold inB at s1
  simp only [Bool.and_eq_true, decide_eq_true_eq] at s1
  have e0 := sm_numT pa (by omega)
  have e1 := sm_numT rg hpa
  have e2 : (us.map upT).map rUp = us := map_back (fun u hu' => rUp_back u (by
    unfold findB at hu
    have := List.all_eq_true.1 hu u hu'
    unfold inB at this
    simp only [Bool.and_eq_true, decide_eq_true_eq] at this
    refine ⟨this.1, ?_⟩
    have h2 := this.2
    split at h2 <;> omega))
  have e3 : (cs.map insT).map rIns = cs := map_back (fun x hx => rIns_back x (by
    have := List.all_eq_true.1 s5 x hx
    unfold ordB at this
    simp only [Bool.and_eq_true] at this
    have h2 := this.2
    unfold isOp at h2
    simp at h2
    omega) (List.all_eq_true.1 hi x hx))
  have e4 : (ks.map vlT).map rVl = ks := map_back (fun v hv' => rVl_back v (hv v hv') (by
    rw [List.any_eq_false] at s3
    simpa using s3 v hv'))
  rw [cellT_mk]
  cases D with
  | zero =>
    rw [h0 rfl, rdT]
    simp only [at_lis, List.getD_cons_zero, List.getD_cons_succ, many_lis, e0, e1, e2, e3, e4]
  | succ D' =>
    have e5 : (ps.map cellT).map (rdT D') = ps := map_back (fun q hq => hk D' rfl q hq)
    rw [rdT]
    simp only [at_lis, List.getD_cons_zero, List.getD_cons_succ, many_lis, e0, e1, e2, e3, e4, e5]
theorem rd_back : ∀ (t : Pr) (arg : Int) (anu d n m : Nat), chkT t arg anu d n = (m, 0) → arg ≤ 131072 → anu ≤ 131072 → (∀ r ∈ flatT t, inR r = true) → (∀ r ∈ flatT t, ∀ v ∈ r.ks, 0 ≤ v.n ∧ v.n < 18446744073709551616) → ∀ D, t.dep ≤ D → rdT D (cellT t) = t := by
  refine Pr.ind' fun pa rg us cs ks ps ih => ?_
  intro arg anu d n m h ha hb hin hv D hD
  rw [chkT_mk] at h
  split at h
  · cases h
  · split at h
    · cases h
    · next c1 c2 =>
      simp only [Bool.or_eq_true, decide_eq_true_eq, not_or, Bool.not_eq_true', Bool.not_eq_false] at c1 c2
      have hl := c1.1.1
      unfold longB at hl
      simp only [Bool.or_eq_true, decide_eq_true_eq, not_or] at hl
      have hs := c2.1
      have hrg : 0 ≤ rg := by
        unfold soundB inB at hs
        simp only [Bool.and_eq_true, decide_eq_true_eq] at hs
        omega
      rw [Pr.dep_mk] at hD
      refine back_core D pa rg us cs ks ps arg anu ⟨hrg, by omega⟩ hs ha hb c2.2 (hin _ (flatT_self _)) (hv _ (flatT_self _)) (fun e => ?_) (fun D' e q hq => ?_)
      · cases ps with
        | nil => rfl
        | cons q ps =>
          have := pdeps_get (l := q :: ps) 0 (by simp)
          omega
      · obtain ⟨n', m', hq2⟩ := chkL_good ps _ _ _ _ _ h q hq
        obtain ⟨i, hi, he⟩ := List.getElem_of_mem hq
        have := pdeps_get i hi
        rw [he] at this
        exact ih q hq _ _ _ _ _ hq2 (by omega) (by omega) (fun r hr => hin r (flatT_kid hq hr)) (fun r hr => hv r (flatT_kid hq hr)) D' (by omega)
/-- A function that can be, with operands that can be told, comes back. -/
theorem back (t : Pr) (h : chkB t = 0) (hin : inL (flatT t) = true) (hv : ∀ r ∈ flatT t, ∀ v ∈ r.ks, 0 ≤ v.n ∧ v.n < 18446744073709551616) : rdT 100 (cellT t) = t := by
  have hd := chkB_dep t h
  have hin' : ∀ r ∈ flatT t, inR r = true := List.all_eq_true.1 hin
  obtain ⟨pa, rg, us, cs, ks, ps⟩ := t
  unfold chkB at h
  split at h
  · cases h
  · split at h
    · cases h
    · next c1 c2 =>
      simp only [Bool.or_eq_true, decide_eq_true_eq, not_or, Bool.not_eq_true', Bool.not_eq_false] at c2
      have hl := c1
      unfold longB at hl
      simp only [Bool.or_eq_true, decide_eq_true_eq, not_or] at hl
      have hs := c2.2
      have hrg : 0 ≤ rg := by
        unfold soundB inB at hs
        simp only [Bool.and_eq_true, decide_eq_true_eq] at hs
        omega
      have hu : us = [] := List.eq_nil_of_length_eq_zero (by omega)
      rw [Pr.dep_mk] at hd
      refine back_core 100 pa rg us cs ks ps 0 0 ⟨hrg, by omega⟩ hs (by omega) (by omega) (by rw [hu]; rfl) (hin' _ (flatT_self _)) (hv _ (flatT_self _)) (fun e => by cases e) (fun D' e q hq => ?_)
      have h2 : chkL rg us.length 1 1 ps = ((chkL rg us.length 1 1 ps).1, 0) := Prod.ext rfl h
      obtain ⟨n', m', hq2⟩ := chkL_good ps _ _ _ _ _ h2 q hq
      obtain ⟨i, hi, he⟩ := List.getElem_of_mem hq
      have := pdeps_get i hi
      rw [he] at this
      exact rd_back q _ _ _ _ _ hq2 (by omega) (by omega) (fun r hr => hin' r (flatT_kid hq hr)) (fun r hr => hv r (flatT_kid hq hr)) D' (by omega)

theorem cnts_map {α : Type} {f : α → Tr} {k : Nat} {l : List α} (h : ∀ x ∈ l, (f x).cnt ≤ k) : cnts (l.map f) ≤ k * l.length := by
  induction l with
  | nil => simp [cnts_nil]
  | cons a l ih =>
    rw [List.map_cons, cnts_cons, List.length_cons, Nat.mul_succ]
    have := h a List.mem_cons_self
    have := ih (fun x hx => h x (List.mem_cons_of_mem _ hx))
    omega
theorem cnt_lis (l : List Tr) : (lisT l).cnt = 1 + cnts l := by unfold lisT; rw [Tr.cnt_mk]
theorem cnt_num (n : Int) : (numT n).cnt = 1 := by unfold numT; rw [Tr.cnt_mk, cnts_nil]
theorem cnt_up (u : Upp) : (upT u).cnt ≤ 5 := by unfold upT; rw [cnt_lis]; simp only [cnts_cons, cnts_nil, cnt_num]; omega
theorem cnt_ins (u : Ins) : (insT u).cnt ≤ 5 := by unfold insT; rw [cnt_lis]; simp only [cnts_cons, cnts_nil, cnt_num]; omega
theorem cnt_vl (v : Vl) : (vlT v).cnt ≤ 5 := by
  rw [vlT_of]
  split
  · rw [cnt_lis]; simp only [cnts_cons, cnts_nil, cnt_num, Tr.cnt_mk]; omega
  · split
    · rw [cnt_lis]; simp only [cnts_cons, cnts_nil, cnt_num, Tr.cnt_mk]; omega
    · rw [cnt_lis]; simp only [cnts_cons, cnts_nil, cnt_num]; omega
theorem cell_cnt : ∀ t : Pr, (cellT t).cnt ≤ 7 * t.cnt := by
  refine Pr.ind' fun pa rg us cs ks ps ih => ?_
  have h6 : cnts (ps.map cellT) ≤ 7 * pcnts ps := by
    induction ps with
    | nil => simp [cnts_nil]
    | cons a l ihl =>
      rw [List.map_cons, cnts_cons, pcnts_cons]
      have := ih a List.mem_cons_self
      have := ihl (fun x hx => ih x (List.mem_cons_of_mem _ hx))
      omega
  rw [cellT_mk, cnt_lis, Pr.cnt_mk]
  simp only [cnts_cons, cnts_nil, cnt_num, cnt_lis]
  have h3 := cnts_map (l := us) (fun u _ => cnt_up u)
  have h4 := cnts_map (l := cs) (fun u _ => cnt_ins u)
  have h5 := cnts_map (l := ks) (fun u _ => cnt_vl u)
  omega
theorem cell_fc : ∀ (t : Pr) (D : Nat), fcF D (cellT t) ≤ t.cnt := by
  refine Pr.ind' fun pa rg us cs ks ps ih => ?_
  intro D
  cases D with
  | zero => exact pcnt_pos _
  | succ m =>
    have h6 : ((ps.map cellT).map (fcF m)).sum ≤ pcnts ps := by
      induction ps with
      | nil => simp
      | cons a l ihl =>
        rw [List.map_cons, List.map_cons, List.sum_cons, pcnts_cons]
        have := ih a List.mem_cons_self m
        have := ihl (fun x hx => ih x (List.mem_cons_of_mem _ hx))
        omega
    rw [cellT_mk, fcF, Pr.cnt_mk]
    simp only [at_lis, List.getD_cons_zero, List.getD_cons_succ, many_lis]
    omega
theorem stx_num (n : Int) : Stx (numT n) := by unfold numT; rw [Stx_mk]; exact ⟨by decide, fun t h => by cases h⟩
theorem stx_lis {l : List Tr} (h : ∀ t ∈ l, Stx t) : Stx (lisT l) := by unfold lisT; rw [Stx_mk]; exact ⟨by decide, h⟩
theorem stx_map {α : Type} {f : α → Tr} {l : List α} (h : ∀ x ∈ l, Stx (f x)) : Stx (lisT (l.map f)) := stx_lis (fun t ht => by obtain ⟨x, hx, rfl⟩ := List.mem_map.1 ht; exact h x hx)
theorem cell_stx {w : World} : ∀ (t : Pr) (x : Six), PR w t x → Stx (cellT t) := by
  refine Pr.ind' fun pa rg us cs ks ps ih => ?_
  intro x h
  rw [PR_mk] at h
  obtain ⟨-, -, -, -, -, -, hk, f, -, hch⟩ := h
  rw [cellT_mk]
  refine stx_lis (fun t ht => ?_)
  simp only [List.mem_cons, List.not_mem_nil, or_false] at ht
  rcases ht with rfl | rfl | rfl | rfl | rfl | rfl
  · exact stx_num _
  · exact stx_num _
  · exact stx_map (fun u _ => stx_lis (fun t ht => by simp only [List.mem_cons, List.not_mem_nil, or_false] at ht; rcases ht with rfl | rfl <;> exact stx_num _))
  · exact stx_map (fun u _ => stx_lis (fun t ht => by simp only [List.mem_cons, List.not_mem_nil, or_false] at ht; rcases ht with rfl | rfl | rfl | rfl <;> exact stx_num _))
  · refine stx_map (fun v hv => ?_)
    have hs := (hk.2 v hv).2.2.1
    unfold far at hs
    rw [vlT_of]
    split
    · exact stx_lis (fun t ht => by simp only [List.mem_cons, List.not_mem_nil, or_false] at ht; rcases ht with rfl | rfl; exact stx_num _; rw [Stx_mk]; exact ⟨by decide, fun t h => by cases h⟩)
    · split
      · exact stx_lis (fun t ht => by simp only [List.mem_cons, List.not_mem_nil, or_false] at ht; rcases ht with rfl | rfl; exact stx_num _; rw [Stx_mk]; exact ⟨hs, fun t h => by cases h⟩)
      · exact stx_lis (fun t ht => by simp only [List.mem_cons, List.not_mem_nil, or_false] at ht; subst ht; exact stx_num _)
  · refine stx_map (fun q hq => ?_)
    obtain ⟨i, hi, rfl⟩ := List.getElem_of_mem hq
    exact ih _ hq _ (hch i hi)
theorem pr_nums {w : World} : ∀ (t : Pr) (x : Six), PR w t x → ∀ r ∈ flatT t, ∀ v ∈ r.ks, 0 ≤ v.n ∧ v.n < 18446744073709551616 := by
  refine Pr.ind' fun pa rg us cs ks ps ih => ?_
  intro x h r hr
  rw [PR_mk] at h
  obtain ⟨-, -, -, -, -, -, hk, f, -, hch⟩ := h
  rw [flatT_mk] at hr
  rcases flatL_mem ps _ r hr with hr | ⟨q, hq, hr⟩
  · rw [List.mem_singleton.1 hr]
    exact fun v hv => (hk.2 v hv).2.1
  · obtain ⟨i, hi, rfl⟩ := List.getElem_of_mem hq
    exact ih _ hq _ (hch i hi) r hr
end Pg

end Go.Proofs.YtcblknghkgihcaaDoor
namespace Go.Proofs.YtcblknghkgihcaaDoor
set_option maxRecDepth 100000
open Go.RowKit Crc Txt Pg

theorem all_fail {α : Type} {f : α → Bool} {l : List α} (i : Nat) (h : i < l.length) (e : f l[i] = false) : l.all f = false := by
  rw [List.all_eq_false]
  exact ⟨l[i], List.getElem_mem h, by simp [e]⟩
theorem ins_cases (q r s : Int) (p : Int) : insIn ⟨p, q, r, s⟩ = true ∧ (¬ q < 0) ∧ (¬ q > 131072) ∧ (¬ r < 0) ∧ (¬ r > 131072) ∧ (¬ s < 0) ∧ (¬ s > 131072) ∨ insIn ⟨p, q, r, s⟩ = false ∧ (q < 0 ∨ (¬ q < 0) ∧ q > 131072 ∨ (¬ q < 0) ∧ (¬ q > 131072) ∧ r < 0 ∨ (¬ q < 0) ∧ (¬ q > 131072) ∧ (¬ r < 0) ∧ r > 131072 ∨ (¬ q < 0) ∧ (¬ q > 131072) ∧ (¬ r < 0) ∧ (¬ r > 131072) ∧ s < 0 ∨ (¬ q < 0) ∧ (¬ q > 131072) ∧ (¬ r < 0) ∧ (¬ r > 131072) ∧ (¬ s < 0) ∧ s > 131072) := by
  unfold insIn
  simp only [decide_eq_true_eq, decide_eq_false_iff_not]
  omega

set_option maxHeartbeats 4000000 in
theorem inside_any (L : List Pr) (y : Nat → Six) (av : Option Addr) (N capv : Nat) (W w : World) (hN : N = L.length) (h : SL w (.slice av N capv) N 6 (fun i j u => u = (y i).at j)) (hk : ∀ i (h : i < L.length), PR W L[i] (y i)) (hW : Below W.heap.size W w) :
    Calls Tryd.prog 15 #[.slice av N capv] w fun e w' => e = .returned (.bool (inL L)) ∧ Below w.heap.size w w' := by
  have HSL := hide_p h
  have HKD := (show Hid (∀ i (h : i < L.length), PR W L[i] (y i)) from hk)
  have HN := hide_p hN
  have HHW := hide_p hW
  obtain ⟨av', c', e', hvl, hvc, hl4⟩ := h.val
  unfold far at hl4
  obtain ⟨R, hR⟩ : ∃ R, R = inL L := ⟨_, rfl⟩
  have HR := hide_p hR
  rw [← hR]
  clear h hk hN hW e' hR hvl hvc
  go_enter Tryd.func15, Tryd.ntmps15
  go_wp2_with fail
  go_loopw [3, 4, 5] (fun t3 t4 t5 wr => ∃ (i : Nat), i ≤ N ∧ t3 = .int .i64 i ∧ Hid ((L.take i).all inR = true) ∧ Hid (Below w.heap.size w wr)) (fun t3 _ _ _ => N - (intOf t3).toNat)
  case atStart => exact ⟨0, Nat.zero_le _, rfl, rfl, Below.refl _ _⟩
  case round =>
    obtain ⟨i, hi, rfl, HA, HB5⟩ := hrel
    by_cases c : i < N
    · have i1 : i < L.length := by rw [← HN.out]; exact c
      obtain ⟨-, g, o, rfl, -, -, -, e3, -, -⟩ := SP.get HSL.out c
      have hq := HKD.out i i1
      have HLi : Hid (inR L[i] = false → R = false) := fun e => by rw [HR.out]; exact all_fail i i1 e
      have HTK : Hid ((L.take (i + 1)).all inR = inR L[i]) := by
        show _ = _
        rw [List.take_succ_eq_append_getElem i1, List.all_append, HA.out]
        simp
      generalize L[i] = q at *
      have hqc : SI W (y i).c q.cs := by
        obtain ⟨qpa, qrg, qus, qcs, qks, qps⟩ := q
        rw [PR_mk] at hq
        exact hq.2.2.2.2.2.1
      have HQR : Hid (inR q = q.cs.all insIn) := rfl
      obtain ⟨ac, cc, hac, hcl, hcc, lc⟩ := hqc.1.val
      rw [hac] at e3
      have HQC : Hid (SI W (.slice ac q.cs.length cc) q.cs) := by rw [← hac]; exact hqc
      have HE3 := hide_p e3
      unfold far at lc
      obtain ⟨M, hM⟩ : ∃ M, M = q.cs.length := ⟨_, rfl⟩
      have HM := hide_p hM
      rw [← hM] at hcl lc
      clear hq hqc hac hM e3
      go_wp2_with fail
      go_loopw [4, 5] (fun t4 t5 wr => ∃ (k : Nat), k ≤ M ∧ t4 = .int .i64 k ∧ Hid ((q.cs.take k).all insIn = true) ∧ Hid (Below w.heap.size w wr)) (fun t4 _ _ => M - (intOf t4).toNat)
      case atStart => exact ⟨0, Nat.zero_le _, rfl, rfl, HB5⟩
      case round =>
        obtain ⟨k, hk, rfl, HAk, HB6⟩ := hrel
        have e3 : wr.cell? ⟨g, o + i * 6 + 3, none⟩ = some (.slice ac M cc) := by rw [HM.out]; exact cell_kept HB6.out (Nat.le_refl _) HE3.out
        by_cases ck : k < M
        · have k1 : k < q.cs.length := by rw [← HM.out]; exact ck
          have hbW : Below W.heap.size W wr := HHW.out.trans (HB6.out.mono HHW.out.size)
          obtain ⟨-, gc, oc, rfl, op, xa, xb, xc, hl, -, f0, f1, f2, f3⟩ := (HQC.out.kept hbW (Nat.le_refl _)).get k1
          have HF : Hid (insIn ⟨op, xa, xb, xc⟩ = false → R = false) := fun e => HLi.out (by rw [HQR.out]; exact all_fail k k1 (by rw [hl]; exact e))
          have HTk : Hid ((q.cs.take (k + 1)).all insIn = insIn ⟨op, xa, xb, xc⟩) := by
            show _ = _
            rw [List.take_succ_eq_append_getElem k1, List.all_append, HAk.out, hl]
            simp
          have HB7 : Hid (Below w.heap.size w (wr.alloc (.cells #[.int .i64 op, .int .i64 xa, .int .i64 xb, .int .i64 xc] 58))) := HB6.out.alloc HB6.out.size _
          obtain ⟨w7, hw7⟩ : ∃ w7, w7 = wr.alloc (.cells #[.int .i64 op, .int .i64 xa, .int .i64 xb, .int .i64 xc] 58) := ⟨_, rfl⟩
          rw [← hw7] at HB7
          have z0 : w7.cell? ⟨wr.heap.size, 0, none⟩ = some (.int .i64 op) := by rw [hw7]; simp
          have z1 : w7.cell? ⟨wr.heap.size, 1, none⟩ = some (.int .i64 xa) := by rw [hw7]; simp
          have z2 : w7.cell? ⟨wr.heap.size, 2, none⟩ = some (.int .i64 xb) := by rw [hw7]; simp
          have z3 : w7.cell? ⟨wr.heap.size, 3, none⟩ = some (.int .i64 xc) := by rw [hw7]; simp
          have hic := ins_cases xa xb xc op
          clear hl hbW
          go_upto_region 8 with fail
          rw [← hw7]
          clear hw7 f0 f1 f2 f3 e3
          rcases hic with ⟨ht, b1, b2, b3, b4, b5, b6⟩ | ⟨ht, hbad⟩
          · rw [ht] at HTk
            clear ht
            go_wp2
            go_roundw
            case rel => exact ⟨k + 1, by omega, by go_num, HTk, HB7⟩
            case measure => simp [intOf]; omega
          · have hRf := HF.out ht
            subst hRf
            clear ht
            rcases hbad with b1 | ⟨b1, b2⟩ | ⟨b1, b2, b3⟩ | ⟨b1, b2, b3, b4⟩ | ⟨b1, b2, b3, b4, b5⟩ | ⟨b1, b2, b3, b4, b5, b6⟩
            all_goals
              go_wp2
              go_ret
              exact ⟨rfl, HB7.out⟩
        · have e : k = M := by omega
          have hA : inR q = true := by
            have h1 := HAk.out
            rw [List.take_of_length_le (by have := HM.out; omega)] at h1
            exact h1
          have HTK2 : Hid ((L.take (i + 1)).all inR = true) := by show _ = _; rw [HTK.out]; exact hA
          subst e
          clear hA
          go_wp2
          go_roundw
          case rel => exact ⟨i + 1, by omega, by go_num, HTK2, HB6⟩
          case measure => simp [intOf]; omega
    · have e : i = N := by omega
      have hA : R = true := by
        have h1 := HA.out
        rw [List.take_of_length_le (by have := HN.out; omega)] at h1
        rw [HR.out]
        exact h1
      have HB5' := HB5
      subst e hA
      go_wp2
      go_ret
      exact ⟨rfl, HB5'.out⟩

end Go.Proofs.YtcblknghkgihcaaDoor
namespace Go.Proofs.YtcblknghkgihcaaDoor
set_option maxRecDepth 100000
open Go.RowKit Crc Txt Pg

theorem sl_zero {w : World} {P : Pr} {x : Six} {a : Option Addr} {n c : Nat} (h : PR w P x) (hP : P = zP) (hc : x.c = .slice a n c) : n = 0 := by
  subst hP
  unfold zP at h
  rw [PR_mk] at h
  obtain ⟨a', c', e, -⟩ := h.2.2.2.2.2.1.1.val
  rw [hc] at e
  injection e with _ e _

/-- What the three of FromCell's answers are. -/
structure Ans (t : Pr) (O : Bool) (P : Pr) (E : Int) : Prop where
  e : E = errE O
  bad : O = false → P = zP
  good : chkB t = 0 → inL (flatT t) = true → O = true ∧ P = t
  cnt : P.cnt ≤ 100000

set_option maxHeartbeats 8000000 in
theorem progCells_walk (t : Pr) (x : Six) (w : World) (h : PR w t x) (hT : Ot w) (hTB : TB w) :
    Calls Tryd.prog 3 #[x.v] w fun e w' => e = .returned (.bool true) ∧ Below w.heap.size w w' := by
  have HPT := hide_p h
  have HT := hide_p hT
  have HTB := hide_p hTB
  have h00 := hT.1
  have hforms := six_form (PR.prs _ _ h)
  have hsm := small_law t x
  have hnum := pr_nums t x h
  have hstx := cell_stx t x h
  have hccn := cell_cnt t
  have hcfc := cell_fc t
  have HLV : Hid (∀ w', Below w.heap.size w w' → Calls Tryd.prog 6 #[] w' fun e w'' => e = .returned (.bool true) ∧ Below w'.heap.size w' w'') := fun w' hb => glives_any w' (HT.out.below hb h00) (HTB.out.below hb)
  obtain ⟨C, hC⟩ : ∃ C, C = cellT t := ⟨_, rfl⟩
  obtain ⟨O, hO⟩ : ∃ O, O = (decide (chkB (rdT 100 C) = 0) && sameT (cellT (rdT 100 C)) C) := ⟨_, rfl⟩
  obtain ⟨P, hP⟩ : ∃ P, P = outP O (rdT 100 C) := ⟨_, rfl⟩
  obtain ⟨E, hE⟩ : ∃ E, E = errE O := ⟨_, rfl⟩
  have HANS : Hid (t.cnt ≤ 3000 → Ans t O P E) := by
    intro hcn
    refine ⟨hE, fun ho => by rw [hP, ho]; rfl, fun h1 h2 => ?_, ?_⟩
    · have hb : rdT 100 C = t := by rw [hC]; exact back t h1 h2 hnum
      have ho : O = true := by rw [hO, hb, hC, h1, sameT_refl]; rfl
      refine ⟨ho, ?_⟩
      rw [hP, ho, hb]
      rfl
    · rw [hP]
      unfold outP
      split
      · have := rd_cnt 100 C
        rw [hC] at this ⊢
        omega
      · show (Pr.mk 0 0 [] [] [] []).cnt ≤ _
        rw [Pr.cnt_mk, pcnts_nil]
        simp
  have HOW : Hid (∀ w', Below w.heap.size w w' → t.cnt ≤ 3000 → Calls Tryd.prog 8 #[x.v] w' fun e w'' => ∃ v' : Value, e = .returned v' ∧ Below w'.heap.size w' w'' ∧ Calls Tryd.prog 7 #[v'] w'' (Copd C w'')) := fun w' hb hc => by
    refine (ownP_any t x w' (PR.kept hb (Nat.le_refl _) _ _ HPT.out) (by omega)).mono ?_
    rintro e w'' ⟨x', he, hp, hb2⟩
    refine ⟨x'.v, he, hb2, ?_⟩
    rw [hC]
    exact toCell_any t x' w'' w'' (PRS.pr _ _ hp) (Below.refl _ _) (by omega)
  have HFC : Hid (t.cnt ≤ 3000 → ∀ v' w', CR w' C v' → Below w.heap.size w w' → Calls Tryd.prog 11 #[v'] w' fun e w'' => ∃ (pa rg : Int) (a1 : Option Addr) (n1 c1 : Nat) (a2 : Option Addr) (n2 c2 : Nat) (a3 : Option Addr) (n3 c3 : Nat) (a4 : Option Addr) (n4 c4 : Nat), e = .returned (.tuple #[.agg #[.int .i64 pa, .int .i64 rg, .slice a1 n1 c1, .slice a2 n2 c2, .slice a3 n3 c3, .slice a4 n4 c4], .int .i64 E]) ∧ Below w'.heap.size w' w'' ∧ PR w'' P ⟨pa, rg, .slice a1 n1 c1, .slice a2 n2 c2, .slice a3 n3 c3, .slice a4 n4 c4⟩) := by
    intro hc v' w' hcr hb
    have hro := read_ok (C.dep + 101) C (by omega) (by omega)
    refine (fromCell_any (C.dep + 101) C v' w' hcr (by rw [hC]; exact hstx) (by omega) (by rw [hC]; omega) (by rw [hC]; exact Nat.le_trans (hcfc _) (by omega)) (HT.out.below hb h00)).mono ?_
    rintro e w'' ⟨pa, rg, a1, n1, c1, a2, n2, c2, a3, n3, c3, a4, n4, c4, he, hb2, hp⟩
    rw [hro, ← hO] at he hp
    refine ⟨pa, rg, a1, n1, c1, a2, n2, c2, a3, n3, c3, a4, n4, c4, by rw [hE]; exact he, hb2, ?_⟩
    have e2 : outP O (rdT (C.dep + 101) C) = P := by
      rw [hP]
      unfold outP
      cases hOO : O with
      | false => simp only [Bool.false_eq_true, if_false]
      | true =>
        have h1 := hro
        rw [← hO, hOO] at h1
        simp only [Bool.and_eq_true, decide_eq_true_eq] at h1
        simp only [if_true]
        exact read_eq (C.dep + 101) C (by omega) h1.2
    rw [e2] at hp
    exact hp
  have HRC : Hid (t.cnt ≤ 3000 → ∀ v' w', CR w' C v' → Calls Tryd.prog 12 #[v'] w' fun e w'' => ∃ (pa rg : Int) (a1 : Option Addr) (n1 c1 : Nat) (a2 : Option Addr) (n2 c2 : Nat) (a3 : Option Addr) (n3 c3 : Nat) (a4 : Option Addr) (n4 c4 : Nat), e = .returned (.tuple #[.agg #[.int .i64 pa, .int .i64 rg, .slice a1 n1 c1, .slice a2 n2 c2, .slice a3 n3 c3, .slice a4 n4 c4], .int .i64 E]) ∧ Below w'.heap.size w' w'' ∧ PR w'' P ⟨pa, rg, .slice a1 n1 c1, .slice a2 n2 c2, .slice a3 n3 c3, .slice a4 n4 c4⟩) := by
    intro hc v' w' hcr
    refine (rfromCell_any C v' w' hcr (by rw [hC]; exact hstx) (by rw [hC]; omega)).mono ?_
    rintro e w'' ⟨pa, rg, a1, n1, c1, a2, n2, c2, a3, n3, c3, a4, n4, c4, he, hb2, hp⟩
    rw [← hO] at he hp
    exact ⟨pa, rg, a1, n1, c1, a2, n2, c2, a3, n3, c3, a4, n4, c4, by rw [hE]; exact he, hb2, by rw [hP]; exact hp⟩
  have HTX : Hid (t.cnt ≤ 3000 → ∀ w' v, Below w.heap.size w w' → CR w' C v → Calls Tryd.prog 10 #[x.v] w' fun e w'' => ∃ v', e = .returned v' ∧ Below w'.heap.size w' w'' ∧ Calls Tryd.prog 9 #[v, v'] w'' (fun e w3 => e = .returned (.bool true) ∧ Below w''.heap.size w'' w3)) := by
    intro hc w' v hb hcr
    refine (rtoCell_any t x w w' HPT.out hb (by omega)).mono ?_
    rintro e w'' ⟨v', he, hcs, hb2⟩
    refine ⟨v', he, hb2, ?_⟩
    have := same_any (C.dep + 1) C C v v' w'' (by omega) (hcr.kept hb2 (Nat.le_refl _)) (by rw [hC]; exact hcs.cr)
    rw [sameT_refl] at this
    exact this
  have HSA : Hid (P.cnt ≤ 100000 → ∀ (x y : Six) W w', PR W P x → PR W P y → Below W.heap.size W w' → Calls Tryd.prog 13 #[x.v, y.v] w' fun e w'' => e = .returned (.bool true) ∧ Below w'.heap.size w' w'') := by
    intro hc x y W w' hx hy hb
    have := rsameP_any P P x y W w' hx hy hb hc hc
    rw [sameT_refl] at this
    exact this
  have HSB : Hid (P.cnt ≤ 100000 → P = t → ∀ (y : Six) W w', PR W P y → PR W t x → Below W.heap.size W w' → Calls Tryd.prog 13 #[y.v, x.v] w' fun e w'' => e = .returned (.bool true) ∧ Below w'.heap.size w' w'') := by
    intro hc he y W w' hx hy hb
    have := rsameP_any P t y x W w' hx hy hb hc (by rw [← he]; exact hc)
    rw [he, sameT_refl] at this
    exact this
  have HCK : Hid (∀ w', Below w.heap.size w w' → Calls Tryd.prog 14 #[x.v] w' fun e w'' => e = .returned (.int .i64 (chkB t)) ∧ Below w'.heap.size w' w'') := fun w' hb => rCheck_any t x w' (PR.kept hb (Nat.le_refl _) _ _ HPT.out)
  have HFL : Hid (t.cnt ≤ 3000 → ∀ w', Below w.heap.size w w' → Calls Tryd.prog 16 #[x.v] w' fun e w'' => ∃ v', e = .returned v' ∧ Below w'.heap.size w' w'' ∧ Calls Tryd.prog 15 #[v'] w'' (fun e w3 => e = .returned (.bool (inL (flatT t))) ∧ Below w''.heap.size w'' w3)) := by
    intro hc w' hb
    refine (rflat_any t x w w' HPT.out hb (by omega)).mono ?_
    rintro e w'' ⟨v', y, he, hfw, hb2⟩
    have hl := flatT_len t
    have hsl : SL w'' v' (flatT t).length 6 (fun i j u => u = (y i).at j) := SL.of_owns hfw.own (by unfold far; omega) (fun _ _ _ _ => rfl)
    obtain ⟨av, capv, hv4, -, -, -⟩ := hsl.val
    subst hv4
    refine ⟨_, he, hb2, inside_any (flatT t) y av _ capv w'' w'' rfl hsl (fun i hi => PR.kept (hb.trans (hb2.mono hb.size)) (Nat.le_refl _) _ _ (hfw.kid i hi)) (Below.refl _ _)⟩
  obtain ⟨K, hK⟩ : ∃ K, K = chkB t := ⟨_, rfl⟩
  obtain ⟨I, hI⟩ : ∃ I, I = inL (flatT t) := ⟨_, rfl⟩
  rw [← hK] at HCK
  rw [← hI] at HFL
  have HGOOD : Hid (t.cnt ≤ 3000 → K = 0 → I = true → O = true ∧ P = t) := fun hc h1 h2 => (HANS.out hc).good (by rw [← hK]; exact h1) (by rw [← hI]; exact h2)
  obtain ⟨pa, rg, vu, vc, vk, vp⟩ := x
  simp only at hforms
  obtain ⟨a1, n1, c1, a2, n2, c2, a3, n3, c3, a4, n4, c4, rfl, rfl, rfl, rfl⟩ := hforms
  unfold Six.v at HOW hsm HTX HCK HFL ⊢
  simp only at HOW hsm HTX HCK HFL ⊢
  obtain ⟨w1, hw1⟩ : ∃ w1, w1 = w.alloc (.cells #[.int .i64 pa, .int .i64 rg, .slice a1 n1 c1, .slice a2 n2 c2, .slice a3 n3 c3, .slice a4 n4 c4] 27) := ⟨_, rfl⟩
  have HB1 : Hid (Below w.heap.size w w1) := by rw [hw1]; exact (Below.refl _ _).alloc (Nat.le_refl _) _
  have HA1 : Hid (w1.heap[w.heap.size]? = some (.cells #[.int .i64 pa, .int .i64 rg, .slice a1 n1 c1, .slice a2 n2 c2, .slice a3 n3 c3, .slice a4 n4 c4] 27 (0, 0))) := by show _ = _; rw [hw1]; exact heap_alloc_new _ _
  have HX : Hid (∀ wq, Below w1.heap.size w1 wq → wq.cell? ⟨w.heap.size, 0, none⟩ = some (.int .i64 pa) ∧ wq.cell? ⟨w.heap.size, 1, none⟩ = some (.int .i64 rg) ∧ wq.cell? ⟨w.heap.size, 2, none⟩ = some (.slice a1 n1 c1) ∧ wq.cell? ⟨w.heap.size, 3, none⟩ = some (.slice a2 n2 c2) ∧ wq.cell? ⟨w.heap.size, 4, none⟩ = some (.slice a3 n3 c3) ∧ wq.cell? ⟨w.heap.size, 5, none⟩ = some (.slice a4 n4 c4)) := fun wq hq => block6 ((hq.block _ (blk_lt HA1.out)).trans HA1.out)
  obtain ⟨x0, x1, x2, x3, x4, x5⟩ := HX.out w1 (Below.refl _ _)
  have hsm1 := hsm w1 (PR.kept HB1.out (Nat.le_refl _) _ _ HPT.out)
  clear h hT hTB hsm hnum hstx hccn hcfc hC hO hP hE hK hI
  go_enter Tryd.func3, Tryd.ntmps3
  go_upto_region 1 with fail
  rw [← hw1]
  clear hw1
  go_wp2_with fail
  refine hsm1.mono ?_
  rintro e w2 ⟨ok, rfl, hok, hb2⟩
  have HB2 : Hid (Below w1.heap.size w1 w2) := hb2
  have HB2w : Hid (Below w.heap.size w w2) := HB1.out.trans (hb2.mono HB1.out.size)
  clear x0 x1 x2 x3 x4 x5 hb2 hsm1
  cases ok with
  | false =>
    have hl := HLV.out w2 HB2w.out
    clear hok
    go_wp2_with fail
    refine hl.mono ?_
    rintro e w3 ⟨rfl, hb3⟩
    have HB3w : Hid (Below w.heap.size w w3) := HB2w.out.trans (hb3.mono HB2w.out.size)
    clear hl hb3
    go_wp2
    go_ret
    exact ⟨rfl, HB3w.out⟩
  | true =>
    have HCN := hide_p (hok rfl).1
    have HAN := hide_p (HANS.out HCN.out)
    clear hok HANS
    obtain ⟨x0, x1, x2, x3, x4, x5⟩ := HX.out w2 HB2.out
    have ho := HOW.out w2 HB2w.out HCN.out
    go_wp2_with fail
    refine ho.mono ?_
    rintro e w3 ⟨v3, rfl, hb3, htc⟩
    have HB3 : Hid (Below w1.heap.size w1 w3) := HB2.out.trans (hb3.mono HB2.out.size)
    have HB3w : Hid (Below w.heap.size w w3) := HB2w.out.trans (hb3.mono HB2w.out.size)
    clear x0 x1 x2 x3 x4 x5 hb3 ho HOW
    go_wp2_with fail
    refine htc.mono ?_
    rintro e w4 ⟨v4, rfl, hcs, hb4⟩
    have HB4 : Hid (Below w1.heap.size w1 w4) := HB3.out.trans (hb4.mono HB3.out.size)
    have HB4w : Hid (Below w.heap.size w w4) := HB3w.out.trans (hb4.mono HB3w.out.size)
    have HCR := hide_p hcs.cr
    obtain ⟨k, n, s, a, m, cap, rfl⟩ := hcs.form
    clear htc hcs hb4
    unfold cellV at HCR ⊢
    obtain ⟨w5, hw5⟩ : ∃ w5, w5 = w4.alloc (.cells #[.int .i64 k, .int .u64 n, .string s, .slice a m cap] 33) := ⟨_, rfl⟩
    obtain ⟨b5, hb5⟩ : ∃ b5, b5 = w4.heap.size := ⟨_, rfl⟩
    have HB45 : Hid (Below w4.heap.size w4 w5 ∧ w5.heap[b5]? = some (.cells #[.int .i64 k, .int .u64 n, .string s, .slice a m cap] 33 (0, 0))) := by
      show _ ∧ _
      rw [hw5, hb5]
      exact ⟨(Below.refl _ _).alloc (Nat.le_refl _) _, heap_alloc_new _ _⟩
    have HB5 : Hid (Below w1.heap.size w1 w5) := HB4.out.trans (HB45.out.1.mono HB4.out.size)
    have HB5w : Hid (Below w.heap.size w w5) := HB4w.out.trans (HB45.out.1.mono HB4w.out.size)
    have HCR5 : Hid (∀ wq, Below w5.heap.size w5 wq → CR wq C (.agg #[.int .i64 k, .int .u64 n, .string s, .slice a m cap])) := fun wq hq => (HCR.out.kept HB45.out.1 (Nat.le_refl _)).kept hq (Nat.le_refl _)
    have HY : Hid (∀ wq, Below w5.heap.size w5 wq → wq.cell? ⟨b5, 0, none⟩ = some (.int .i64 k) ∧ wq.cell? ⟨b5, 1, none⟩ = some (.int .u64 n) ∧ wq.cell? ⟨b5, 2, none⟩ = some (.string s) ∧ wq.cell? ⟨b5, 3, none⟩ = some (.slice a m cap)) := fun wq hq => block4 ((hq.block _ (blk_lt HB45.out.2)).trans HB45.out.2)
    go_upto_region 4 with fail
    rw [← hw5, ← hb5]
    clear hw5 hb5
    obtain ⟨x0, x1, x2, x3, x4, x5⟩ := HX.out w5 HB5.out
    obtain ⟨y0, y1, y2, y3⟩ := HY.out w5 (Below.refl _ _)
    have hq5 : Below w5.heap.size w5 w5.drew := (Below.refl _ _).drew
    have HTX5 := (show Hid (∀ wq, Below w5.heap.size w5 wq → Calls Tryd.prog 10 #[.agg #[.int .i64 pa, .int .i64 rg, .slice a1 n1 c1, .slice a2 n2 c2, .slice a3 n3 c3, .slice a4 n4 c4]] wq fun e w'' => ∃ v', e = .returned v' ∧ Below wq.heap.size wq w'' ∧ Calls Tryd.prog 9 #[.agg #[.int .i64 k, .int .u64 n, .string s, .slice a m cap], v'] w'' (fun e w3 => e = .returned (.bool true) ∧ Below w''.heap.size w'' w3)) from fun wq hq => HTX.out HCN.out wq _ (HB5w.out.trans (hq.mono HB5w.out.size)) (HCR5.out wq hq))
    go_region_held3 (fun w' => w'.cell? ⟨w.heap.size, 0, none⟩ = some (.int .i64 pa) ∧ w'.cell? ⟨w.heap.size, 1, none⟩ = some (.int .i64 rg) ∧ w'.cell? ⟨w.heap.size, 2, none⟩ = some (.slice a1 n1 c1) ∧ w'.cell? ⟨w.heap.size, 3, none⟩ = some (.slice a2 n2 c2) ∧ w'.cell? ⟨w.heap.size, 4, none⟩ = some (.slice a3 n3 c3) ∧ w'.cell? ⟨w.heap.size, 5, none⟩ = some (.slice a4 n4 c4) ∧ w'.cell? ⟨b5, 0, none⟩ = some (.int .i64 k) ∧ w'.cell? ⟨b5, 1, none⟩ = some (.int .u64 n) ∧ w'.cell? ⟨b5, 2, none⟩ = some (.string s) ∧ w'.cell? ⟨b5, 3, none⟩ = some (.slice a m cap))
      (first
        | exact keep10 (by assumption) hbS
        | go_keep)
      (first
        | (go_at_call 9; refine hsa.mono ?_; rintro e w7 ⟨rfl, hbS⟩; have hq7 := hq6.trans (hbS.mono hq6.size))
        | (go_at_call 10; refine (HTX5.out _ hq5).mono ?_; rintro e w6 ⟨v6, rfl, hbS, hsa⟩; have hq6 := hq5.trans (hbS.mono hq5.size)))
    have HB7 : Hid (Below w5.heap.size w5 w7) := hq7
    have HB7p : Hid (Below w1.heap.size w1 w7) := HB5.out.trans (hq7.mono HB5.out.size)
    have HB7w : Hid (Below w.heap.size w w7) := HB5w.out.trans (hq7.mono HB5w.out.size)
    clear x0 x1 x2 x3 x4 x5 y0 y1 y2 y3 hq5 hq6 hq7 HTX5 HTX hsa
    obtain ⟨y0, y1, y2, y3⟩ := HY.out w7 HB7.out
    go_wp2_with fail
    refine (HFC.out HCN.out _ w7 (HCR5.out w7 HB7.out) HB7w.out).mono ?_
    rintro e w8 ⟨qa, qg, e1, m1, d1, e2, m2, d2, e3, m3, d3, e4, m4, d4, rfl, hb8, hp8⟩
    obtain ⟨w9, hw9⟩ : ∃ w9, w9 = w8.alloc (.cells #[.int .i64 qa, .int .i64 qg, .slice e1 m1 d1, .slice e2 m2 d2, .slice e3 m3 d3, .slice e4 m4 d4] 27) := ⟨_, rfl⟩
    obtain ⟨b9, hb9⟩ : ∃ b9, b9 = w8.heap.size := ⟨_, rfl⟩
    have HB89 : Hid (Below w8.heap.size w8 w9 ∧ w9.heap[b9]? = some (.cells #[.int .i64 qa, .int .i64 qg, .slice e1 m1 d1, .slice e2 m2 d2, .slice e3 m3 d3, .slice e4 m4 d4] 27 (0, 0))) := by
      show _ ∧ _
      rw [hw9, hb9]
      exact ⟨(Below.refl _ _).alloc (Nat.le_refl _) _, heap_alloc_new _ _⟩
    have HB79 : Hid (Below w7.heap.size w7 w9) := hb8.trans (HB89.out.1.mono hb8.size)
    have HB9 : Hid (Below w5.heap.size w5 w9) := HB7.out.trans (HB79.out.mono HB7.out.size)
    have HB9p : Hid (Below w1.heap.size w1 w9) := HB7p.out.trans (HB79.out.mono HB7p.out.size)
    have HB9w : Hid (Below w.heap.size w w9) := HB7w.out.trans (HB79.out.mono HB7w.out.size)
    have HP9 : Hid (∀ wq, Below w9.heap.size w9 wq → PR wq P ⟨qa, qg, .slice e1 m1 d1, .slice e2 m2 d2, .slice e3 m3 d3, .slice e4 m4 d4⟩) := fun wq hq => PR.kept hq (Nat.le_refl _) _ _ (PR.kept HB89.out.1 (Nat.le_refl _) _ _ hp8)
    have HZ : Hid (∀ wq, Below w9.heap.size w9 wq → wq.cell? ⟨b9, 0, none⟩ = some (.int .i64 qa) ∧ wq.cell? ⟨b9, 1, none⟩ = some (.int .i64 qg) ∧ wq.cell? ⟨b9, 2, none⟩ = some (.slice e1 m1 d1) ∧ wq.cell? ⟨b9, 3, none⟩ = some (.slice e2 m2 d2) ∧ wq.cell? ⟨b9, 4, none⟩ = some (.slice e3 m3 d3) ∧ wq.cell? ⟨b9, 5, none⟩ = some (.slice e4 m4 d4)) := fun wq hq => block6 ((hq.block _ (blk_lt HB89.out.2)).trans HB89.out.2)
    clear y0 y1 y2 y3 hb8 hp8 HFC
    go_upto_region 7 with fail
    rw [← hw9, ← hb9]
    clear hw9 hb9
    obtain ⟨y0, y1, y2, y3⟩ := HY.out w9 HB9.out
    go_wp2_with fail
    refine (HRC.out HCN.out _ w9 (HCR5.out w9 HB9.out)).mono ?_
    rintro e w10 ⟨ra, rb, f1, r1, g1, f2, r2, g2, f3, r3, g3, f4, r4, g4, rfl, hb10, hp10⟩
    obtain ⟨w11, hw11⟩ : ∃ w11, w11 = w10.alloc (.cells #[.int .i64 ra, .int .i64 rb, .slice f1 r1 g1, .slice f2 r2 g2, .slice f3 r3 g3, .slice f4 r4 g4] 27) := ⟨_, rfl⟩
    obtain ⟨b11, hb11⟩ : ∃ b11, b11 = w10.heap.size := ⟨_, rfl⟩
    have HB1011 : Hid (Below w10.heap.size w10 w11 ∧ w11.heap[b11]? = some (.cells #[.int .i64 ra, .int .i64 rb, .slice f1 r1 g1, .slice f2 r2 g2, .slice f3 r3 g3, .slice f4 r4 g4] 27 (0, 0))) := by
      show _ ∧ _
      rw [hw11, hb11]
      exact ⟨(Below.refl _ _).alloc (Nat.le_refl _) _, heap_alloc_new _ _⟩
    have HB11r : Hid (Below w9.heap.size w9 w11) := hb10.trans (HB1011.out.1.mono hb10.size)
    have HB11p : Hid (Below w1.heap.size w1 w11) := HB9p.out.trans (HB11r.out.mono HB9p.out.size)
    have HB11w : Hid (Below w.heap.size w w11) := HB9w.out.trans (HB11r.out.mono HB9w.out.size)
    have HP11 : Hid (PR w11 P ⟨ra, rb, .slice f1 r1 g1, .slice f2 r2 g2, .slice f3 r3 g3, .slice f4 r4 g4⟩) := PR.kept HB1011.out.1 (Nat.le_refl _) _ _ hp10
    clear y0 y1 y2 y3 hb10 hp10 HRC
    go_upto_region 8 with fail
    rw [← hw11, ← hb11]
    clear hw11 hb11
    obtain ⟨z0, z1, z2, z3, z4, z5⟩ := HZ.out w11 HB11r.out
    obtain ⟨u0, u1, u2, u3, u4, u5⟩ := block6 HB1011.out.2
    have hs := HSA.out HAN.out.cnt ⟨qa, qg, .slice e1 m1 d1, .slice e2 m2 d2, .slice e3 m3 d3, .slice e4 m4 d4⟩ ⟨ra, rb, .slice f1 r1 g1, .slice f2 r2 g2, .slice f3 r3 g3, .slice f4 r4 g4⟩ w11 w11 (HP9.out w11 HB11r.out) HP11.out (Below.refl _ _)
    unfold Six.v at hs
    simp only at hs
    go_wp2_with fail
    refine hs.mono ?_
    rintro e w12 ⟨rfl, hb12⟩
    have HB12r : Hid (Below w9.heap.size w9 w12) := HB11r.out.trans (hb12.mono HB11r.out.size)
    have HB12p : Hid (Below w1.heap.size w1 w12) := HB11p.out.trans (hb12.mono HB11p.out.size)
    have HB12w : Hid (Below w.heap.size w w12) := HB11w.out.trans (hb12.mono HB11w.out.size)
    clear z0 z1 z2 z3 z4 z5 u0 u1 u2 u3 u4 u5 hs hb12 HSA
    obtain ⟨x0, x1, x2, x3, x4, x5⟩ := HX.out w12 HB12p.out
    go_wp2_with fail
    refine (HCK.out w12 HB12w.out).mono ?_
    rintro e w13 ⟨rfl, hb13⟩
    have HB13r : Hid (Below w9.heap.size w9 w13) := HB12r.out.trans (hb13.mono HB12r.out.size)
    have HB13p : Hid (Below w1.heap.size w1 w13) := HB12p.out.trans (hb13.mono HB12p.out.size)
    have HB13w : Hid (Below w.heap.size w w13) := HB12w.out.trans (hb13.mono HB12w.out.size)
    clear x0 x1 x2 x3 x4 x5 hb13 HCK
    by_cases hK : K = 0
    · subst hK
      obtain ⟨x0, x1, x2, x3, x4, x5⟩ := HX.out w13 HB13p.out
      go_wp2_with fail
      refine (HFL.out HCN.out w13 HB13w.out).mono ?_
      rintro e w14 ⟨v14, rfl, hb14, hin⟩
      have HB14r : Hid (Below w9.heap.size w9 w14) := HB13r.out.trans (hb14.mono HB13r.out.size)
      have HB14p : Hid (Below w1.heap.size w1 w14) := HB13p.out.trans (hb14.mono HB13p.out.size)
      have HB14w : Hid (Below w.heap.size w w14) := HB13w.out.trans (hb14.mono HB13w.out.size)
      clear x0 x1 x2 x3 x4 x5 hb14 HFL
      go_wp2_with fail
      refine hin.mono ?_
      rintro e w15 ⟨rfl, hb15⟩
      have HB15r : Hid (Below w9.heap.size w9 w15) := HB14r.out.trans (hb15.mono HB14r.out.size)
      have HB15p : Hid (Below w1.heap.size w1 w15) := HB14p.out.trans (hb15.mono HB14p.out.size)
      have HB15w : Hid (Below w.heap.size w w15) := HB14w.out.trans (hb15.mono HB14w.out.size)
      clear hin hb15
      cases I with
      | true =>
        obtain ⟨ho, hp⟩ := HGOOD.out HCN.out (by first | rfl | trivial) (by first | rfl | trivial)
        have hE : E = 0 := by rw [HAN.out.e, ho]; rfl
        obtain ⟨x0, x1, x2, x3, x4, x5⟩ := HX.out w15 HB15p.out
        obtain ⟨z0, z1, z2, z3, z4, z5⟩ := HZ.out w15 HB15r.out
        have hs := HSB.out HAN.out.cnt hp ⟨qa, qg, .slice e1 m1 d1, .slice e2 m2 d2, .slice e3 m3 d3, .slice e4 m4 d4⟩ w15 w15 (HP9.out w15 HB15r.out) (PR.kept HB15w.out (Nat.le_refl _) _ _ HPT.out) (Below.refl _ _)
        unfold Six.v at hs
        simp only at hs
        clear ho hp HGOOD HAN
        subst hE
        go_wp2_with fail
        refine hs.mono ?_
        rintro e w16 ⟨rfl, hb16⟩
        have HB16w : Hid (Below w.heap.size w w16) := HB15w.out.trans (hb16.mono HB15w.out.size)
        have hl := HLV.out w16 HB16w.out
        clear x0 x1 x2 x3 x4 x5 z0 z1 z2 z3 z4 z5 hs hb16
        go_wp2_with fail
        refine hl.mono ?_
        rintro e w17 ⟨rfl, hb17⟩
        have HB17w : Hid (Below w.heap.size w w17) := HB16w.out.trans (hb17.mono HB16w.out.size)
        clear hl hb17
        go_wp2
        go_ret
        exact ⟨rfl, HB17w.out⟩
      | false =>
        cases O with
        | true =>
          have hE : E = 0 := HAN.out.e
          subst hE
          have hl := HLV.out w15 HB15w.out
          go_wp2_with fail
          refine hl.mono ?_
          rintro e w17 ⟨rfl, hb17⟩
          have HB17w : Hid (Below w.heap.size w w17) := HB15w.out.trans (hb17.mono HB15w.out.size)
          clear hl hb17
          go_wp2
          go_ret
          exact ⟨rfl, HB17w.out⟩
        | false =>
          have hE : E = 4 := HAN.out.e
          subst hE
          have hm : m2 = 0 := sl_zero (HP9.out w15 HB15r.out) (HAN.out.bad rfl) rfl
          obtain ⟨z0, z1, z2, z3, z4, z5⟩ := HZ.out w15 HB15r.out
          rw [hm] at z3
          have hl := HLV.out w15 HB15w.out
          clear hm
          go_wp2_with fail
          refine hl.mono ?_
          rintro e w17 ⟨rfl, hb17⟩
          have HB17w : Hid (Below w.heap.size w w17) := HB15w.out.trans (hb17.mono HB15w.out.size)
          clear hl hb17 z0 z1 z2 z3 z4 z5
          go_wp2
          go_ret
          exact ⟨rfl, HB17w.out⟩
    · have hKb : (K != 0) = true := by simpa using hK
      cases O with
      | true =>
        have hE : E = 0 := HAN.out.e
        subst hE
        have hl := HLV.out w13 HB13w.out
        go_wp2_with fail
        refine hl.mono ?_
        rintro e w17 ⟨rfl, hb17⟩
        have HB17w : Hid (Below w.heap.size w w17) := HB13w.out.trans (hb17.mono HB13w.out.size)
        clear hl hb17
        go_wp2
        go_ret
        exact ⟨rfl, HB17w.out⟩
      | false =>
        have hE : E = 4 := HAN.out.e
        subst hE
        have hm : m2 = 0 := sl_zero (HP9.out w13 HB13r.out) (HAN.out.bad rfl) rfl
        obtain ⟨z0, z1, z2, z3, z4, z5⟩ := HZ.out w13 HB13r.out
        rw [hm] at z3
        have hl := HLV.out w13 HB13w.out
        clear hm
        go_wp2_with fail
        refine hl.mono ?_
        rintro e w17 ⟨rfl, hb17⟩
        have HB17w : Hid (Below w.heap.size w w17) := HB13w.out.trans (hb17.mono HB13w.out.size)
        clear hl hb17 z0 z1 z2 z3 z4 z5
        go_wp2
        go_ret
        exact ⟨rfl, HB17w.out⟩

end Go.Proofs.YtcblknghkgihcaaDoor
namespace Go.Proofs.YtcblknghkgihcaaDoor.progCells
set_option maxRecDepth 100000
open Go.ChangeShapes Go.WideShapes Go.ChangeAt Go.RowKit

theorem contract (H : Type) (enc : TypeId × Value → H) (W : World) (base : Nat) (args : Array Value) (ds gs : List (DataW H)) (before : List MemPlace)
    (hval0 : ∀ (j : Nat) t v, Tryd.f3.params[j]? = some t → args[j]? = some v → Value.okWide Tryd.prog W .any base t v)
    (hW : DataW.Whole enc Tryd.prog Tryd.f3.params.toList Rows.progCellsSpec.vars false W args.toList ds gs before) (hL : laidMetH Tryd.prog laidAll W)
    (hsz : (DataW.weightsEach Tryd.prog (Tryd.f3.params.toList ++ (OpenSpec.ofChange Rows.progCellsSpec).bare.plain.varTypes Tryd.prog) (ds ++ gs)).all (· ≤ reachBytes) = true) :
    Calls Tryd.prog 3 args W fun e W' => ∃ v, e = .returned v ∧ Rows.progCellsSpec.post enc Tryd.prog Tryd.f3 false true false false W args v W' := by
  have hval : ∀ (j : Nat) t v, Tryd.f3.params[j]? = some t → args[j]? = some v → Value.okWide Tryd.prog W .any base t v := hval0
  have hW' := hW
  obtain ⟨p, q, hA0, hV, rfl, hfz, hnd⟩ := hW
  have hA : DataW.TrodAll enc Tryd.prog W 0 (fun _ => true) true Tryd.f3.params.toList args.toList ds p := hA0
  rw [Tryd.params3] at hA hval hsz
  obtain ⟨v0, vs0, d0, ds0, p0, q0, hargs, rfl, rfl, h0, r0⟩ := trodAll_cons hA
  obtain ⟨rfl, rfl, rfl⟩ := trodAll_nil r0
  obtain rfl : args = #[v0] := by cases args; simp_all
  obtain ⟨rfl, rfl⟩ := trodVars_none hV
  have lt0 : ∀ x ∈ p0, x.block < W.heap.size := by obtain ⟨m, hm⟩ := h0; exact DataW.trod_lt m _ _ _ hm
  obtain ⟨t0, x0, rfl, b0⟩ := open_proto (hval 0 27 v0 rfl rfl) h0 hsz (j := 0) rfl rfl
  obtain ⟨hT, hTB⟩ := bothTabs hL
  clear hA0 hval0
  refine (progCells_walk t0 x0 W b0 hT hTB).mono fun e W' ⟨he, bel⟩ => ?_
  subst he
  exact ⟨_, rfl, _, _, _, [], _, [], hW', trodAll_mk1 (shut_bool Tryd.underlying4 _), (trodAll_cons_mk (Below.trod laidOut (by kernel_rfl) (of_decide_eq_true (by kernel_rfl)) h0 bel lt0) trodAll_mk0), rfl, bel.frame _, fun h => by cases h⟩

theorem laid_met (os : Os) : laidMet Tryd.prog Rows.progCellsRow.laid ((World.doorLaid Tryd.prog 4000 os).forCall (fun _ _ => 0) ⟨#[], #[.agg #[.int .i64 0, .int .i64 0, .slice none 0 0, .slice none 0 0, .slice none 0 0, .slice none 0 0]], []⟩).memory :=
  laidMet_of_run' 8 (by kernel_rfl) (by kernel_rfl)
theorem reads (os : Os) {H : Type} (enc : TypeId × Value → H) : ∃ places, DataW.whole enc Tryd.prog ((World.doorLaid Tryd.prog 4000 os).forCall (fun _ _ => 0) ⟨#[], #[.agg #[.int .i64 0, .int .i64 0, .slice none 0 0, .slice none 0 0, .slice none 0 0, .slice none 0 0]], []⟩).memory Tryd.f3.params.toList Rows.progCellsSpec.vars false (#[.agg #[.int .i64 0, .int .i64 0, .slice none 0 0, .slice none 0 0, .slice none 0 0, .slice none 0 0]] : Array Value).toList 8 = some ([.agg [.lit (.int .i64 0), .lit (.int .i64 0), .nil, .nil, .nil, .nil]], [], places) :=
  ⟨[], by kernel_rfl⟩

set_option maxRecDepth 100000 in
theorem lifted (os : Os) (started : os.Started) (H : Type) (enc : TypeId × Value → H) (F : Stop.Interp) :
    ReturnsInHanded {} Tryd.checked os 3 .any ((OpenSpec.ofChange Rows.progCellsSpec).preRow enc Tryd.prog Tryd.f3 Rows.progCellsRow.domain false Rows.progCellsRow.laid) (((OpenSpec.ofChange Rows.progCellsSpec).at F).post enc Tryd.prog Tryd.f3 false true false false) := by
  obtain ⟨places, hx⟩ := reads os enc
  refine returnsInHanded_of_row (C := Tryd.checked) (s := OpenSpec.ofChange Rows.progCellsSpec) ownKnob_none started (by kernel_rfl) Tryd.func3
    (witness_row_at (enc := enc) (C := Tryd.checked) false (World.doorLaid Tryd.prog 4000 os) #[.agg #[.int .i64 0, .int .i64 0, .slice none 0 0, .slice none 0 0, .slice none 0 0, .slice none 0 0]] rfl (by kernel_rfl) (by kernel_rfl) (by kernel_rfl)
      (OpenSpec.preRow_of_cond 8 hx (by kernel_rfl) (fun k hk => by cases hk) (by kernel_rfl) (laid_met os))) ?_
  intro W base args ds gs before hval hW _ _ hsz hL _ _
  exact contract H enc W base args ds gs before hval hW hL hsz

theorem said : Rows.ProgCellsSaid :=
  OpenClaim.holds_of_cond 3 Tryd.f3 rfl rfl rfl rfl rfl rfl rfl ⟨rfl, rfl, rfl, rfl, rfl⟩ rfl rfl rfl rfl rfl (by kernel_rfl) Tryd.func3 (by kernel_rfl)
    (of_decide_eq_true (by kernel_rfl)) (by unfold Func.isWrapper; first | (rw [if_pos (by decide +kernel)]; kernel_rfl) | (rw [if_neg (by decide +kernel)]; exact ⟨rfl, rfl⟩))
    (fun os started H enc _ F => by rw [OpenClaim.pre_eq_preRow]; exact lifted os started H enc F)

theorem plain (f : FuncId) (fn : Func) (hf : Tryd.pinned.checked.prog.funcNamed "minstrel/minstrellaw13.ProgCells" = some f) (hfn : Tryd.pinned.checked.prog.funcs[f]? = some fn) :
    false = Tryd.pinned.checked.prog.looks [] ∧ ∀ (j : Nat) t, fn.params[j]? = some t → Tryd.pinned.checked.prog.wantsStandIn t = false := by
  obtain rfl : f = 3 := Option.some.inj ((show Tryd.prog.funcNamed "minstrel/minstrellaw13.ProgCells" = some 3 by kernel_rfl).symm.trans hf) |>.symm
  obtain rfl : fn = Tryd.f3 := (Option.some.inj (Tryd.func3.symm.trans hfn)).symm
  refine ⟨by kernel_rfl, fun j t ht => ?_⟩
  rw [Tryd.params3] at ht
  have hm : t ∈ [27] := by simpa using Array.mem_of_getElem? ht
  have hall : ([27].all fun u => !Tryd.prog.wantsStandIn u) = true := by kernel_rfl
  exact (show Tryd.prog.wantsStandIn t = false by simpa using List.all_eq_true.1 hall t hm)

/-- The statement. -/
theorem proved : Rows.ProgCellsCardSaid :=
  Claim7.holds_tied_plain_at .later [] _ _ _ _ said (fun _ h => by cases h) (by kernel_rfl) (fun _ h => by cases h) progCells_row_tie rfl ⟨rfl, rfl⟩ (by kernel_rfl) rfl plain (by kernel_rfl)
end Go.Proofs.YtcblknghkgihcaaDoor.progCells
