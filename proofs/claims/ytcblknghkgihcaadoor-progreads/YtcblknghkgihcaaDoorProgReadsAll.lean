/-
  ProgReads, for every input: any tree of data is read as a function, or refused, by the landed FromCell as by the reference's (or it is greater than the law looks at), and a least function is checked and printed. Conditions: the table of orders and the library's tables, which the card ties; the tree handed in holds itself nowhere (the row's own cell).
-/
import Derived.Test.YtcblknghkgihcaaDoorPgLives
import Derived.Test.YtcblknghkgihcaaDoorCards
import Derived.Test.YtcblknghkgihcaaDoorTie
import Derived.SizedLaws
import Derived.Carry
import Derived.ShutString
import Derived.OpenShut
import Derived.Deep.DeepHandedRow
import Derived.Lib.LaidTab
import Derived.LaidMore
import Derived.Stop.LaidErr
import Derived.Test.YtcblknghkgihcaaDoorCdOwn
import Derived.Test.YtcblknghkgihcaaDoorGB
import Derived.ChangeArms
import Derived.JoinedCond
import Derived.HandedShaped
import Derived.Test.YtcblknghkgihcaaDoorGR
import Derived.Test.YtcblknghkgihcaaDoorGA
namespace Go.Proofs.YtcblknghkgihcaaDoor
set_option maxRecDepth 100000
open Go.ChangeShapes Go.WideShapes Go.ChangeAt Go.RowKit Txt Pg

theorem ownKnob_none : ownKnob Tryd.prog.godebug = none := by kernel_rfl
theorem laidOut : laidOutB Tryd.prog = true := by kernel_rfl
theorem gOrd : Tryd.prog.globalNamed "minstrel/prog.orders" = some 0 := by kernel_rfl
theorem gOrdType : (Tryd.prog.globals[0]?).map (·.type) = some 131 := by kernel_rfl
theorem cellsOrd : Tryd.prog.cellsOf 131 = 190 := by kernel_rfl
theorem cellsRowO : Tryd.prog.cellsOf 119 = 5 := by kernel_rfl
theorem cellsOp3 : Tryd.prog.cellsOf 117 = 3 := by kernel_rfl
theorem cellsOp1 : Tryd.prog.cellsOf 116 = 1 := by kernel_rfl
theorem cellsTxt : Tryd.prog.cellsOf 9 = 1 := by kernel_rfl
theorem cellsInt1 : Tryd.prog.cellsOf 3 = 1 := by kernel_rfl

def laidAll : List (String × DataW Unit) := [("math/bits.deBruijn32tab", Rows.laid_math_bits_deBruijn32tab), ("math/bits.deBruijn64tab", Rows.laid_math_bits_deBruijn64tab), ("internal/strconv.uint64pow10", Rows.laid_internal_strconv_uint64pow10), ("minstrel/prog.orders", Rows.laid_minstrel_prog_orders)]
def laidOrd : List (String × DataW Unit) := [("minstrel/prog.orders", Rows.laid_minstrel_prog_orders)]
theorem pow_data13 : (Rows.laid_internal_strconv_uint64pow10 : DataW Unit) = Lib.tabData .u64 Lib.pow10Tab := by kernel_rfl
def rowD (x : Rw) : DataW Unit := .agg [.lit (.string x.1), .lit (.int .i64 x.2.1), .agg [.lit (.int .i64 x.2.2.1), .lit (.int .i64 x.2.2.2.1), .lit (.int .i64 x.2.2.2.2)]]
theorem ord_data : (Rows.laid_minstrel_prog_orders : DataW Unit) = .agg (ordL.map rowD) := by kernel_rfl

/-- An array of numbers that reads as a list of numbers holds them, cell for cell. -/
theorem ints_of {H : Type} {enc : TypeId × Value → H} {P : Program} {w : World} {base : Nat} {sp : Nat → Bool} {held : Bool} {fuel : Nat} {t e : TypeId} {n : Nat} {cs : List Value} {ds : List (DataW H)} {p : List MemPlace}
    (ht : P.underlying t = some (.array n e)) (he : P.underlying e = some (.int .i64)) (hce : P.cellsOf e = 1) (hct : P.cellsOf t = n)
    (h : DataW.trod enc P w base sp held fuel t cs = some (.agg ds, p)) (i : Nat) (hi : i < n) : ∃ z : Int, cs[i]? = some (.int .i64 z) ∧ ds[i]? = some (.lit (.int .i64 z)) := by
  cases fuel with
  | zero => simp [DataW.trod] at h
  | succ fuel =>
    simp only [DataW.trod, ht, hce, hct, Nat.mul_one] at h
    split at h
    · obtain ⟨xs, hm, hx⟩ := Option.map_eq_some_iff.1 h
      have hxs : xs.map (·.1) = ds := by
        have := congrArg Prod.fst hx
        simpa using this
      obtain ⟨b, hb, hf⟩ := Lib.mapM_at hm i i (by simp [hi])
      obtain ⟨z, hc, rfl, _⟩ := DataW.trod_int he hf
      refine ⟨z, ?_, ?_⟩
      · have := congrArg (·[0]?) hc
        simpa [List.getElem?_take, List.getElem?_drop] using this
      · rw [← hxs]; simp [hb]
    · cases h

theorem list5 {l : List Value} (h : l.length = 5) : ∃ a b c d e, l = [a, b, c, d, e] := by
  match l, h with
  | [a, b, c, d, e], _ => exact ⟨a, b, c, d, e, rfl⟩

/-- A row of the table that reads as it should holds it, cell for cell. -/
theorem row_of {enc : TypeId × Value → Unit} {w : World} {base : Nat} {sp : Nat → Bool} {held : Bool} {fuel : Nat} {cs : List Value} {x : Rw} {p : List MemPlace}
    (h : DataW.trod enc Tryd.prog w base sp held fuel 119 cs = some (rowD x, p)) : cs = [.string (bs x.1), .int .i64 x.2.1, .int .i64 x.2.2.1, .int .i64 x.2.2.2.1, .int .i64 x.2.2.2.2] := by
  obtain ⟨xs, n, rfl, hd, hlen, hxl, hf⟩ := DataW.trod_struct Tryd.underlying119 h
  rw [cellsRowO] at hlen
  obtain ⟨c0, c1, c2, c3, c4, rfl⟩ := list5 hlen
  have hd1 : [DataW.lit (.string x.1), .lit (.int .i64 x.2.1), .agg [.lit (.int .i64 x.2.2.1), .lit (.int .i64 x.2.2.2.1), .lit (.int .i64 x.2.2.2.2)]] = xs.map (·.1) := by
    have := congrArg Prod.fst hd
    unfold rowD at this
    simpa using this
  match xs, hxl, hd1, hf with
  | [y0, y1, y2], _, hd1, hf =>
    simp only [List.map_cons, List.map_nil, List.cons.injEq, and_true] at hd1
    obtain ⟨e0, e1, e2⟩ := hd1
    have h0 : DataW.trod enc Tryd.prog w base sp held n 9 (([c0, c1, c2, c3, c4].drop 0).take (Tryd.prog.cellsOf 9)) = some y0 := hf 0 _ rfl
    have h1 : DataW.trod enc Tryd.prog w base sp held n 3 (([c0, c1, c2, c3, c4].drop 1).take (Tryd.prog.cellsOf 3)) = some y1 := hf 1 _ rfl
    have h2 : DataW.trod enc Tryd.prog w base sp held n 117 (([c0, c1, c2, c3, c4].drop 2).take (Tryd.prog.cellsOf 117)) = some y2 := hf 2 _ rfl
    simp only [cellsTxt, cellsInt1, cellsOp3, List.drop_zero, List.drop_succ_cons, List.take_succ_cons, List.take_zero] at h0 h1 h2
    obtain ⟨s0, hs0, hy0, _⟩ := DataW.trod_string Tryd.underlying9 h0
    obtain ⟨z1, hz1, hy1, _⟩ := DataW.trod_int Tryd.underlying3 h1
    obtain ⟨d2, p2⟩ := y2
    simp only at e2
    subst e2
    obtain ⟨a0, f0, g0⟩ := ints_of Tryd.underlying117 Tryd.underlying116 cellsOp1 cellsOp3 h2 0 (by decide)
    obtain ⟨a1, f1, g1⟩ := ints_of Tryd.underlying117 Tryd.underlying116 cellsOp1 cellsOp3 h2 1 (by decide)
    obtain ⟨a2, f2, g2⟩ := ints_of Tryd.underlying117 Tryd.underlying116 cellsOp1 cellsOp3 h2 2 (by decide)
    simp at f0 f1 f2 g0 g1 g2
    injection hs0 with hs0 _
    injection hz1 with hz1 _
    subst hs0 hz1 f0 f1 f2
    rw [hy0] at e0
    rw [hy1] at e1
    simp at e0 e1
    rw [e0, e1, g0, g1, g2, bs_data]

/-- What the row's list gives: the table's cells. -/
theorem ordTab {W : World} (h : laidMet Tryd.prog laidOrd W) : Ot W := by
  obtain ⟨ps, ⟨g', t', cs, fuel, p, q, hg', ht', hvar, hd, _, _⟩, _⟩ := h
  obtain rfl := Option.some.inj (gOrd.symm.trans hg')
  obtain rfl := Option.some.inj (gOrdType.symm.trans ht')
  rw [ord_data] at hd
  have key : ∀ r, r < 38 → ∀ j, j < 5 → W.cell? ⟨0, r * 5 + j, none⟩ = [Value.string (bs (ordL.getD r noRow).1), .int .i64 (ordL.getD r noRow).2.1, .int .i64 (ordL.getD r noRow).2.2.1, .int .i64 (ordL.getD r noRow).2.2.2.1, .int .i64 (ordL.getD r noRow).2.2.2.2][j]? := by
    intro r hr j hj
    cases fuel with
    | zero => simp [DataW.trod] at hd
    | succ fuel =>
      simp only [DataW.trod, Tryd.underlying131, cellsRowO, cellsOrd] at hd
      split at hd
      · obtain ⟨xs, hm, hx⟩ := Option.map_eq_some_iff.1 hd
        have hxs : xs.map (·.1) = ordL.map rowD := by
          have := congrArg Prod.fst hx
          simpa using this
        obtain ⟨b, hb, hf⟩ := Lib.mapM_at hm r r (by simp [hr])
        have hb1 : b.1 = rowD (ordL.getD r noRow) := by
          have h1 := congrArg (·[r]?) hxs
          simp only [List.getElem?_map, hb] at h1
          rw [List.getElem?_eq_getElem (show r < ordL.length from hr)] at h1
          simp only [Option.map_some, Option.some.injEq] at h1
          rw [h1, List.getD_eq_getElem?_getD, List.getElem?_eq_getElem (show r < ordL.length from hr)]
          rfl
        obtain ⟨bd, bp⟩ := b
        simp only at hb1
        subst hb1
        have hrow := row_of hf
        have h7 := World.var?_cell gOrd hvar (r * 5 + j)
        rw [h7, ← hrow, List.getElem?_take_of_lt hj, List.getElem?_drop]
        simp
      · cases hd
  have k0 := fun r hr => key r hr 0 (by decide)
  exact ⟨World.block_lt_of_cell? W ⟨0, 0, none⟩ (k0 0 (by decide)), fun r hr => ⟨key r hr 0 (by decide), key r hr 1 (by decide), key r hr 2 (by decide), key r hr 3 (by decide), key r hr 4 (by decide)⟩⟩

theorem bothTabs {W : World} (h : laidMetH Tryd.prog laidAll W) : Ot W ∧ TB W := by
  have h0 : laidMet Tryd.prog laidAll W := h
  have h1 : laidMet Tryd.prog [("internal/strconv.uint64pow10", Rows.laid_internal_strconv_uint64pow10), ("minstrel/prog.orders", Rows.laid_minstrel_prog_orders)] W := laidMet.tail (laidMet.tail h0)
  have h2 : laidMet Tryd.prog laidOrd W := laidMet.tail h1
  refine ⟨ordTab h2, ?_⟩
  obtain ⟨g, hg⟩ := Option.isSome_iff_exists.1 (by kernel_rfl : (Tryd.prog.globalNamed "internal/strconv.uint64pow10").isSome = true)
  have hb : ((Tryd.prog.globalNamed "internal/strconv.uint64pow10").bind fun g => (Tryd.prog.globals[g]?).map (·.type)) = some 153 := by kernel_rfl
  rw [hg] at hb
  rw [pow_data13] at h1
  exact Lib.tabIs_of_head hg hb Tryd.underlying153 Tryd.underlying30 (by kernel_rfl) (by kernel_rfl) h1

/-- A whole number that came in. -/
theorem open_int {W : World} {base : Nat} {v : Value} (hval : Value.okWide Tryd.prog W .any base 3 v) : ∃ k : Int, v = .int .i64 k ∧ i64 k := by
  simp only [Value.okWide, Tryd.underlying3, Cell.okWide] at hval
  cases v <;> simp_all [Cell.ok]
  next a n =>
    have h := hval.2
    simp [IntKind.has, IntKind.min, IntKind.max, IntKind.signed, IntKind.bits] at h
    unfold i64
    omega

end Go.Proofs.YtcblknghkgihcaaDoor
namespace Go.Proofs.YtcblknghkgihcaaDoor
set_option maxRecDepth 100000
open Go.ChangeShapes Go.WideShapes Go.ChangeAt Go.RowKit Txt Pg

theorem cellsPr : Tryd.prog.cellsOf 27 = 6 := by kernel_rfl
theorem cellsUp : Tryd.prog.cellsOf 54 = 2 := by kernel_rfl
theorem cellsIns : Tryd.prog.cellsOf 58 = 4 := by kernel_rfl
theorem cellsVl : Tryd.prog.cellsOf 63 = 4 := by kernel_rfl
theorem cellsRU : Tryd.prog.cellsOf 22 = 1 := by kernel_rfl
theorem cellsRI : Tryd.prog.cellsOf 23 = 1 := by kernel_rfl
theorem cellsRV : Tryd.prog.cellsOf 24 = 1 := by kernel_rfl
theorem cellsRP : Tryd.prog.cellsOf 25 = 1 := by kernel_rfl
theorem cellsBo : Tryd.prog.cellsOf 4 = 1 := by kernel_rfl
theorem cellsNm : Tryd.prog.cellsOf 61 = 1 := by kernel_rfl
theorem bytesUp : Tryd.prog.bytesOf 54 = 16 := by kernel_rfl
theorem bytesIns : Tryd.prog.bytesOf 58 = 32 := by kernel_rfl
theorem bytesVl : Tryd.prog.bytesOf 63 = 40 := by kernel_rfl
theorem bytesPr : Tryd.prog.bytesOf 27 = 112 := by kernel_rfl

theorem some_atP {α : Type} {l : List α} {n i : Nat} (h : l.length = n) (hi : i < n) : ∃ x, l[i]? = some x := ⟨l[i]'(by omega), List.getElem?_eq_getElem (by omega)⟩
theorem list2P {l : List Value} (h : l.length = 2) : ∃ a b, l = [a, b] := by
  match l, h with
  | [a, b], _ => exact ⟨a, b, rfl⟩
theorem list4P {l : List Value} (h : l.length = 4) : ∃ a b c d, l = [a, b, c, d] := by
  match l, h with
  | [a, b, c, d], _ => exact ⟨a, b, c, d, rfl⟩
theorem list6 {l : List Value} (h : l.length = 6) : ∃ a b c d e f, l = [a, b, c, d, e, f] := by
  match l, h with
  | [a, b, c, d, e, f], _ => exact ⟨a, b, c, d, e, f, rfl⟩
theorem spotP {W : World} {a : Addr} {u : Value} (h : W.cell? a = some u) : a.spot = none := by
  obtain ⟨b, o, s⟩ := a
  cases s with
  | none => rfl
  | some k =>
    unfold World.cell? at h
    split at h <;> simp at h
theorem addP (b o n : Nat) : Addr.add ⟨b, o, none⟩ n = ⟨b, o + n, none⟩ := by unfold Addr.add; split <;> simp_all
/-- z cells in a row. -/
theorem cells_at {W : World} {a : Addr} {cs : List Value} {z : Nat} (h : W.cells? 0 a z = some cs) (j : Nat) (hj : j < z) : ∃ c, cs[j]? = some c ∧ W.cell? (a.add j) = some c := by
  unfold World.cells? at h
  rw [if_pos (Nat.zero_le _)] at h
  obtain ⟨b, e, f⟩ := Lib.mapM_at h j j (by simp [hj])
  exact ⟨b, e, f⟩

theorem weights_allP {H : Type} {P : Program} {e : TypeId} : ∀ {ds : List (DataW H)} {d : DataW H}, d ∈ ds → ∀ n ∈ d.weights P e, n ∈ DataW.weightsAll P e ds
  | c :: ds, d, h, n, hn => by
    simp only [DataW.weightsAll, List.mem_append]
    rcases List.mem_cons.1 h with rfl | h
    · exact Or.inl hn
    · exact Or.inr (weights_allP h n hn)

/-- A row that came in, of parts of z cells, each of which is read as G says. -/
theorem row_open {H : Type} {enc : TypeId × Value → H} {W : World} {sp : Nat → Bool} {held : Bool} {fuel : Nat} {ts te : TypeId} {u : Value} {y : DataW H × List MemPlace} {z by' : Nat} (hz : 0 < z) (G : List Value → Prop)
    (ht : Tryd.prog.underlying ts = some (.slice te)) (hce : Tryd.prog.cellsOf te = z) (hby : Tryd.prog.bytesOf te = by') (hb16 : 1 ≤ by')
    (h : DataW.trod enc Tryd.prog W 0 sp held fuel ts [u] = some y) (hw : ∀ m ∈ y.1.weights Tryd.prog ts, m ≤ reachBytes)
    (hG : ∀ q (cs : List Value) (x : DataW H × List MemPlace), q < fuel → DataW.trod enc Tryd.prog W 0 sp held q te cs = some x → (∀ m ∈ x.1.weights Tryd.prog te, m ≤ reachBytes) → G cs) :
    ∃ (n : Nat) (C : Nat → List Value), SL W u n z (fun i j v => (C i)[j]? = some v) ∧ ∀ i, i < n → G (C i) := by
  rcases DataW.trod_slice ht h with ⟨hc, _⟩ | ⟨a, len, cap, elems, rest, q, hq, hc, hy, _, hlc, hcm, hel, hat, _⟩
  · injection hc with hc _
    subst hc
    exact ⟨0, fun _ => [], ⟨none, 0, rfl, Nat.le_refl _, by decide, by unfold far; omega, fun _ => ⟨rfl, rfl⟩, fun x e => by cases e⟩, fun i hi => absurd hi (Nat.not_lt_zero _)⟩
  · injection hc with hc _
    subst hc
    unfold maxLen at hcm
    rw [hy] at hw
    simp only [DataW.weights, ht, hby] at hw
    have hlen : len ≤ far := by
      have := hw _ List.mem_cons_self
      simp only [List.length_map, hel] at this
      unfold reachBytes at this
      unfold far
      have h2 : len * 1 ≤ len * by' := Nat.mul_le_mul_left _ hb16
      have h3 : len * by' ≤ (len + rest.length) * by' := Nat.mul_le_mul_right _ (Nat.le_add_right _ _)
      first | omega | (simp at *; omega)
    rw [hce] at hat
    have key : ∀ i, ∃ l : List Value, i < len → (W.cells? 0 (a.add (i * z)) z = some l) ∧ G l := by
      intro i
      by_cases hi : i < len
      · obtain ⟨x, ex⟩ := some_atP hel hi
        have hb := hat i hi
        rw [ex] at hb
        obtain ⟨cs, hcs, htr⟩ := Option.bind_eq_some_iff.1 hb
        refine ⟨cs, fun _ => ⟨hcs, hG q cs x (by omega) htr (fun m hm => ?_)⟩⟩
        refine hw m (List.mem_cons_of_mem _ (List.mem_append_left _ (weights_allP (d := x.1) ?_ m hm)))
        exact List.mem_map.2 ⟨x, List.mem_of_getElem? ex, rfl⟩
      · exact ⟨[], fun h => absurd h hi⟩
    obtain ⟨C, hC⟩ := Classical.axiomOfChoice key
    refine ⟨len, C, ⟨some a, cap, rfl, hlc, by omega, hlen, (fun e => by cases e), fun x e => ?_⟩, fun i hi => (hC i hi).2⟩
    cases e
    have hsp : 0 < len → a.spot = none := by
      intro h0
      obtain ⟨c, _, hc⟩ := cells_at (hC 0 h0).1 0 hz
      rw [Nat.zero_mul, Addr_add_zero, Addr_add_zero] at hc
      exact spotP hc
    refine ⟨hsp, fun i hi j hj => ?_⟩
    obtain ⟨c, h1, h2⟩ := cells_at (hC i hi).1 j hj
    have h3 := hsp (Nat.lt_of_le_of_lt (Nat.zero_le _) hi)
    obtain ⟨b, o, s⟩ := a
    simp only at h3
    subst h3
    rw [addP, addP] at h2
    exact ⟨c, h2, h1⟩

theorem rows_of {α : Type} : ∀ (n : Nat) (Q : Nat → α → Prop), (∀ i, i < n → ∃ x, Q i x) → ∃ l : List α, l.length = n ∧ ∀ i (h : i < l.length), Q i l[i]
  | 0, _, _ => ⟨[], rfl, fun i h => absurd h (Nat.not_lt_zero _)⟩
  | n + 1, Q, h => by
    obtain ⟨l, hl, hq⟩ := rows_of n Q (fun i hi => h i (by omega))
    obtain ⟨x, hx⟩ := h n (by omega)
    refine ⟨l ++ [x], by simp [hl], fun i hi => ?_⟩
    by_cases c : i < l.length
    · rw [List.getElem_append_left c]; exact hq i c
    · have : i = l.length := by rw [List.length_append, List.length_singleton] at hi; omega
      subst this
      rw [List.getElem_append_right (Nat.le_refl _)]
      simp only [Nat.sub_self, List.getElem_singleton]
      rw [hl]; exact hx

section
variable {H : Type} {enc : TypeId × Value → H} {W : World} {sp : Nat → Bool} {held : Bool}
theorem i64_of {k : Int} (wk : (Lit.int IntKind.i64 k).wf = true) : i64 k := by
  unfold i64
  simpa [Lit.wf, IntKind.min, IntKind.max, IntKind.signed, IntKind.bits] using wk
theorem up_open (q : Nat) (cs : List Value) (x : DataW H × List MemPlace) (h : DataW.trod enc Tryd.prog W 0 sp held q 54 cs = some x) : ∃ u : Upp, cs = [.bool u.own, .int .i64 u.pl] ∧ u.ok := by
  obtain ⟨xs, n, rfl, hd, hlen, hxl, hf⟩ := DataW.trod_struct Tryd.underlying54 h
  rw [cellsUp] at hlen
  obtain ⟨c0, c1, rfl⟩ := list2P hlen
  have h0 : DataW.trod enc Tryd.prog W 0 sp held n 4 (([c0, c1].drop 0).take (Tryd.prog.cellsOf 4)) = xs[0]? := hf 0 _ rfl
  have h1 : DataW.trod enc Tryd.prog W 0 sp held n 3 (([c0, c1].drop 1).take (Tryd.prog.cellsOf 3)) = xs[1]? := hf 1 _ rfl
  obtain ⟨y0, e0⟩ := some_atP hxl (i := 0) (by decide)
  obtain ⟨y1, e1⟩ := some_atP hxl (i := 1) (by decide)
  rw [e0] at h0
  rw [e1] at h1
  simp only [cellsBo, cellsInt1, List.drop_zero, List.drop_succ_cons, List.take_succ_cons, List.take_zero] at h0 h1
  obtain ⟨b, hb, _⟩ := DataW.trod_bool Tryd.underlying4 h0
  obtain ⟨k, hk, _, wk⟩ := DataW.trod_int Tryd.underlying3 h1
  injection hb with hb _
  injection hk with hk _
  subst hb hk
  exact ⟨⟨b, k⟩, rfl, i64_of wk⟩
theorem ins_open (q : Nat) (cs : List Value) (x : DataW H × List MemPlace) (h : DataW.trod enc Tryd.prog W 0 sp held q 58 cs = some x) : ∃ u : Ins, cs = [.int .i64 u.op, .int .i64 u.a, .int .i64 u.b, .int .i64 u.c] ∧ u.ok := by
  obtain ⟨xs, n, rfl, hd, hlen, hxl, hf⟩ := DataW.trod_struct Tryd.underlying58 h
  rw [cellsIns] at hlen
  obtain ⟨c0, c1, c2, c3, rfl⟩ := list4P hlen
  have h0 : DataW.trod enc Tryd.prog W 0 sp held n 3 (([c0, c1, c2, c3].drop 0).take (Tryd.prog.cellsOf 3)) = xs[0]? := hf 0 _ rfl
  have h1 : DataW.trod enc Tryd.prog W 0 sp held n 3 (([c0, c1, c2, c3].drop 1).take (Tryd.prog.cellsOf 3)) = xs[1]? := hf 1 _ rfl
  have h2 : DataW.trod enc Tryd.prog W 0 sp held n 3 (([c0, c1, c2, c3].drop 2).take (Tryd.prog.cellsOf 3)) = xs[2]? := hf 2 _ rfl
  have h3 : DataW.trod enc Tryd.prog W 0 sp held n 3 (([c0, c1, c2, c3].drop 3).take (Tryd.prog.cellsOf 3)) = xs[3]? := hf 3 _ rfl
  obtain ⟨y0, e0⟩ := some_atP hxl (i := 0) (by decide)
  obtain ⟨y1, e1⟩ := some_atP hxl (i := 1) (by decide)
  obtain ⟨y2, e2⟩ := some_atP hxl (i := 2) (by decide)
  obtain ⟨y3, e3⟩ := some_atP hxl (i := 3) (by decide)
  rw [e0] at h0
  rw [e1] at h1
  rw [e2] at h2
  rw [e3] at h3
  simp only [cellsInt1, List.drop_zero, List.drop_succ_cons, List.take_succ_cons, List.take_zero] at h0 h1 h2 h3
  obtain ⟨k0, hk0, _, w0⟩ := DataW.trod_int Tryd.underlying3 h0
  obtain ⟨k1, hk1, _, w1⟩ := DataW.trod_int Tryd.underlying3 h1
  obtain ⟨k2, hk2, _, w2⟩ := DataW.trod_int Tryd.underlying3 h2
  obtain ⟨k3, hk3, _, w3⟩ := DataW.trod_int Tryd.underlying3 h3
  injection hk0 with hk0 _
  injection hk1 with hk1 _
  injection hk2 with hk2 _
  injection hk3 with hk3 _
  subst hk0 hk1 hk2 hk3
  exact ⟨⟨k0, k1, k2, k3⟩, rfl, i64_of w0, i64_of w1, i64_of w2, i64_of w3⟩
theorem vl_open (q : Nat) (cs : List Value) (x : DataW H × List MemPlace) (h : DataW.trod enc Tryd.prog W 0 sp held q 63 cs = some x) (hw : ∀ m ∈ x.1.weights Tryd.prog 63, m ≤ reachBytes) : ∃ u : Vl, cs = [.int .i64 u.k, .int .u64 u.n, .string u.s, .int .i64 u.o] ∧ u.ok := by
  obtain ⟨xs, n, rfl, hd, hlen, hxl, hf⟩ := DataW.trod_struct Tryd.underlying63 h
  rw [cellsVl] at hlen
  obtain ⟨c0, c1, c2, c3, rfl⟩ := list4P hlen
  have h0 : DataW.trod enc Tryd.prog W 0 sp held n 3 (([c0, c1, c2, c3].drop 0).take (Tryd.prog.cellsOf 3)) = xs[0]? := hf 0 _ rfl
  have h1 : DataW.trod enc Tryd.prog W 0 sp held n 61 (([c0, c1, c2, c3].drop 1).take (Tryd.prog.cellsOf 61)) = xs[1]? := hf 1 _ rfl
  have h2 : DataW.trod enc Tryd.prog W 0 sp held n 9 (([c0, c1, c2, c3].drop 2).take (Tryd.prog.cellsOf 9)) = xs[2]? := hf 2 _ rfl
  have h3 : DataW.trod enc Tryd.prog W 0 sp held n 3 (([c0, c1, c2, c3].drop 3).take (Tryd.prog.cellsOf 3)) = xs[3]? := hf 3 _ rfl
  obtain ⟨y0, e0⟩ := some_atP hxl (i := 0) (by decide)
  obtain ⟨y1, e1⟩ := some_atP hxl (i := 1) (by decide)
  obtain ⟨y2, e2⟩ := some_atP hxl (i := 2) (by decide)
  obtain ⟨y3, e3⟩ := some_atP hxl (i := 3) (by decide)
  rw [e0] at h0
  rw [e1] at h1
  rw [e2] at h2
  rw [e3] at h3
  simp only [cellsInt1, cellsNm, cellsTxt, List.drop_zero, List.drop_succ_cons, List.take_succ_cons, List.take_zero] at h0 h1 h2 h3
  obtain ⟨k0, hk0, _, w0⟩ := DataW.trod_int Tryd.underlying3 h0
  obtain ⟨k1, hk1, _, w1⟩ := DataW.trod_int Tryd.underlying61 h1
  obtain ⟨k2, hk2, hy2, w2⟩ := DataW.trod_string Tryd.underlying9 h2
  obtain ⟨k3, hk3, _, w3⟩ := DataW.trod_int Tryd.underlying3 h3
  injection hk0 with hk0 _
  injection hk1 with hk1 _
  injection hk2 with hk2 _
  injection hk3 with hk3 _
  subst hk0 hk1 hk2 hk3
  have hn : 0 ≤ k1 ∧ k1 ≤ 18446744073709551615 := by simpa [Lit.wf, IntKind.min, IntKind.max, IntKind.signed, IntKind.bits] using w1
  have hs : k2.size ≤ far := by
    have h4 := hw k2.data.toList.length (by
      rw [hd]
      simp only [DataW.weights, Tryd.underlying63]
      refine DataW.weights_mem_each (ts := [3, 61, 9, 3]) (j := 2) (t := 9) (d := .lit (.string k2.data.toList)) rfl ?_ _ (by simp [DataW.weights])
      rw [List.getElem?_map, e2, hy2]; rfl)
    unfold reachBytes at h4
    unfold far
    have e : k2.data.toList.length = k2.size := by simp
    omega
  exact ⟨⟨k0, k1, k2, k3⟩, rfl, i64_of w0, ⟨hn.1, by show k1 < 18446744073709551616; omega⟩, hs, i64_of w3⟩

theorem su_of {u : Value} {n : Nat} {C : Nat → List Value} (hs : SL W u n 2 (fun i j v => (C i)[j]? = some v)) (hg : ∀ i, i < n → ∃ x : Upp, C i = [.bool x.own, .int .i64 x.pl] ∧ x.ok) : ∃ us, SU W u us := by
  obtain ⟨l, hl, hq⟩ := rows_of n _ hg
  refine ⟨l, ?_, fun x hx => ?_⟩
  · rw [hl]
    obtain ⟨a, cap, h1, h2, h3, h4, h5, h6⟩ := hs.form
    refine ⟨a, cap, h1, h2, h3, h4, h5, fun x hx => ⟨(h6 x hx).1, fun i hi j hj => ?_⟩⟩
    obtain ⟨v, hv, hF⟩ := (h6 x hx).2 i hi j hj
    have hi2 : i < l.length := by omega
    rw [(hq i hi2).1] at hF
    refine ⟨v, hv, l[i], List.getElem?_eq_getElem hi2, ?_⟩
    have hj2 : j = 0 ∨ j = 1 := by omega
    rcases hj2 with rfl | rfl <;> simpa using hF.symm
  · obtain ⟨i, hi, rfl⟩ := List.getElem_of_mem hx
    exact (hq i hi).2
theorem si_of {u : Value} {n : Nat} {C : Nat → List Value} (hs : SL W u n 4 (fun i j v => (C i)[j]? = some v)) (hg : ∀ i, i < n → ∃ x : Ins, C i = [.int .i64 x.op, .int .i64 x.a, .int .i64 x.b, .int .i64 x.c] ∧ x.ok) : ∃ us, SI W u us := by
  obtain ⟨l, hl, hq⟩ := rows_of n _ hg
  refine ⟨l, ?_, fun x hx => ?_⟩
  · rw [hl]
    obtain ⟨a, cap, h1, h2, h3, h4, h5, h6⟩ := hs.form
    refine ⟨a, cap, h1, h2, h3, h4, h5, fun x hx => ⟨(h6 x hx).1, fun i hi j hj => ?_⟩⟩
    obtain ⟨v, hv, hF⟩ := (h6 x hx).2 i hi j hj
    have hi2 : i < l.length := by omega
    rw [(hq i hi2).1] at hF
    refine ⟨v, hv, l[i], List.getElem?_eq_getElem hi2, ?_⟩
    have hj2 : j = 0 ∨ j = 1 ∨ j = 2 ∨ j = 3 := by omega
    rcases hj2 with rfl | rfl | rfl | rfl <;> simpa using hF.symm
  · obtain ⟨i, hi, rfl⟩ := List.getElem_of_mem hx
    exact (hq i hi).2
theorem sv_of {u : Value} {n : Nat} {C : Nat → List Value} (hs : SL W u n 4 (fun i j v => (C i)[j]? = some v)) (hg : ∀ i, i < n → ∃ x : Vl, C i = [.int .i64 x.k, .int .u64 x.n, .string x.s, .int .i64 x.o] ∧ x.ok) : ∃ us, SV W u us := by
  obtain ⟨l, hl, hq⟩ := rows_of n _ hg
  refine ⟨l, ?_, fun x hx => ?_⟩
  · rw [hl]
    obtain ⟨a, cap, h1, h2, h3, h4, h5, h6⟩ := hs.form
    refine ⟨a, cap, h1, h2, h3, h4, h5, fun x hx => ⟨(h6 x hx).1, fun i hi j hj => ?_⟩⟩
    obtain ⟨v, hv, hF⟩ := (h6 x hx).2 i hi j hj
    have hi2 : i < l.length := by omega
    rw [(hq i hi2).1] at hF
    refine ⟨v, hv, l[i], List.getElem?_eq_getElem hi2, ?_⟩
    have hj2 : j = 0 ∨ j = 1 ∨ j = 2 ∨ j = 3 := by omega
    rcases hj2 with rfl | rfl | rfl | rfl <;> simpa using hF.symm
  · obtain ⟨i, hi, rfl⟩ := List.getElem_of_mem hx
    exact (hq i hi).2
theorem sp_of {u : Value} {n : Nat} {C : Nat → List Value} (hs : SL W u n 6 (fun i j v => (C i)[j]? = some v)) (hg : ∀ i, i < n → ∃ x : Pr × Six, C i = [.int .i64 x.2.pa, .int .i64 x.2.rg, x.2.u, x.2.c, x.2.k, x.2.p] ∧ PR W x.1 x.2) : ∃ (ps : List Pr) (f : Nat → Six), SL W u ps.length 6 (fun i j v => v = (f i).at j) ∧ ∀ i (h : i < ps.length), PR W ps[i] (f i) := by
  obtain ⟨l, hl, hq⟩ := rows_of n _ hg
  subst hl
  refine ⟨l.map (·.1), fun i => if h : i < l.length then l[i].2 else ⟨0, 0, undef, undef, undef, undef⟩, ?_, fun i hi => ?_⟩
  · rw [List.length_map]
    obtain ⟨a, cap, h1, h2, h3, h4, h5, h6⟩ := hs.form
    refine ⟨a, cap, h1, h2, h3, h4, h5, fun x hx => ⟨(h6 x hx).1, fun i hi j hj => ?_⟩⟩
    obtain ⟨v, hv, hF⟩ := (h6 x hx).2 i hi j hj
    have hi2 : i < l.length := hi
    rw [(hq i hi2).1] at hF
    refine ⟨v, hv, ?_⟩
    simp only [dif_pos hi2]
    have hj2 : j = 0 ∨ j = 1 ∨ j = 2 ∨ j = 3 ∨ j = 4 ∨ j = 5 := by omega
    rcases hj2 with rfl | rfl | rfl | rfl | rfl | rfl <;> simpa [Six.at] using hF.symm
  · have hi2 : i < l.length := by rw [List.length_map] at hi; exact hi
    simp only [List.getElem_map, dif_pos hi2]
    exact (hq i hi2).2

theorem proto_open : ∀ (fuel : Nat) (cs : List Value) (x : DataW H × List MemPlace), DataW.trod enc Tryd.prog W 0 sp held fuel 27 cs = some x → (∀ m ∈ x.1.weights Tryd.prog 27, m ≤ reachBytes) → ∃ y : Pr × Six, cs = [.int .i64 y.2.pa, .int .i64 y.2.rg, y.2.u, y.2.c, y.2.k, y.2.p] ∧ PR W y.1 y.2 := by
  intro fuel
  induction fuel using Nat.strongRecOn with
  | _ fuel ih =>
  intro cs x h hw
  obtain ⟨xs, n, hn, hd, hlen, hxl, hf⟩ := DataW.trod_struct Tryd.underlying27 h
  rw [cellsPr] at hlen
  obtain ⟨c0, c1, c2, c3, c4, c5, rfl⟩ := list6 hlen
  have h0 : DataW.trod enc Tryd.prog W 0 sp held n 3 (([c0, c1, c2, c3, c4, c5].drop 0).take (Tryd.prog.cellsOf 3)) = xs[0]? := hf 0 _ rfl
  have h1 : DataW.trod enc Tryd.prog W 0 sp held n 3 (([c0, c1, c2, c3, c4, c5].drop 1).take (Tryd.prog.cellsOf 3)) = xs[1]? := hf 1 _ rfl
  have h2 : DataW.trod enc Tryd.prog W 0 sp held n 22 (([c0, c1, c2, c3, c4, c5].drop 2).take (Tryd.prog.cellsOf 22)) = xs[2]? := hf 2 _ rfl
  have h3 : DataW.trod enc Tryd.prog W 0 sp held n 23 (([c0, c1, c2, c3, c4, c5].drop 3).take (Tryd.prog.cellsOf 23)) = xs[3]? := hf 3 _ rfl
  have h4 : DataW.trod enc Tryd.prog W 0 sp held n 24 (([c0, c1, c2, c3, c4, c5].drop 4).take (Tryd.prog.cellsOf 24)) = xs[4]? := hf 4 _ rfl
  have h5 : DataW.trod enc Tryd.prog W 0 sp held n 25 (([c0, c1, c2, c3, c4, c5].drop 5).take (Tryd.prog.cellsOf 25)) = xs[5]? := hf 5 _ rfl
  obtain ⟨y0, e0⟩ := some_atP hxl (i := 0) (by decide)
  obtain ⟨y1, e1⟩ := some_atP hxl (i := 1) (by decide)
  obtain ⟨y2, e2⟩ := some_atP hxl (i := 2) (by decide)
  obtain ⟨y3, e3⟩ := some_atP hxl (i := 3) (by decide)
  obtain ⟨y4, e4⟩ := some_atP hxl (i := 4) (by decide)
  obtain ⟨y5, e5⟩ := some_atP hxl (i := 5) (by decide)
  rw [e0] at h0
  rw [e1] at h1
  rw [e2] at h2
  rw [e3] at h3
  rw [e4] at h4
  rw [e5] at h5
  simp only [cellsInt1, cellsRU, cellsRI, cellsRV, cellsRP, List.drop_zero, List.drop_succ_cons, List.take_succ_cons, List.take_zero] at h0 h1 h2 h3 h4 h5
  have hw' : ∀ (j : Nat) (tt : TypeId) (d : DataW H), [3, 3, 22, 23, 24, 25][j]? = some tt → (xs.map (·.1))[j]? = some d → ∀ m ∈ d.weights Tryd.prog tt, m ≤ reachBytes := by
    intro j tt d h1 h2 m hm
    refine hw m ?_
    rw [hd]
    simp only [DataW.weights, Tryd.underlying27]
    exact DataW.weights_mem_each (ts := [3, 3, 22, 23, 24, 25]) h1 h2 m hm
  obtain ⟨k0, hk0, _, w0⟩ := DataW.trod_int Tryd.underlying3 h0
  obtain ⟨k1, hk1, _, w1⟩ := DataW.trod_int Tryd.underlying3 h1
  injection hk0 with hk0 _
  injection hk1 with hk1 _
  subst hk0 hk1
  obtain ⟨n2, C2, s2, g2⟩ := row_open (by decide) _ Tryd.underlying22 cellsUp bytesUp (by decide) h2 (hw' 2 _ _ rfl (by rw [List.getElem?_map, e2]; rfl)) (fun q cs x _ h _ => up_open q cs x h)
  obtain ⟨n3, C3, s3, g3⟩ := row_open (by decide) _ Tryd.underlying23 cellsIns bytesIns (by decide) h3 (hw' 3 _ _ rfl (by rw [List.getElem?_map, e3]; rfl)) (fun q cs x _ h _ => ins_open q cs x h)
  obtain ⟨n4, C4, s4, g4⟩ := row_open (by decide) _ Tryd.underlying24 cellsVl bytesVl (by decide) h4 (hw' 4 _ _ rfl (by rw [List.getElem?_map, e4]; rfl)) (fun q cs x _ h hh => vl_open q cs x h hh)
  obtain ⟨n5, C5, s5, g5⟩ := row_open (by decide) _ Tryd.underlying25 cellsPr bytesPr (by decide) h5 (hw' 5 _ _ rfl (by rw [List.getElem?_map, e5]; rfl)) (fun q cs x hq h hh => ih q (by omega) cs x h hh)
  obtain ⟨us, hu⟩ := su_of s2 g2
  obtain ⟨is, hi⟩ := si_of s3 g3
  obtain ⟨ks, hk⟩ := sv_of s4 g4
  obtain ⟨ps, f, hp, hf'⟩ := sp_of s5 g5
  refine ⟨(.mk k0 k1 us is ks ps, ⟨k0, k1, c2, c3, c4, c5⟩), rfl, ?_⟩
  rw [PR_mk]
  exact ⟨rfl, rfl, i64_of w0, i64_of w1, hu, hi, hk, f, hp, hf'⟩
end

/-- A function that came in. -/
theorem open_proto {H : Type} {enc : TypeId × Value → H} {W : World} {base : Nat} {v : Value} {d : DataW H} {p : List MemPlace}
    (hval : Value.okWide Tryd.prog W .any base 27 v) (h0 : DataW.Trod enc Tryd.prog W 0 (fun _ => true) true 27 v d p) {ts : List TypeId} {ds : List (DataW H)} (hz : (DataW.weightsEach Tryd.prog ts ds).all (· ≤ reachBytes) = true) {j : Nat} (ht : ts[j]? = some 27) (hd : ds[j]? = some d) : ∃ (t : Pr) (x : Six), v = x.v ∧ PR W t x := by
  obtain ⟨fuel, hf⟩ := h0
  obtain ⟨⟨t, x⟩, e, hc⟩ := proto_open fuel _ _ hf (fun m hm => by
    have := List.all_eq_true.1 hz m (DataW.weights_mem_each ht hd m hm)
    simpa using this)
  simp only [Value.okWide, Tryd.underlying27] at hval
  obtain ⟨cs, rfl, _⟩ := hval
  refine ⟨t, x, ?_, hc⟩
  have : cs = #[.int .i64 x.pa, .int .i64 x.rg, x.u, x.c, x.k, x.p] := by
    simp [Value.cells] at e
    apply Array.ext'
    exact e
  rw [this]
  rfl

end Go.Proofs.YtcblknghkgihcaaDoor
namespace Go.Proofs.YtcblknghkgihcaaDoor
set_option maxRecDepth 100000
open Go.ChangeShapes Go.WideShapes Go.ChangeAt Go.RowKit Crc Pg

theorem CS_flat (w : World) (S : Nat → Prop) (k : Int) (n : Nat) (s : ByteArray) (hk : -9223372036854775808 ≤ k ∧ k ≤ 9223372036854775807) (hn : n < 18446744073709551616) (hs : s.size ≤ 9223372036854775807) : CS w S (.mk k n s []) (cellV k n s (.slice none 0 0)) :=
  CS.mk k n s [] none 0 (fun _ => 0) (fun _ => 0) (fun _ => ⟨#[]⟩) (fun _ => .slice none 0 0) hk hn hs (Nat.le_refl _) (by decide) (fun _ => rfl) (fun x e => by cases e) (fun x i e => by cases e) (fun i h => absurd h (Nat.not_lt_zero _))


theorem cellsCell : Tryd.prog.cellsOf 33 = 4 := by kernel_rfl
theorem cellsIntC : Tryd.prog.cellsOf 3 = 1 := by kernel_rfl
theorem cellsU64 : Tryd.prog.cellsOf 30 = 1 := by kernel_rfl
theorem cellsStr : Tryd.prog.cellsOf 9 = 1 := by kernel_rfl
theorem cellsRow : Tryd.prog.cellsOf 31 = 1 := by kernel_rfl

theorem list4 {l : List Value} (h : l.length = 4) : ∃ a b c d, l = [a, b, c, d] := by
  match l, h with
  | [a, b, c, d], _ => exact ⟨a, b, c, d, rfl⟩

theorem some_at {α : Type} {l : List α} {n i : Nat} (h : l.length = n) (hi : i < n) : ∃ x, l[i]? = some x := ⟨l[i]'(by omega), List.getElem?_eq_getElem (by omega)⟩

/-- Four cells in a row. -/
theorem cells_four {W : World} {a : Addr} {cs : List Value} (h : W.cells? 0 a 4 = some cs) : ∃ c0 c1 c2 c3, cs = [c0, c1, c2, c3] ∧ W.cell? a = some c0 ∧ W.cell? (a.add 1) = some c1 ∧ W.cell? (a.add 2) = some c2 ∧ W.cell? (a.add 3) = some c3 := by
  unfold World.cells? at h
  rw [if_pos (Nat.zero_le _)] at h
  have hl := Lib.mapM_length h
  obtain ⟨b0, e0, f0⟩ := Lib.mapM_at h 0 0 (by simp)
  obtain ⟨b1, e1, f1⟩ := Lib.mapM_at h 1 1 (by simp)
  obtain ⟨b2, e2, f2⟩ := Lib.mapM_at h 2 2 (by simp)
  obtain ⟨b3, e3, f3⟩ := Lib.mapM_at h 3 3 (by simp)
  obtain ⟨c0, c1, c2, c3, rfl⟩ := list4 (hl.trans (by simp))
  simp at e0 e1 e2 e3
  subst e0 e1 e2 e3
  rw [Addr_add_zero] at f0
  exact ⟨_, _, _, _, rfl, f0, f1, f2, f3⟩

theorem spot_none {W : World} {a : Addr} {u : Value} (h : W.cell? a = some u) : a.spot = none := by
  obtain ⟨b, o, s⟩ := a
  cases s with
  | none => rfl
  | some k =>
    unfold World.cell? at h
    split at h <;> simp at h

theorem add_mk (b o n : Nat) : Addr.add ⟨b, o, none⟩ n = ⟨b, o + n, none⟩ := by unfold Addr.add; split <;> simp_all

/-- Cells in a row, each of which is a tree, are a list. -/
theorem row_tree {H : Type} {enc : TypeId × Value → H} {W : World} {sp : Nat → Bool} {held : Bool} {a : Addr} {len cap q : Nat} {elems : List (DataW H × List MemPlace)} (k : Int) (N : Nat) (s : ByteArray)
    (bk : -9223372036854775808 ≤ k ∧ k ≤ 9223372036854775807) (bn : N < 18446744073709551616) (bs : s.size ≤ 9223372036854775807) (hlc : len ≤ cap) (hcm : cap ≤ maxLen) (hel : elems.length = len)
    (hat0 : ∀ i, i < len → (W.cells? 0 (a.add (i * Tryd.prog.cellsOf 33)) (Tryd.prog.cellsOf 33)).bind (DataW.trod enc Tryd.prog W 0 sp held q 33) = elems[i]?)
    (ih : ∀ (cs : List Value) (x : DataW H × List MemPlace), DataW.trod enc Tryd.prog W 0 sp held q 33 cs = some x → ∃ (t : Tr) (k : Int) (n : Nat) (s : ByteArray) (u : Value), cs = [.int .i64 k, .int .u64 n, .string s, u] ∧ CR W t (cellV k n s u)) :
    ∃ ts, CR W (.mk k N s ts) (cellV k N s (.slice (some a) len cap)) := by
  have hat := hat0
  unfold maxLen at hcm
  rw [cellsCell] at hat
  have key : ∀ i, ∃ f : Tr × Int × Nat × ByteArray × Value, i < len → (a.spot = none ∧ Lies W a.block a.off i f.2.1 f.2.2.1 f.2.2.2.1 f.2.2.2.2) ∧ CR W f.1 (cellV f.2.1 f.2.2.1 f.2.2.2.1 f.2.2.2.2) := by
    intro i
    by_cases hi : i < len
    · obtain ⟨y, ey⟩ := some_at hel hi
      have hb := hat i hi
      rw [ey] at hb
      obtain ⟨cs, hcs, htr⟩ := Option.bind_eq_some_iff.1 hb
      obtain ⟨t, k', n', s', u', rfl, hcr⟩ := ih cs y htr
      obtain ⟨c0, c1, c2, c3, e, g0, g1, g2, g3⟩ := cells_four hcs
      simp only [List.cons.injEq, and_true] at e
      obtain ⟨rfl, rfl, rfl, rfl⟩ := e
      refine ⟨(t, k', n', s', u'), fun _ => ⟨?_, hcr⟩⟩
      have hsp : a.spot = none := by
        obtain ⟨y, ey⟩ := some_at hel (show 0 < len by omega)
        have hb := hat 0 (by omega)
        rw [ey] at hb
        obtain ⟨cs, hcs, htr⟩ := Option.bind_eq_some_iff.1 hb
        obtain ⟨_, _, _, _, _, g0, _⟩ := cells_four hcs
        rw [Nat.zero_mul, Addr_add_zero] at g0
        exact spot_none g0
      refine ⟨hsp, ?_⟩
      obtain ⟨b, o, sp⟩ := a
      simp only at hsp
      subst hsp
      rw [add_mk] at g0 g1 g2 g3
      rw [add_mk] at g1 g2 g3
      exact ⟨g0, g1, g2, g3⟩
    · exact ⟨(.mk 0 0 ⟨#[]⟩ [], 0, 0, ⟨#[]⟩, .slice none 0 0), fun h => absurd h hi⟩
  obtain ⟨f, hf⟩ := Classical.axiomOfChoice key
  have hl : ((List.range len).map (fun i => (f i).1)).length = len := by simp
  refine ⟨(List.range len).map (fun i => (f i).1), ?_⟩
  have := CR.mk (w := W) k N s ((List.range len).map (fun i => (f i).1)) (some a) cap (fun i => (f i).2.1) (fun i => (f i).2.2.1) (fun i => (f i).2.2.2.1) (fun i => (f i).2.2.2.2) bk bn bs (by rw [hl]; exact hlc) (by omega) (fun e => by cases e)
    (fun x i e hi => by cases e; rw [hl] at hi; exact (hf i hi).1) (fun i hi => by
      have hi2 : i < len := by rw [hl] at hi; exact hi
      simp only [List.getElem_map, List.getElem_range]
      exact (hf i hi2).2)
  rw [hl] at this
  exact this

theorem trod_cell {H : Type} {enc : TypeId × Value → H} {W : World} {sp : Nat → Bool} {held : Bool} : ∀ (fuel : Nat) (cs : List Value) (x : DataW H × List MemPlace), DataW.trod enc Tryd.prog W 0 sp held fuel 33 cs = some x →
    ∃ (t : Tr) (k : Int) (n : Nat) (s : ByteArray) (u : Value), cs = [.int .i64 k, .int .u64 n, .string s, u] ∧ CR W t (cellV k n s u) := by
  intro fuel
  induction fuel using Nat.strongRecOn with
  | _ fuel ih =>
  intro cs x h
  obtain ⟨xs, n, rfl, rfl, hlen, hxl, hf⟩ := DataW.trod_struct Tryd.underlying33 h
  rw [cellsCell] at hlen
  obtain ⟨c0, c1, c2, c3, rfl⟩ := list4 hlen
  have h0 : DataW.trod enc Tryd.prog W 0 sp held n 3 (([c0, c1, c2, c3].drop 0).take (Tryd.prog.cellsOf 3)) = xs[0]? := hf 0 _ rfl
  have h1 : DataW.trod enc Tryd.prog W 0 sp held n 30 (([c0, c1, c2, c3].drop 1).take (Tryd.prog.cellsOf 30)) = xs[1]? := hf 1 _ rfl
  have h2 : DataW.trod enc Tryd.prog W 0 sp held n 9 (([c0, c1, c2, c3].drop 2).take (Tryd.prog.cellsOf 9)) = xs[2]? := hf 2 _ rfl
  have h3 : DataW.trod enc Tryd.prog W 0 sp held n 31 (([c0, c1, c2, c3].drop 3).take (Tryd.prog.cellsOf 31)) = xs[3]? := hf 3 _ rfl
  obtain ⟨y0, e0⟩ := some_at hxl (i := 0) (by decide)
  obtain ⟨y1, e1⟩ := some_at hxl (i := 1) (by decide)
  obtain ⟨y2, e2⟩ := some_at hxl (i := 2) (by decide)
  obtain ⟨y3, e3⟩ := some_at hxl (i := 3) (by decide)
  rw [e0] at h0
  rw [e1] at h1
  rw [e2] at h2
  rw [e3] at h3
  simp only [cellsIntC, cellsU64, cellsStr, cellsRow, List.drop_zero, List.drop_succ_cons, List.take_succ_cons, List.take_zero] at h0 h1 h2 h3
  obtain ⟨k, hk, _, wk⟩ := DataW.trod_int Tryd.underlying3 h0
  obtain ⟨m, hm, _, wm⟩ := DataW.trod_int Tryd.underlying30 h1
  obtain ⟨s, hs, _, ws⟩ := DataW.trod_string Tryd.underlying9 h2
  injection hk with hk _
  injection hm with hm _
  injection hs with hs _
  subst hk hm hs
  have bk : -9223372036854775808 ≤ k ∧ k ≤ 9223372036854775807 := by simpa [Lit.wf, IntKind.min, IntKind.max, IntKind.signed, IntKind.bits] using wk
  have bm : 0 ≤ m ∧ m ≤ 18446744073709551615 := by simpa [Lit.wf, IntKind.min, IntKind.max, IntKind.signed, IntKind.bits] using wm
  unfold maxLen at ws
  obtain ⟨N, rfl⟩ : ∃ N : Nat, m = (N : Int) := ⟨m.toNat, by omega⟩
  rcases DataW.trod_slice Tryd.underlying31 h3 with ⟨hc, _⟩ | ⟨a, len, cap, elems, rest, q, rfl, hc, _, _, hlc, hcm, hel, hat, _⟩
  · injection hc with hc _
    subst hc
    exact ⟨_, k, N, s, _, rfl, (CS_flat W (fun _ => True) k N s bk (by omega) (by omega)).cr⟩
  · injection hc with hc _
    subst hc
    unfold maxLen at hcm
    obtain ⟨ts, hts⟩ := row_tree k N s bk (by omega) (by omega) hlc (by unfold maxLen; omega) hel hat (fun cs y h => ih q (by omega) cs y h)
    exact ⟨_, k, N, s, _, rfl, hts⟩

/-- A cell that came in. -/
theorem open_cell {H : Type} {enc : TypeId × Value → H} {W : World} {base : Nat} {v : Value} {d : DataW H} {p : List MemPlace}
    (hval : Value.okWide Tryd.prog W .any base 33 v) (h0 : DataW.Trod enc Tryd.prog W 0 (fun _ => true) true 33 v d p) : ∃ t, CR W t v := by
  obtain ⟨fuel, hf⟩ := h0
  obtain ⟨t, k, n, s, u, e, hc⟩ := trod_cell fuel _ _ hf
  simp only [Value.okWide, Tryd.underlying33] at hval
  obtain ⟨cs, rfl, _⟩ := hval
  have : cs = #[.int .i64 k, .int .u64 n, .string s, u] := by
    simp [Value.cells] at e
    apply Array.ext'
    exact e
  subst this
  exact ⟨t, hc⟩


theorem weights_all {H : Type} {P : Program} {e : TypeId} : ∀ {ds : List (DataW H)} {d : DataW H}, d ∈ ds → ∀ n ∈ d.weights P e, n ∈ DataW.weightsAll P e ds
  | c :: ds, d, h, n, hn => by
    simp only [DataW.weightsAll, List.mem_append]
    rcases List.mem_cons.1 h with rfl | h
    · exact Or.inl hn
    · exact Or.inr (weights_all h n hn)

theorem st_of {H : Type} {enc : TypeId × Value → H} {W : World} {sp : Nat → Bool} {held : Bool} {t : Tr} {v : Value} (h : CR W t v) : ∀ (fuel : Nat) (cs : List Value) (x : DataW H × List MemPlace), v = .agg cs.toArray → DataW.trod enc Tryd.prog W 0 sp held fuel 33 cs = some x → (∀ m ∈ x.1.weights Tryd.prog 33, m ≤ reachBytes) → Stx t := by
  induction h using CR.ind with
  | mk k n s ts a cap ks ns ss us hk hn hs hl hc h0 hx hr ih =>
  intro fuel cs x hv h hw
  unfold cellV at hv
  simp only [Value.agg.injEq, Array.mk.injEq] at hv
  subst hv
  obtain ⟨xs, q, rfl, rfl, hlen, hxl, hf⟩ := DataW.trod_struct Tryd.underlying33 h
  have h2 : DataW.trod enc Tryd.prog W 0 sp held q 9 (([Value.int IntKind.i64 k, Value.int IntKind.u64 n, Value.string s, Value.slice a ts.length cap].drop 2).take (Tryd.prog.cellsOf 9)) = xs[2]? := hf 2 _ rfl
  have h3 : DataW.trod enc Tryd.prog W 0 sp held q 31 (([Value.int IntKind.i64 k, Value.int IntKind.u64 n, Value.string s, Value.slice a ts.length cap].drop 3).take (Tryd.prog.cellsOf 31)) = xs[3]? := hf 3 _ rfl
  obtain ⟨y2, e2⟩ := some_at hxl (i := 2) (by decide)
  obtain ⟨y3, e3⟩ := some_at hxl (i := 3) (by decide)
  rw [e2] at h2
  rw [e3] at h3
  simp only [cellsStr, cellsRow, List.drop_succ_cons, List.drop_zero, List.take_succ_cons, List.take_zero] at h2 h3
  have hw' : ∀ (j : Nat) (tt : TypeId) (d : DataW H), [3, 30, 9, 31][j]? = some tt → (xs.map (·.1))[j]? = some d → ∀ m ∈ d.weights Tryd.prog tt, m ≤ reachBytes := by
    intro j tt d h1 h2 m hm
    refine hw m ?_
    simp only [DataW.weights, Tryd.underlying33]
    exact DataW.weights_mem_each (ts := [3, 30, 9, 31]) h1 h2 m hm
  rw [Stx_mk]
  obtain ⟨s2, hs2, hy2, _⟩ := DataW.trod_string Tryd.underlying9 h2
  injection hs2 with hs2 _
  injection hs2 with hs2
  subst hs2
  refine ⟨?_, fun u hu => ?_⟩
  · have := hw' 2 9 (.lit (.string s.data.toList)) rfl (by rw [List.getElem?_map, e2, hy2]; rfl) s.data.toList.length (by simp [DataW.weights])
    unfold reachBytes at this
    have e : s.data.toList.length = s.size := by simp
    omega
  · obtain ⟨i, hi, eu⟩ := List.getElem_of_mem hu
    rcases DataW.trod_slice Tryd.underlying31 h3 with ⟨hc3, _⟩ | ⟨b, len, cap3, elems, rest, q2, rfl, hc3, hy3, _, hlc, hcm, hel, hat, _⟩
    · injection hc3 with hc3 _
      injection hc3 with h4 h5 h6
      omega
    · injection hc3 with hc3 _
      injection hc3 with h4 h5 h6
      subst h4 h6
      have hi2 : i < len := by omega
      obtain ⟨y, ey⟩ := some_at hel hi2
      have hb := hat i hi2
      rw [ey, cellsCell] at hb
      obtain ⟨cs, hcs, htr⟩ := Option.bind_eq_some_iff.1 hb
      obtain ⟨c0, c1, c2, c3, e, g0, g1, g2, g3⟩ := cells_four hcs
      obtain ⟨hsp, hli⟩ := hx b i rfl hi
      obtain ⟨bb, oo, spt⟩ := b
      simp only at hsp
      subst hsp
      rw [add_mk] at g0 g1 g2 g3
      rw [add_mk] at g1 g2 g3
      have f0 := g0.symm.trans hli.c0
      have f1 := g1.symm.trans hli.c1
      have f2 := g2.symm.trans hli.c2
      have f3 := g3.symm.trans hli.c3
      injection f0 with f0
      injection f1 with f1
      injection f2 with f2
      injection f3 with f3
      subst e f0 f1 f2 f3
      rw [← eu]
      refine ih i hi q2 _ y rfl htr (fun m hm => ?_)
      refine hw' 3 31 y3.1 rfl (by rw [List.getElem?_map, e3]; rfl) m ?_
      rw [hy3]
      simp only [DataW.weights, Tryd.underlying31]
      refine List.mem_cons_of_mem _ (List.mem_append_left _ (weights_all (d := y.1) ?_ m hm))
      exact List.mem_map.2 ⟨y, List.mem_of_getElem? ey, rfl⟩

/-- A cell that came in, and its texts. -/
theorem open_cell_st {H : Type} {enc : TypeId × Value → H} {W : World} {base : Nat} {v : Value} {d : DataW H} {p : List MemPlace}
    (hval : Value.okWide Tryd.prog W .any base 33 v) (h0 : DataW.Trod enc Tryd.prog W 0 (fun _ => true) true 33 v d p) {ts : List TypeId} {ds : List (DataW H)} (hz : (DataW.weightsEach Tryd.prog ts ds).all (· ≤ reachBytes) = true) {j : Nat} (ht : ts[j]? = some 33) (hd : ds[j]? = some d) : ∃ t, CR W t v ∧ Stx t := by
  obtain ⟨t, hc⟩ := open_cell hval h0
  refine ⟨t, hc, ?_⟩
  obtain ⟨fuel, hf⟩ := h0
  obtain ⟨k, n, s, a, m, cap, rfl⟩ := hc.cs.form
  refine st_of hc fuel _ _ rfl hf (fun m hm => ?_)
  have := List.all_eq_true.1 hz m (DataW.weights_mem_each ht hd m hm)
  simpa using this


end Go.Proofs.YtcblknghkgihcaaDoor
namespace Go.Proofs.YtcblknghkgihcaaDoor
set_option maxRecDepth 100000
open Go.RowKit Crc Txt Pg

theorem out_cnt (O : Bool) (r : Pr) (h : r.cnt ≤ 3000) : (outP O r).cnt ≤ 100000 := by
  unfold outP
  split
  · omega
  · show (Pr.mk 0 0 [] [] [] []).cnt ≤ _
    rw [Pr.cnt_mk, pcnts_nil]
    simp

set_option maxHeartbeats 4000000 in
theorem progReads_walk (t : Tr) (v : Value) (w : World) (h : CR w t v) (hst : Stx t) (hT : Ot w) (hTB : TB w) :
    Calls Tryd.prog 4 #[v] w fun e w' => e = .returned (.bool true) ∧ Below w.heap.size w w' := by
  have HC := hide_p h
  have HT := hide_p hT
  have HTB := hide_p hTB
  have h00 := hT.1
  have HLV : Hid (∀ w', Below w.heap.size w w' → Calls Tryd.prog 6 #[] w' fun e w'' => e = .returned (.bool true) ∧ Below w'.heap.size w' w'') := fun w' hb => glives_any w' (HT.out.below hb h00) (HTB.out.below hb)
  have HSM : Hid (∀ w', Below w.heap.size w w' → Calls Tryd.prog 17 #[v, .int .i64 3000, .int .i64 0] w' fun e w'' => ∃ (n : Nat) (ok : Bool), e = .returned (.tuple #[.int .i64 n, .bool ok]) ∧ (ok = true → t.dep < 101 ∧ t.cnt ≤ 3000) ∧ Below w'.heap.size w' w'') := by
    intro w' hb
    have := small_any 101 (by decide) t v w' 3000 (HC.out.kept hb (Nat.le_refl _)) (by decide) (by decide)
    rw [show (101 - ((101 : Nat) : Int)) = 0 from rfl] at this
    refine this.mono ?_
    rintro e w'' ⟨n, ok, he, ht, hb2⟩
    refine ⟨n, ok, he, fun ho => ?_, hb2⟩
    obtain ⟨h1, h2, h3⟩ := ht.2.2 ho
    have := cnt_pos t
    exact ⟨by omega, by omega⟩
  obtain ⟨O, hO⟩ : ∃ O, O = (decide (chkB (rdT 100 t) = 0) && sameT (cellT (rdT 100 t)) t) := ⟨_, rfl⟩
  obtain ⟨P, hP⟩ : ∃ P, P = outP O (rdT 100 t) := ⟨_, rfl⟩
  obtain ⟨E, hE⟩ : ∃ E, E = errE O := ⟨_, rfl⟩
  have HPC : Hid (t.cnt ≤ 3000 → P.cnt ≤ 100000) := fun hc => by rw [hP]; exact out_cnt _ _ (Nat.le_trans (rd_cnt 100 t) hc)
  have HFC : Hid (t.dep < 101 → t.cnt ≤ 3000 → ∀ v' w', CR w' t v' → Below w.heap.size w w' → Calls Tryd.prog 11 #[v'] w' fun e w'' => ∃ (pa rg : Int) (a1 : Option Addr) (n1 c1 : Nat) (a2 : Option Addr) (n2 c2 : Nat) (a3 : Option Addr) (n3 c3 : Nat) (a4 : Option Addr) (n4 c4 : Nat), e = .returned (.tuple #[.agg #[.int .i64 pa, .int .i64 rg, .slice a1 n1 c1, .slice a2 n2 c2, .slice a3 n3 c3, .slice a4 n4 c4], .int .i64 E]) ∧ Below w'.heap.size w' w'' ∧ PR w'' P ⟨pa, rg, .slice a1 n1 c1, .slice a2 n2 c2, .slice a3 n3 c3, .slice a4 n4 c4⟩) := by
    intro hd hc v' w' hcr hb
    have hro := read_ok 101 t hd (by decide)
    refine (fromCell_any 101 t v' w' hcr hst hd (by omega) (Nat.le_trans (fc_le 101 t) (by omega)) (HT.out.below hb h00)).mono ?_
    rintro e w'' ⟨pa, rg, a1, n1, c1, a2, n2, c2, a3, n3, c3, a4, n4, c4, he, hb2, hp⟩
    rw [hro, ← hO] at he hp
    refine ⟨pa, rg, a1, n1, c1, a2, n2, c2, a3, n3, c3, a4, n4, c4, by rw [hE]; exact he, hb2, ?_⟩
    have e2 : outP O (rdT 101 t) = P := by
      rw [hP]
      unfold outP
      cases hOO : O with
      | false => simp only [Bool.false_eq_true, if_false]
      | true =>
        have h1 := hro
        rw [← hO, hOO] at h1
        simp only [Bool.and_eq_true, decide_eq_true_eq] at h1
        simp only [if_true]
        exact read_eq 101 t (by decide) h1.2
    rw [e2] at hp
    exact hp
  have HRC : Hid (t.cnt ≤ 3000 → ∀ w', Below w.heap.size w w' → Calls Tryd.prog 12 #[v] w' fun e w'' => ∃ (pa rg : Int) (a1 : Option Addr) (n1 c1 : Nat) (a2 : Option Addr) (n2 c2 : Nat) (a3 : Option Addr) (n3 c3 : Nat) (a4 : Option Addr) (n4 c4 : Nat), e = .returned (.tuple #[.agg #[.int .i64 pa, .int .i64 rg, .slice a1 n1 c1, .slice a2 n2 c2, .slice a3 n3 c3, .slice a4 n4 c4], .int .i64 E]) ∧ Below w'.heap.size w' w'' ∧ PR w'' P ⟨pa, rg, .slice a1 n1 c1, .slice a2 n2 c2, .slice a3 n3 c3, .slice a4 n4 c4⟩) := by
    intro hc w' hb
    refine (rfromCell_any t v w' (HC.out.kept hb (Nat.le_refl _)) hst (by omega)).mono ?_
    rintro e w'' ⟨pa, rg, a1, n1, c1, a2, n2, c2, a3, n3, c3, a4, n4, c4, he, hb2, hp⟩
    rw [← hO] at he hp
    exact ⟨pa, rg, a1, n1, c1, a2, n2, c2, a3, n3, c3, a4, n4, c4, by rw [hE]; exact he, hb2, by rw [hP]; exact hp⟩
  have HOW : Hid (t.dep < 101 → t.cnt ≤ 3000 → ∀ w', Below w.heap.size w w' → Calls Tryd.prog 18 #[v] w' fun e w'' => ∃ v', e = .returned v' ∧ CR w'' t v' ∧ Below w'.heap.size w' w'') := by
    intro hd hc w' hb
    refine (own_cell 101 t v w' hd (by omega) (HC.out.kept hb (Nat.le_refl _))).mono ?_
    rintro e w'' ⟨v', he, hcs, hb2⟩
    exact ⟨v', he, hcs.cr, hb2⟩
  have HSA : Hid (t.cnt ≤ 3000 → ∀ (x y : Six) W w', PR W P x → PR W P y → Below W.heap.size W w' → Calls Tryd.prog 13 #[x.v, y.v] w' fun e w'' => e = .returned (.bool true) ∧ Below w'.heap.size w' w'') := by
    intro hc x y W w' hx hy hb
    have := rsameP_any P P x y W w' hx hy hb (HPC.out hc) (HPC.out hc)
    rw [sameT_refl] at this
    exact this
  obtain ⟨a, cap, rfl⟩ := h.shape
  clear h hst hT hTB hO hP hE HPC HC
  generalize t.k = k at *
  generalize t.n = n at *
  generalize t.s = s at *
  generalize t.l = l at *
  unfold cellV at HSM HRC HOW ⊢
  obtain ⟨w1, hw1⟩ : ∃ w1, w1 = w.alloc (.cells #[.int .i64 k, .int .u64 n, .string s, .slice a l.length cap] 33) := ⟨_, rfl⟩
  have HB1 : Hid (Below w.heap.size w w1) := by show Below _ _ _; rw [hw1]; exact (Below.refl _ _).alloc (Nat.le_refl _) _
  have HA1 : Hid (w1.heap[w.heap.size]? = some (.cells #[.int .i64 k, .int .u64 n, .string s, .slice a l.length cap] 33 (0, 0))) := by show _ = _; rw [hw1]; exact heap_alloc_new _ _
  have HX : Hid (∀ wq, Below w1.heap.size w1 wq → wq.cell? ⟨w.heap.size, 0, none⟩ = some (.int .i64 k) ∧ wq.cell? ⟨w.heap.size, 1, none⟩ = some (.int .u64 n) ∧ wq.cell? ⟨w.heap.size, 2, none⟩ = some (.string s) ∧ wq.cell? ⟨w.heap.size, 3, none⟩ = some (.slice a l.length cap)) := fun wq hq => block4 ((hq.block _ (blk_lt HA1.out)).trans HA1.out)
  obtain ⟨x0, x1, x2, x3⟩ := HX.out w1 (Below.refl _ _)
  go_enter Tryd.func4, Tryd.ntmps4
  go_upto_region 1 with fail
  rw [← hw1]
  clear hw1
  go_wp2_with fail
  refine (HSM.out w1 HB1.out).mono ?_
  rintro e w2 ⟨nn, ok, rfl, hok, hb2⟩
  have HB2 := hide_p hb2
  have HB2w : Hid (Below w.heap.size w w2) := HB1.out.trans (hb2.mono HB1.out.size)
  clear x0 x1 x2 x3 hb2 HSM
  cases ok with
  | false =>
    have hl := HLV.out w2 HB2w.out
    clear hok
    go_wp2_with fail
    refine hl.mono ?_
    rintro e w3 ⟨rfl, hb3⟩
    have HB3w : Hid (Below w.heap.size w w3) := HB2w.out.trans (hb3.mono HB2w.out.size)
    clear hl hb3
    go_wp2
    go_ret
    exact ⟨rfl, HB3w.out⟩
  | true =>
    obtain ⟨hd, hc⟩ := hok rfl
    have HDC := hide_p (And.intro hd hc)
    clear hok hd hc
    obtain ⟨x0, x1, x2, x3⟩ := HX.out w2 HB2.out
    go_wp2_with fail
    refine (HOW.out HDC.out.1 HDC.out.2 w2 HB2w.out).mono ?_
    rintro e w3 ⟨v', rfl, hcr, hb3⟩
    have HB3 : Hid (Below w1.heap.size w1 w3) := HB2.out.trans (hb3.mono HB2.out.size)
    have HB3w : Hid (Below w.heap.size w w3) := HB2w.out.trans (hb3.mono HB2w.out.size)
    have HCR := hide_p hcr
    clear x0 x1 x2 x3 hb3 hcr HOW
    go_wp2_with fail
    refine (HFC.out HDC.out.1 HDC.out.2 v' w3 HCR.out HB3w.out).mono ?_
    rintro e w4 ⟨pa, rg, a1, n1, c1, a2, n2, c2, a3, n3, c3, a4, n4, c4, rfl, hb4, hp4⟩
    have HB4 : Hid (Below w1.heap.size w1 w4) := HB3.out.trans (hb4.mono HB3.out.size)
    have HB4w : Hid (Below w.heap.size w w4) := HB3w.out.trans (hb4.mono HB3w.out.size)
    obtain ⟨w5, hw5⟩ : ∃ w5, w5 = w4.alloc (.cells #[.int .i64 pa, .int .i64 rg, .slice a1 n1 c1, .slice a2 n2 c2, .slice a3 n3 c3, .slice a4 n4 c4] 27) := ⟨_, rfl⟩
    obtain ⟨b5, hb5⟩ : ∃ b5, b5 = w4.heap.size := ⟨_, rfl⟩
    have HB5 : Hid (Below w4.heap.size w4 w5 ∧ w5.heap[b5]? = some (.cells #[.int .i64 pa, .int .i64 rg, .slice a1 n1 c1, .slice a2 n2 c2, .slice a3 n3 c3, .slice a4 n4 c4] 27 (0, 0))) := by
      show _ ∧ _
      rw [hw5, hb5]
      exact ⟨(Below.refl _ _).alloc (Nat.le_refl _) _, heap_alloc_new _ _⟩
    have HP5 : Hid (PR w5 P ⟨pa, rg, .slice a1 n1 c1, .slice a2 n2 c2, .slice a3 n3 c3, .slice a4 n4 c4⟩) := PR.kept HB5.out.1 (Nat.le_refl _) _ _ hp4
    have HB5q : Hid (Below w1.heap.size w1 w5 ∧ Below w.heap.size w w5) := ⟨HB4.out.trans (HB5.out.1.mono HB4.out.size), HB4w.out.trans (HB5.out.1.mono HB4w.out.size)⟩
    clear hb4 hp4 HFC HCR
    go_upto_region 5 with fail
    rw [← hw5, ← hb5]
    have HW5 := hide_p (And.intro hw5 hb5)
    clear hw5 hb5
    obtain ⟨x0, x1, x2, x3⟩ := HX.out w5 HB5q.out.1
    go_wp2_with fail
    refine (HRC.out HDC.out.2 w5 HB5q.out.2).mono ?_
    rintro e w6 ⟨qa, qg, e1, m1, d1, e2, m2, d2, e3, m3, d3, e4, m4, d4, rfl, hb6, hp6⟩
    have HB6 := hide_p hb6
    have HB6w : Hid (Below w.heap.size w w6) := HB5q.out.2.trans (hb6.mono HB5q.out.2.size)
    obtain ⟨w7, hw7⟩ : ∃ w7, w7 = w6.alloc (.cells #[.int .i64 qa, .int .i64 qg, .slice e1 m1 d1, .slice e2 m2 d2, .slice e3 m3 d3, .slice e4 m4 d4] 27) := ⟨_, rfl⟩
    obtain ⟨b7, hb7⟩ : ∃ b7, b7 = w6.heap.size := ⟨_, rfl⟩
    have HB7 : Hid (Below w6.heap.size w6 w7 ∧ w7.heap[b7]? = some (.cells #[.int .i64 qa, .int .i64 qg, .slice e1 m1 d1, .slice e2 m2 d2, .slice e3 m3 d3, .slice e4 m4 d4] 27 (0, 0))) := by
      show _ ∧ _
      rw [hw7, hb7]
      exact ⟨(Below.refl _ _).alloc (Nat.le_refl _) _, heap_alloc_new _ _⟩
    have HB57 : Hid (Below w5.heap.size w5 w7) := HB6.out.trans (HB7.out.1.mono HB6.out.size)
    have HB7w : Hid (Below w.heap.size w w7) := HB6w.out.trans (HB7.out.1.mono HB6w.out.size)
    have HP7 : Hid (PR w7 P ⟨qa, qg, .slice e1 m1 d1, .slice e2 m2 d2, .slice e3 m3 d3, .slice e4 m4 d4⟩ ∧ PR w7 P ⟨pa, rg, .slice a1 n1 c1, .slice a2 n2 c2, .slice a3 n3 c3, .slice a4 n4 c4⟩) := ⟨PR.kept HB7.out.1 (Nat.le_refl _) _ _ hp6, PR.kept HB57.out (Nat.le_refl _) _ _ HP5.out⟩
    clear x0 x1 x2 x3 hb6 hp6 HRC
    go_upto_region 6 with fail
    rw [← hw7, ← hb7]
    clear hw7 hb7
    obtain ⟨y0, y1, y2, y3, y4, y5⟩ := block6 HB7.out.2
    obtain ⟨z0, z1, z2, z3, z4, z5⟩ := block6 ((HB57.out.block _ (blk_lt HB5.out.2)).trans HB5.out.2)
    have hs := HSA.out HDC.out.2 ⟨pa, rg, .slice a1 n1 c1, .slice a2 n2 c2, .slice a3 n3 c3, .slice a4 n4 c4⟩ ⟨qa, qg, .slice e1 m1 d1, .slice e2 m2 d2, .slice e3 m3 d3, .slice e4 m4 d4⟩ w7 w7 HP7.out.2 HP7.out.1 (Below.refl _ _)
    unfold Six.v at hs
    simp only at hs
    go_wp2_with fail
    refine hs.mono ?_
    rintro e w8 ⟨rfl, hb8⟩
    have HB8w : Hid (Below w.heap.size w w8) := HB7w.out.trans (hb8.mono HB7w.out.size)
    have hl := HLV.out w8 HB8w.out
    clear hs hb8 y0 y1 y2 y3 y4 y5 z0 z1 z2 z3 z4 z5
    go_wp2_with fail
    refine hl.mono ?_
    rintro e w9 ⟨rfl, hb9⟩
    have HB9w : Hid (Below w.heap.size w w9) := HB8w.out.trans (hb9.mono HB8w.out.size)
    clear hl hb9
    go_wp2
    go_ret
    exact ⟨rfl, HB9w.out⟩

end Go.Proofs.YtcblknghkgihcaaDoor
namespace Go.Proofs.YtcblknghkgihcaaDoor.progReads
set_option maxRecDepth 100000
open Go.ChangeShapes Go.WideShapes Go.ChangeAt Go.RowKit

theorem contract (H : Type) (enc : TypeId × Value → H) (W : World) (base : Nat) (args : Array Value) (ds gs : List (DataW H)) (before : List MemPlace)
    (hval0 : ∀ (j : Nat) t v, Tryd.f4.params[j]? = some t → args[j]? = some v → Value.okWide Tryd.prog W .any base t v)
    (hW : DataW.Whole enc Tryd.prog Tryd.f4.params.toList Rows.progReadsSpec.vars false W args.toList ds gs before) (hL : laidMetH Tryd.prog laidAll W)
    (hsz : (DataW.weightsEach Tryd.prog (Tryd.f4.params.toList ++ (OpenSpec.ofChange Rows.progReadsSpec).bare.plain.varTypes Tryd.prog) (ds ++ gs)).all (· ≤ reachBytes) = true) :
    Calls Tryd.prog 4 args W fun e W' => ∃ v, e = .returned v ∧ Rows.progReadsSpec.post enc Tryd.prog Tryd.f4 false true false false W args v W' := by
  have hval : ∀ (j : Nat) t v, Tryd.f4.params[j]? = some t → args[j]? = some v → Value.okWide Tryd.prog W .any base t v := hval0
  have hW' := hW
  obtain ⟨p, q, hA0, hV, rfl, hfz, hnd⟩ := hW
  have hA : DataW.TrodAll enc Tryd.prog W 0 (fun _ => true) true Tryd.f4.params.toList args.toList ds p := hA0
  rw [Tryd.params4] at hA hval hsz
  obtain ⟨v0, vs0, d0, ds0, p0, q0, hargs, rfl, rfl, h0, r0⟩ := trodAll_cons hA
  obtain ⟨rfl, rfl, rfl⟩ := trodAll_nil r0
  obtain rfl : args = #[v0] := by cases args; simp_all
  obtain ⟨rfl, rfl⟩ := trodVars_none hV
  have lt0 : ∀ x ∈ p0, x.block < W.heap.size := by obtain ⟨m, hm⟩ := h0; exact DataW.trod_lt m _ _ _ hm
  obtain ⟨t0, c0, w0⟩ := open_cell_st (hval 0 33 v0 rfl rfl) h0 hsz (j := 0) rfl rfl
  obtain ⟨hT, hTB⟩ := bothTabs hL
  clear hA0 hval0
  refine (progReads_walk t0 _ W c0 w0 hT hTB).mono fun e W' ⟨he, bel⟩ => ?_
  subst he
  exact ⟨_, rfl, _, _, _, [], _, [], hW', trodAll_mk1 (shut_bool Tryd.underlying4 _), (trodAll_cons_mk (Below.trod laidOut (by kernel_rfl) (of_decide_eq_true (by kernel_rfl)) h0 bel lt0) trodAll_mk0), rfl, bel.frame _, fun h => by cases h⟩

theorem laid_met (os : Os) : laidMet Tryd.prog Rows.progReadsRow.laid ((World.doorLaid Tryd.prog 4000 os).forCall (fun _ _ => 0) ⟨#[], #[.agg #[.int .i64 0, .int .u64 0, .string ⟨#[]⟩, .slice none 0 0]], []⟩).memory :=
  laidMet_of_run' 8 (by kernel_rfl) (by kernel_rfl)
theorem reads (os : Os) {H : Type} (enc : TypeId × Value → H) : ∃ places, DataW.whole enc Tryd.prog ((World.doorLaid Tryd.prog 4000 os).forCall (fun _ _ => 0) ⟨#[], #[.agg #[.int .i64 0, .int .u64 0, .string ⟨#[]⟩, .slice none 0 0]], []⟩).memory Tryd.f4.params.toList Rows.progReadsSpec.vars false (#[.agg #[.int .i64 0, .int .u64 0, .string ⟨#[]⟩, .slice none 0 0]] : Array Value).toList 8 = some ([.agg [.lit (.int .i64 0), .lit (.int .u64 0), .lit (.string []), .nil]], [], places) :=
  ⟨[], by kernel_rfl⟩

set_option maxRecDepth 100000 in
theorem lifted (os : Os) (started : os.Started) (H : Type) (enc : TypeId × Value → H) (F : Stop.Interp) :
    ReturnsInHanded {} Tryd.checked os 4 .any ((OpenSpec.ofChange Rows.progReadsSpec).preRow enc Tryd.prog Tryd.f4 Rows.progReadsRow.domain false Rows.progReadsRow.laid) (((OpenSpec.ofChange Rows.progReadsSpec).at F).post enc Tryd.prog Tryd.f4 false true false false) := by
  obtain ⟨places, hx⟩ := reads os enc
  refine returnsInHanded_of_row (C := Tryd.checked) (s := OpenSpec.ofChange Rows.progReadsSpec) ownKnob_none started (by kernel_rfl) Tryd.func4
    (witness_row_at (enc := enc) (C := Tryd.checked) false (World.doorLaid Tryd.prog 4000 os) #[.agg #[.int .i64 0, .int .u64 0, .string ⟨#[]⟩, .slice none 0 0]] rfl (by kernel_rfl) (by kernel_rfl) (by kernel_rfl)
      (OpenSpec.preRow_of_cond 8 hx (by kernel_rfl) (fun k hk => by cases hk) (by kernel_rfl) (laid_met os))) ?_
  intro W base args ds gs before hval hW _ _ hsz hL _ _
  exact contract H enc W base args ds gs before hval hW hL hsz

theorem said : Rows.ProgReadsSaid :=
  OpenClaim.holds_of_cond 4 Tryd.f4 rfl rfl rfl rfl rfl rfl rfl ⟨rfl, rfl, rfl, rfl, rfl⟩ rfl rfl rfl rfl rfl (by kernel_rfl) Tryd.func4 (by kernel_rfl)
    (of_decide_eq_true (by kernel_rfl)) (by unfold Func.isWrapper; first | (rw [if_pos (by decide +kernel)]; kernel_rfl) | (rw [if_neg (by decide +kernel)]; exact ⟨rfl, rfl⟩))
    (fun os started H enc _ F => by rw [OpenClaim.pre_eq_preRow]; exact lifted os started H enc F)

theorem plain (f : FuncId) (fn : Func) (hf : Tryd.pinned.checked.prog.funcNamed "minstrel/minstrellaw13.ProgReads" = some f) (hfn : Tryd.pinned.checked.prog.funcs[f]? = some fn) :
    false = Tryd.pinned.checked.prog.looks [] ∧ ∀ (j : Nat) t, fn.params[j]? = some t → Tryd.pinned.checked.prog.wantsStandIn t = false := by
  obtain rfl : f = 4 := Option.some.inj ((show Tryd.prog.funcNamed "minstrel/minstrellaw13.ProgReads" = some 4 by kernel_rfl).symm.trans hf) |>.symm
  obtain rfl : fn = Tryd.f4 := (Option.some.inj (Tryd.func4.symm.trans hfn)).symm
  refine ⟨by kernel_rfl, fun j t ht => ?_⟩
  rw [Tryd.params4] at ht
  have hm : t ∈ [33] := by simpa using Array.mem_of_getElem? ht
  have hall : ([33].all fun u => !Tryd.prog.wantsStandIn u) = true := by kernel_rfl
  exact (show Tryd.prog.wantsStandIn t = false by simpa using List.all_eq_true.1 hall t hm)

/-- The statement. -/
theorem proved : Rows.ProgReadsCardSaid :=
  Claim7.holds_tied_plain_at .later [] _ _ _ _ said (fun _ h => by cases h) (by kernel_rfl) (fun _ h => by cases h) progReads_row_tie rfl ⟨rfl, rfl⟩ (by kernel_rfl) rfl plain (by kernel_rfl)
end Go.Proofs.YtcblknghkgihcaaDoor.progReads
