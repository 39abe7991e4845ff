/-
  What the rows' readings give the walks of layer 13: the tables, a whole number that came in.
-/
import Derived.Test.YtcblknghkgihcaaDoorPgLives
import Derived.Test.YtcblknghkgihcaaDoorCards
import Derived.Test.YtcblknghkgihcaaDoorTie
import Derived.SizedLaws
import Derived.Carry
import Derived.ShutString
import Derived.OpenShut
import Derived.Deep.DeepHandedRow
import Derived.Lib.LaidTab
import Derived.LaidMore
import Derived.Stop.LaidErr
namespace Go.Proofs.YtcblknghkgihcaaDoor
set_option maxRecDepth 100000
open Go.ChangeShapes Go.WideShapes Go.ChangeAt Go.RowKit Txt Pg

theorem ownKnob_none : ownKnob Tryd.prog.godebug = none := by kernel_rfl
theorem laidOut : laidOutB Tryd.prog = true := by kernel_rfl
theorem gOrd : Tryd.prog.globalNamed "minstrel/prog.orders" = some 0 := by kernel_rfl
theorem gOrdType : (Tryd.prog.globals[0]?).map (·.type) = some 131 := by kernel_rfl
theorem cellsOrd : Tryd.prog.cellsOf 131 = 190 := by kernel_rfl
theorem cellsRowO : Tryd.prog.cellsOf 119 = 5 := by kernel_rfl
theorem cellsOp3 : Tryd.prog.cellsOf 117 = 3 := by kernel_rfl
theorem cellsOp1 : Tryd.prog.cellsOf 116 = 1 := by kernel_rfl
theorem cellsTxt : Tryd.prog.cellsOf 9 = 1 := by kernel_rfl
theorem cellsInt1 : Tryd.prog.cellsOf 3 = 1 := by kernel_rfl

def laidAll : List (String × DataW Unit) := [("math/bits.deBruijn32tab", Rows.laid_math_bits_deBruijn32tab), ("math/bits.deBruijn64tab", Rows.laid_math_bits_deBruijn64tab), ("internal/strconv.uint64pow10", Rows.laid_internal_strconv_uint64pow10), ("minstrel/prog.orders", Rows.laid_minstrel_prog_orders)]
def laidOrd : List (String × DataW Unit) := [("minstrel/prog.orders", Rows.laid_minstrel_prog_orders)]
theorem pow_data13 : (Rows.laid_internal_strconv_uint64pow10 : DataW Unit) = Lib.tabData .u64 Lib.pow10Tab := by kernel_rfl
def rowD (x : Rw) : DataW Unit := .agg [.lit (.string x.1), .lit (.int .i64 x.2.1), .agg [.lit (.int .i64 x.2.2.1), .lit (.int .i64 x.2.2.2.1), .lit (.int .i64 x.2.2.2.2)]]
theorem ord_data : (Rows.laid_minstrel_prog_orders : DataW Unit) = .agg (ordL.map rowD) := by kernel_rfl

/-- An array of numbers that reads as a list of numbers holds them, cell for cell. -/
theorem ints_of {H : Type} {enc : TypeId × Value → H} {P : Program} {w : World} {base : Nat} {sp : Nat → Bool} {held : Bool} {fuel : Nat} {t e : TypeId} {n : Nat} {cs : List Value} {ds : List (DataW H)} {p : List MemPlace}
    (ht : P.underlying t = some (.array n e)) (he : P.underlying e = some (.int .i64)) (hce : P.cellsOf e = 1) (hct : P.cellsOf t = n)
    (h : DataW.trod enc P w base sp held fuel t cs = some (.agg ds, p)) (i : Nat) (hi : i < n) : ∃ z : Int, cs[i]? = some (.int .i64 z) ∧ ds[i]? = some (.lit (.int .i64 z)) := by
  cases fuel with
  | zero => simp [DataW.trod] at h
  | succ fuel =>
    simp only [DataW.trod, ht, hce, hct, Nat.mul_one] at h
    split at h
    · obtain ⟨xs, hm, hx⟩ := Option.map_eq_some_iff.1 h
      have hxs : xs.map (·.1) = ds := by
        have := congrArg Prod.fst hx
        simpa using this
      obtain ⟨b, hb, hf⟩ := Lib.mapM_at hm i i (by simp [hi])
      obtain ⟨z, hc, rfl, _⟩ := DataW.trod_int he hf
      refine ⟨z, ?_, ?_⟩
      · have := congrArg (·[0]?) hc
        simpa [List.getElem?_take, List.getElem?_drop] using this
      · rw [← hxs]; simp [hb]
    · cases h

theorem list5 {l : List Value} (h : l.length = 5) : ∃ a b c d e, l = [a, b, c, d, e] := by
  match l, h with
  | [a, b, c, d, e], _ => exact ⟨a, b, c, d, e, rfl⟩

/-- A row of the table that reads as it should holds it, cell for cell. -/
theorem row_of {enc : TypeId × Value → Unit} {w : World} {base : Nat} {sp : Nat → Bool} {held : Bool} {fuel : Nat} {cs : List Value} {x : Rw} {p : List MemPlace}
    (h : DataW.trod enc Tryd.prog w base sp held fuel 119 cs = some (rowD x, p)) : cs = [.string (bs x.1), .int .i64 x.2.1, .int .i64 x.2.2.1, .int .i64 x.2.2.2.1, .int .i64 x.2.2.2.2] := by
  obtain ⟨xs, n, rfl, hd, hlen, hxl, hf⟩ := DataW.trod_struct Tryd.underlying119 h
  rw [cellsRowO] at hlen
  obtain ⟨c0, c1, c2, c3, c4, rfl⟩ := list5 hlen
  have hd1 : [DataW.lit (.string x.1), .lit (.int .i64 x.2.1), .agg [.lit (.int .i64 x.2.2.1), .lit (.int .i64 x.2.2.2.1), .lit (.int .i64 x.2.2.2.2)]] = xs.map (·.1) := by
    have := congrArg Prod.fst hd
    unfold rowD at this
    simpa using this
  match xs, hxl, hd1, hf with
  | [y0, y1, y2], _, hd1, hf =>
    simp only [List.map_cons, List.map_nil, List.cons.injEq, and_true] at hd1
    obtain ⟨e0, e1, e2⟩ := hd1
    have h0 : DataW.trod enc Tryd.prog w base sp held n 9 (([c0, c1, c2, c3, c4].drop 0).take (Tryd.prog.cellsOf 9)) = some y0 := hf 0 _ rfl
    have h1 : DataW.trod enc Tryd.prog w base sp held n 3 (([c0, c1, c2, c3, c4].drop 1).take (Tryd.prog.cellsOf 3)) = some y1 := hf 1 _ rfl
    have h2 : DataW.trod enc Tryd.prog w base sp held n 117 (([c0, c1, c2, c3, c4].drop 2).take (Tryd.prog.cellsOf 117)) = some y2 := hf 2 _ rfl
    simp only [cellsTxt, cellsInt1, cellsOp3, List.drop_zero, List.drop_succ_cons, List.take_succ_cons, List.take_zero] at h0 h1 h2
    obtain ⟨s0, hs0, hy0, _⟩ := DataW.trod_string Tryd.underlying9 h0
    obtain ⟨z1, hz1, hy1, _⟩ := DataW.trod_int Tryd.underlying3 h1
    obtain ⟨d2, p2⟩ := y2
    simp only at e2
    subst e2
    obtain ⟨a0, f0, g0⟩ := ints_of Tryd.underlying117 Tryd.underlying116 cellsOp1 cellsOp3 h2 0 (by decide)
    obtain ⟨a1, f1, g1⟩ := ints_of Tryd.underlying117 Tryd.underlying116 cellsOp1 cellsOp3 h2 1 (by decide)
    obtain ⟨a2, f2, g2⟩ := ints_of Tryd.underlying117 Tryd.underlying116 cellsOp1 cellsOp3 h2 2 (by decide)
    simp at f0 f1 f2 g0 g1 g2
    injection hs0 with hs0 _
    injection hz1 with hz1 _
    subst hs0 hz1 f0 f1 f2
    rw [hy0] at e0
    rw [hy1] at e1
    simp at e0 e1
    rw [e0, e1, g0, g1, g2, bs_data]

/-- What the row's list gives: the table's cells. -/
theorem ordTab {W : World} (h : laidMet Tryd.prog laidOrd W) : Ot W := by
  obtain ⟨ps, ⟨g', t', cs, fuel, p, q, hg', ht', hvar, hd, _, _⟩, _⟩ := h
  obtain rfl := Option.some.inj (gOrd.symm.trans hg')
  obtain rfl := Option.some.inj (gOrdType.symm.trans ht')
  rw [ord_data] at hd
  have key : ∀ r, r < 38 → ∀ j, j < 5 → W.cell? ⟨0, r * 5 + j, none⟩ = [Value.string (bs (ordL.getD r noRow).1), .int .i64 (ordL.getD r noRow).2.1, .int .i64 (ordL.getD r noRow).2.2.1, .int .i64 (ordL.getD r noRow).2.2.2.1, .int .i64 (ordL.getD r noRow).2.2.2.2][j]? := by
    intro r hr j hj
    cases fuel with
    | zero => simp [DataW.trod] at hd
    | succ fuel =>
      simp only [DataW.trod, Tryd.underlying131, cellsRowO, cellsOrd] at hd
      split at hd
      · obtain ⟨xs, hm, hx⟩ := Option.map_eq_some_iff.1 hd
        have hxs : xs.map (·.1) = ordL.map rowD := by
          have := congrArg Prod.fst hx
          simpa using this
        obtain ⟨b, hb, hf⟩ := Lib.mapM_at hm r r (by simp [hr])
        have hb1 : b.1 = rowD (ordL.getD r noRow) := by
          have h1 := congrArg (·[r]?) hxs
          simp only [List.getElem?_map, hb] at h1
          rw [List.getElem?_eq_getElem (show r < ordL.length from hr)] at h1
          simp only [Option.map_some, Option.some.injEq] at h1
          rw [h1, List.getD_eq_getElem?_getD, List.getElem?_eq_getElem (show r < ordL.length from hr)]
          rfl
        obtain ⟨bd, bp⟩ := b
        simp only at hb1
        subst hb1
        have hrow := row_of hf
        have h7 := World.var?_cell gOrd hvar (r * 5 + j)
        rw [h7, ← hrow, List.getElem?_take_of_lt hj, List.getElem?_drop]
        simp
      · cases hd
  have k0 := fun r hr => key r hr 0 (by decide)
  exact ⟨World.block_lt_of_cell? W ⟨0, 0, none⟩ (k0 0 (by decide)), fun r hr => ⟨key r hr 0 (by decide), key r hr 1 (by decide), key r hr 2 (by decide), key r hr 3 (by decide), key r hr 4 (by decide)⟩⟩

theorem bothTabs {W : World} (h : laidMetH Tryd.prog laidAll W) : Ot W ∧ TB W := by
  have h0 : laidMet Tryd.prog laidAll W := h
  have h1 : laidMet Tryd.prog [("internal/strconv.uint64pow10", Rows.laid_internal_strconv_uint64pow10), ("minstrel/prog.orders", Rows.laid_minstrel_prog_orders)] W := laidMet.tail (laidMet.tail h0)
  have h2 : laidMet Tryd.prog laidOrd W := laidMet.tail h1
  refine ⟨ordTab h2, ?_⟩
  obtain ⟨g, hg⟩ := Option.isSome_iff_exists.1 (by kernel_rfl : (Tryd.prog.globalNamed "internal/strconv.uint64pow10").isSome = true)
  have hb : ((Tryd.prog.globalNamed "internal/strconv.uint64pow10").bind fun g => (Tryd.prog.globals[g]?).map (·.type)) = some 153 := by kernel_rfl
  rw [hg] at hb
  rw [pow_data13] at h1
  exact Lib.tabIs_of_head hg hb Tryd.underlying153 Tryd.underlying30 (by kernel_rfl) (by kernel_rfl) h1

/-- A whole number that came in. -/
theorem open_int {W : World} {base : Nat} {v : Value} (hval : Value.okWide Tryd.prog W .any base 3 v) : ∃ k : Int, v = .int .i64 k ∧ i64 k := by
  simp only [Value.okWide, Tryd.underlying3, Cell.okWide] at hval
  cases v <;> simp_all [Cell.ok]
  next a n =>
    have h := hval.2
    simp [IntKind.has, IntKind.min, IntKind.max, IntKind.signed, IntKind.bits] at h
    unfold i64
    omega

end Go.Proofs.YtcblknghkgihcaaDoor
