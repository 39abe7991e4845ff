/-
  LxClose
-/
import Derived.Test.YtfhoimfjfbbhaaaDoorCards
import Derived.Test.YtfhoimfjfbbhaaaDoorTie
import Derived.SizedLaws
import Derived.Carry
import Derived.ShutString
import Derived.OpenShut
import Derived.Deep.DeepHandedRow
import Derived.Lib.LaidTab
import Derived.LaidMore
import Derived.Test.YtfhoimfjfbbhaaaDoorZ17

/-
  What the rows' readings give the walks of layer 10: the table of signs, texts that came in.
-/
namespace Go.Proofs.YtfhoimfjfbbhaaaDoor
set_option maxRecDepth 100000
open Go.ChangeShapes Go.WideShapes Go.ChangeAt Go.RowKit Txt Lx

theorem ownKnob_none : ownKnob Tryd.prog.godebug = none := by kernel_rfl
theorem laidOut : laidOutB Tryd.prog = true := by kernel_rfl
theorem gNames : Tryd.prog.globalNamed "minstrel/lex.signs" = some 0 := by kernel_rfl
theorem gNamesType : (Tryd.prog.globals[0]?).map (·.type) = some 50 := by kernel_rfl
theorem cellsNames : Tryd.prog.cellsOf 50 = 23 := by kernel_rfl
theorem cellsText : Tryd.prog.cellsOf 9 = 1 := by kernel_rfl

/-- An array of texts that reads as a list of texts holds them, cell for cell. -/
theorem texts_of {H : Type} {enc : TypeId × Value → H} {P : Program} {w : World} {base : Nat} {sp : Nat → Bool} {held : Bool} {fuel : Nat} {t e : TypeId} {n : Nat} {cs : List Value} {ds : List (DataW H)} {p : List MemPlace}
    (ht : P.underlying t = some (.array n e)) (he : P.underlying e = some .string) (hce : P.cellsOf e = 1) (hct : P.cellsOf t = n)
    (h : DataW.trod enc P w base sp held fuel t cs = some (.agg ds, p)) (i : Nat) (hi : i < n) : ∃ s : ByteArray, cs[i]? = some (.string s) ∧ ds[i]? = some (.lit (.string s.data.toList)) := by
  cases fuel with
  | zero => simp [DataW.trod] at h
  | succ fuel =>
    simp only [DataW.trod, ht, hce, hct, Nat.mul_one] at h
    split at h
    · obtain ⟨xs, hm, hx⟩ := Option.map_eq_some_iff.1 h
      have hxs : xs.map (·.1) = ds := by
        have := congrArg Prod.fst hx
        simpa using this
      obtain ⟨b, hb, hf⟩ := Lib.mapM_at hm i i (by simp [hi])
      obtain ⟨s, hc, rfl, _⟩ := DataW.trod_string he hf
      refine ⟨s, ?_, ?_⟩
      · have := congrArg (·[0]?) hc
        simpa [List.getElem?_take, List.getElem?_drop] using this
      · rw [← hxs]; simp [hb]
    · cases h

def laidNames : List (String × DataW Unit) := [("minstrel/lex.signs", Rows.laid_minstrel_lex_signs)]
theorem laid_at : ∀ i, i < 23 → (match (Rows.laid_minstrel_lex_signs : DataW Unit) with | .agg ds => ds[i]? | _ => none) = some (.lit (.string (signsL.getD i []))) := by
  intro i hi
  have h : (match (Rows.laid_minstrel_lex_signs : DataW Unit) with | .agg ds => ds[i]? | _ => none) = (signsL.map fun s => (DataW.lit (.string s) : DataW Unit))[i]? := rfl
  rw [h, List.getElem?_map, List.getD_eq_getElem?_getD, List.getElem?_eq_getElem (show i < signsL.length from hi)]
  rfl
/-- What the row's list gives: the table's cells. -/
theorem names {W : World} (h : laidMetH Tryd.prog laidNames W) : Sg W := by
  obtain ⟨ps, ⟨g', t', cs, fuel, p, q, hg', ht', hvar, hd, _, _⟩, _⟩ := h
  obtain rfl := Option.some.inj (gNames.symm.trans hg')
  obtain rfl := Option.some.inj (gNamesType.symm.trans ht')
  have key : ∀ r, r < 23 → W.cell? ⟨0, r, none⟩ = some (.string (bs (signsL.getD r []))) := by
    intro r hr
    obtain ⟨s, h1, h2⟩ := texts_of Tryd.underlying50 Tryd.underlying9 cellsText cellsNames hd r hr
    have h3 := laid_at r hr
    have e : s = bs (signsL.getD r []) := by
      have h5 : (DataW.lit (.string s.data.toList) : DataW Unit) = .lit (.string (signsL.getD r [])) := Option.some.inj (h2.symm.trans h3)
      have h6 : s.data.toList = signsL.getD r [] := by simpa using h5
      rw [← h6]
      exact (bs_data s).symm
    have h7 := World.var?_cell gNames hvar r
    rw [← e, h7]
    simpa using h1
  exact ⟨World.block_lt_of_cell? W ⟨0, 0, none⟩ (key 0 (by decide)), key⟩
/-- A text that came in. -/
theorem open_text {W : World} {base : Nat} {v : Value} (hval : Value.okWide Tryd.prog W .any base 9 v) : ∃ l : List UInt8, v = .string (bs l) ∧ l.length ≤ maxLen := by
  simp only [Value.okWide, Tryd.underlying9, Cell.okWide] at hval
  cases v <;> simp_all [Cell.ok]
  next s =>
    refine ⟨s.data.toList, (bs_data s).symm, ?_⟩
    have e : s.data.toList.length = s.size := by rw [← bs_size, bs_data]
    unfold maxLen
    omega

end Go.Proofs.YtfhoimfjfbbhaaaDoor
