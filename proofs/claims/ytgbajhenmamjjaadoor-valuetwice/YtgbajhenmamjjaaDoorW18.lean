/-
  ValClose, ValueTwiceOwn
-/
import Derived.Test.YtgbajhenmamjjaaDoorCards
import Derived.Test.YtgbajhenmamjjaaDoorTie
import Derived.SizedLaws
import Derived.Carry
import Derived.ShutString
import Derived.OpenShut
import Derived.Deep.DeepHandedRow
import Derived.Lib.LaidTab
import Derived.LaidMore
import Derived.Test.YtgbajhenmamjjaaDoorZ17

/-
  What the rows' readings give the walks of layer 8: the table of names, values that came in.
-/
namespace Go.Proofs.YtgbajhenmamjjaaDoor
set_option maxRecDepth 100000
open Go.ChangeShapes Go.WideShapes Go.ChangeAt Go.RowKit Flo

theorem ownKnob_none : ownKnob Tryd.prog.godebug = none := by kernel_rfl
theorem laidOut : laidOutB Tryd.prog = true := by kernel_rfl
theorem gNames : Tryd.prog.globalNamed "minstrel/value.names" = some 0 := by kernel_rfl
theorem gNamesType : (Tryd.prog.globals[0]?).map (·.type) = some 42 := by kernel_rfl
theorem cellsNames : Tryd.prog.cellsOf 42 = 9 := by kernel_rfl
theorem cellsText : Tryd.prog.cellsOf 9 = 1 := by kernel_rfl

/-- An array of texts that reads as a list of texts holds them, cell for cell. -/
theorem texts_of {H : Type} {enc : TypeId × Value → H} {P : Program} {w : World} {base : Nat} {sp : Nat → Bool} {held : Bool} {fuel : Nat} {t e : TypeId} {n : Nat} {cs : List Value} {ds : List (DataW H)} {p : List MemPlace}
    (ht : P.underlying t = some (.array n e)) (he : P.underlying e = some .string) (hce : P.cellsOf e = 1) (hct : P.cellsOf t = n)
    (h : DataW.trod enc P w base sp held fuel t cs = some (.agg ds, p)) (i : Nat) (hi : i < n) : ∃ s : ByteArray, cs[i]? = some (.string s) ∧ ds[i]? = some (.lit (.string s.data.toList)) := by
  cases fuel with
  | zero => simp [DataW.trod] at h
  | succ fuel =>
    simp only [DataW.trod, ht, hce, hct, Nat.mul_one] at h
    split at h
    · obtain ⟨xs, hm, hx⟩ := Option.map_eq_some_iff.1 h
      have hxs : xs.map (·.1) = ds := by
        have := congrArg Prod.fst hx
        simpa using this
      obtain ⟨b, hb, hf⟩ := Lib.mapM_at hm i i (by simp [hi])
      obtain ⟨s, hc, rfl, _⟩ := DataW.trod_string he hf
      refine ⟨s, ?_, ?_⟩
      · have := congrArg (·[0]?) hc
        simpa [List.getElem?_take, List.getElem?_drop] using this
      · rw [← hxs]; simp [hb]
    · cases h

def laidNames : List (String × DataW Unit) := [("minstrel/value.names", Rows.laid_minstrel_value_names)]
theorem laid_at : ∀ i, i < 9 → ∃ l : List UInt8, (match (Rows.laid_minstrel_value_names : DataW Unit) with | .agg ds => ds[i]? | _ => none) = some (.lit (.string l)) ∧ nms.getD i ⟨#[]⟩ = ⟨l.toArray⟩ := by
  intro i hi
  have : i = 0 ∨ i = 1 ∨ i = 2 ∨ i = 3 ∨ i = 4 ∨ i = 5 ∨ i = 6 ∨ i = 7 ∨ i = 8 := by omega
  rcases this with rfl | rfl | rfl | rfl | rfl | rfl | rfl | rfl | rfl <;> exact ⟨_, rfl, rfl⟩
/-- What the row's list gives: the table's cells. -/
theorem names {W : World} (h : laidMetH Tryd.prog laidNames W) : Nb W := by
  obtain ⟨ps, ⟨g', t', cs, fuel, p, q, hg', ht', hvar, hd, _, _⟩, _⟩ := h
  obtain rfl := Option.some.inj (gNames.symm.trans hg')
  obtain rfl := Option.some.inj (gNamesType.symm.trans ht')
  have key : ∀ r, r < 9 → W.cell? ⟨0, r, none⟩ = some (.string (nms.getD r ⟨#[]⟩)) := by
    intro r hr
    obtain ⟨s, h1, h2⟩ := texts_of Tryd.underlying42 Tryd.underlying9 cellsText cellsNames hd r hr
    obtain ⟨l, h3, h4⟩ := laid_at r hr
    have e : s = ⟨l.toArray⟩ := by
      have h5 : (DataW.lit (.string s.data.toList) : DataW Unit) = .lit (.string l) := Option.some.inj (h2.symm.trans h3)
      have h6 : s.data.toList = l := by simpa using h5
      cases s
      rw [← h6]
    have h7 := World.var?_cell gNames hvar r
    rw [h4, ← e, h7]
    simpa using h1
  exact ⟨World.block_lt_of_cell? W ⟨0, 0, none⟩ (key 0 (by decide)), key⟩

theorem value_types : Tryd.prog.cellTypes Tryd.prog.depth 25 = some [3, 23, 9, 3] := by kernel_rfl
theorem value_cells : Tryd.prog.cellsOf 25 = 4 := by kernel_rfl
theorem array_four {cs : Array Value} (h : cs.size = 4) : ∃ x0 x1 x2 x3, cs = #[x0, x1, x2, x3] := by
  obtain ⟨l⟩ := cs
  match l, h with
  | [x0, x1, x2, x3], _ => exact ⟨x0, x1, x2, x3, rfl⟩
theorem cell_int8 {P : Program} {W : World} {base : Nat} {t : TypeId} {k : IntKind} {v : Value} (ht : P.underlying t = some (.int k)) (h : Cell.okWide P W .any base t v) : ∃ n, v = .int k n ∧ k.has n := by
  simp only [Cell.okWide, ht] at h
  cases v <;> simp_all [Cell.ok]
theorem cell_text8 {P : Program} {W : World} {base : Nat} {t : TypeId} {v : Value} (ht : P.underlying t = some .string) (h : Cell.okWide P W .any base t v) : ∃ s, v = .string s ∧ s.size ≤ maxLen := by
  simp only [Cell.okWide, ht] at h
  cases v <;> simp_all [Cell.ok]
  unfold maxLen
  omega
/-- A value that came in. -/
theorem open_value {W : World} {base : Nat} {v : Value} (hval : Value.okWide Tryd.prog W .any base 25 v) :
    ∃ (K N : Int) (S : ByteArray) (O : Int), v = .agg #[.int .i64 K, .int .u64 N, .string S, .int .i64 O] ∧ U64 N ∧ S.size ≤ maxLen := by
  simp only [Value.okWide, Tryd.underlying25] at hval
  obtain ⟨cs, rfl, hsz, ts, hts, _, hrow⟩ := hval
  rw [value_types] at hts
  obtain rfl := Option.some.inj hts
  obtain ⟨x0, x1, x2, x3, rfl⟩ := array_four (hsz.trans value_cells)
  obtain ⟨u0, e0, c0⟩ := hrow 0 x0 rfl
  obtain ⟨u1, e1, c1⟩ := hrow 1 x1 rfl
  obtain ⟨u2, e2, c2⟩ := hrow 2 x2 rfl
  obtain ⟨u3, e3, c3⟩ := hrow 3 x3 rfl
  obtain rfl : 3 = u0 := Option.some.inj e0
  obtain rfl : 23 = u1 := Option.some.inj e1
  obtain rfl : 9 = u2 := Option.some.inj e2
  obtain rfl : 3 = u3 := Option.some.inj e3
  obtain ⟨n0, rfl, b0⟩ := cell_int8 Tryd.underlying3 c0
  obtain ⟨n1, rfl, b1⟩ := cell_int8 Tryd.underlying23 c1
  obtain ⟨n2, rfl, b2⟩ := cell_text8 Tryd.underlying9 c2
  obtain ⟨n3, rfl, b3⟩ := cell_int8 Tryd.underlying3 c3
  simp [IntKind.has, IntKind.min, IntKind.max, IntKind.signed, IntKind.bits] at b1
  exact ⟨n0, n1, n2, n3, rfl, ⟨by omega, by omega⟩, b2⟩

end Go.Proofs.YtgbajhenmamjjaaDoor

/-
  For every value: its plain form and its form as a key are their own, and the same value: the statement ValueTwice, with no condition.
-/
namespace Go.Proofs.YtgbajhenmamjjaaDoor.valueTwice
set_option maxRecDepth 100000
open Go.ChangeShapes Go.WideShapes Go.ChangeAt Go.RowKit

theorem contract (H : Type) (enc : TypeId × Value → H) (W : World) (base : Nat) (args : Array Value) (ds gs : List (DataW H)) (before : List MemPlace)
    (hval0 : ∀ (j : Nat) t v, Tryd.f4.params[j]? = some t → args[j]? = some v → Value.okWide Tryd.prog W .any base t v)
    (hW : DataW.Whole enc Tryd.prog Tryd.f4.params.toList Rows.valueTwiceSpec.vars false W args.toList ds gs before) (hL : laidMetH Tryd.prog laidNames W)
    (hsz : (DataW.weightsEach Tryd.prog (Tryd.f4.params.toList ++ (OpenSpec.ofChange Rows.valueTwiceSpec).bare.plain.varTypes Tryd.prog) (ds ++ gs)).all (· ≤ reachBytes) = true) :
    Calls Tryd.prog 4 args W fun e W' => ∃ v, e = .returned v ∧ Rows.valueTwiceSpec.post enc Tryd.prog Tryd.f4 false true false false W args v W' := by
  have hval : ∀ (j : Nat) t v, Tryd.f4.params[j]? = some t → args[j]? = some v → Value.okWide Tryd.prog W .any base t v := hval0
  have hW' := hW
  obtain ⟨p, q, hA0, hV, rfl, hfz, hnd⟩ := hW
  have hA : DataW.TrodAll enc Tryd.prog W 0 (fun _ => true) true Tryd.f4.params.toList args.toList ds p := hA0
  rw [Tryd.params4] at hA hval hsz
  obtain ⟨v0, vs0, d0, ds0, p0, q0, hargs, rfl, rfl, h0, r0⟩ := trodAll_cons hA
  obtain ⟨rfl, rfl, rfl⟩ := trodAll_nil r0
  obtain rfl : args = #[v0] := by cases args; simp_all
  obtain ⟨rfl, rfl⟩ := trodVars_none hV
  have lt0 : ∀ x ∈ p0, x.block < W.heap.size := by obtain ⟨m, hm⟩ := h0; exact DataW.trod_lt m _ _ _ hm
  obtain ⟨K0, N0, S0, O0, rfl, u0, m0⟩ := open_value (hval 0 25 v0 rfl rfl)
  have hT := names hL
  clear hA0 hval0
  refine (valueTwice_walk K0 N0 S0 O0 W u0 hT).mono fun e W' ⟨he, bel⟩ => ?_
  subst he
  exact ⟨_, rfl, _, _, _, [], _, [], hW', trodAll_mk1 (shut_bool Tryd.underlying4 _), (trodAll_cons_mk (Below.trod laidOut (by kernel_rfl) (of_decide_eq_true (by kernel_rfl)) h0 bel lt0) trodAll_mk0), rfl, bel.frame _, fun h => by cases h⟩

theorem laid_met (os : Os) : laidMet Tryd.prog Rows.valueTwiceRow.laid ((World.doorLaid Tryd.prog 4000 os).forCall (fun _ _ => 0) ⟨#[], #[.agg #[.int .i64 0, .int .u64 0, .string ⟨#[]⟩, .int .i64 0]], []⟩).memory :=
  laidMet_of_run' 8 (by kernel_rfl) (by kernel_rfl)
theorem reads (os : Os) {H : Type} (enc : TypeId × Value → H) : ∃ places, DataW.whole enc Tryd.prog ((World.doorLaid Tryd.prog 4000 os).forCall (fun _ _ => 0) ⟨#[], #[.agg #[.int .i64 0, .int .u64 0, .string ⟨#[]⟩, .int .i64 0]], []⟩).memory Tryd.f4.params.toList Rows.valueTwiceSpec.vars false (#[.agg #[.int .i64 0, .int .u64 0, .string ⟨#[]⟩, .int .i64 0]] : Array Value).toList 8 = some ([.agg [.lit (.int .i64 0), .lit (.int .u64 0), .lit (.string []), .lit (.int .i64 0)]], [], places) :=
  ⟨[], by kernel_rfl⟩

set_option maxRecDepth 100000 in
theorem lifted (os : Os) (started : os.Started) (H : Type) (enc : TypeId × Value → H) (F : Stop.Interp) :
    ReturnsInHanded {} Tryd.checked os 4 .any ((OpenSpec.ofChange Rows.valueTwiceSpec).preRow enc Tryd.prog Tryd.f4 Rows.valueTwiceRow.domain false Rows.valueTwiceRow.laid) (((OpenSpec.ofChange Rows.valueTwiceSpec).at F).post enc Tryd.prog Tryd.f4 false true false false) := by
  obtain ⟨places, hx⟩ := reads os enc
  refine returnsInHanded_of_row (C := Tryd.checked) (s := OpenSpec.ofChange Rows.valueTwiceSpec) ownKnob_none started (by kernel_rfl) Tryd.func4
    (witness_row_at (enc := enc) (C := Tryd.checked) false (World.doorLaid Tryd.prog 4000 os) #[.agg #[.int .i64 0, .int .u64 0, .string ⟨#[]⟩, .int .i64 0]] rfl (by kernel_rfl) (by kernel_rfl) (by kernel_rfl)
      (OpenSpec.preRow_of_cond 8 hx (by kernel_rfl) (fun k hk => by cases hk) (by kernel_rfl) (laid_met os))) ?_
  intro W base args ds gs before hval hW _ _ hsz hL _ _
  exact contract H enc W base args ds gs before hval hW hL hsz

theorem said : Rows.ValueTwiceSaid :=
  OpenClaim.holds_of_cond 4 Tryd.f4 rfl rfl rfl rfl rfl rfl rfl ⟨rfl, rfl, rfl, rfl, rfl⟩ rfl rfl rfl rfl rfl (by kernel_rfl) Tryd.func4 (by kernel_rfl)
    (of_decide_eq_true (by kernel_rfl)) (by unfold Func.isWrapper; first | (rw [if_pos (by decide +kernel)]; kernel_rfl) | (rw [if_neg (by decide +kernel)]; exact ⟨rfl, rfl⟩))
    (fun os started H enc _ F => by rw [OpenClaim.pre_eq_preRow]; exact lifted os started H enc F)

theorem plain (f : FuncId) (fn : Func) (hf : Tryd.pinned.checked.prog.funcNamed "minstrel/minstrellaw08.ValueTwice" = some f) (hfn : Tryd.pinned.checked.prog.funcs[f]? = some fn) :
    false = Tryd.pinned.checked.prog.looks [] ∧ ∀ (j : Nat) t, fn.params[j]? = some t → Tryd.pinned.checked.prog.wantsStandIn t = false := by
  obtain rfl : f = 4 := Option.some.inj ((show Tryd.prog.funcNamed "minstrel/minstrellaw08.ValueTwice" = some 4 by kernel_rfl).symm.trans hf) |>.symm
  obtain rfl : fn = Tryd.f4 := (Option.some.inj (Tryd.func4.symm.trans hfn)).symm
  refine ⟨by kernel_rfl, fun j t ht => ?_⟩
  rw [Tryd.params4] at ht
  have hm : t ∈ [25] := by simpa using Array.mem_of_getElem? ht
  have hall : ([25].all fun u => !Tryd.prog.wantsStandIn u) = true := by kernel_rfl
  exact (show Tryd.prog.wantsStandIn t = false by simpa using List.all_eq_true.1 hall t hm)

/-- The statement. -/
theorem proved : Rows.ValueTwiceCardSaid :=
  Claim7.holds_tied_plain_at .later [] _ _ _ _ said (fun _ h => by cases h) (by kernel_rfl) (fun _ h => by cases h) valueTwice_row_tie rfl ⟨rfl, rfl⟩ (by kernel_rfl) rfl plain (by kernel_rfl)
end Go.Proofs.YtgbajhenmamjjaaDoor.valueTwice
