/-
  What the rows' readings give the walks of layer 7: how long the texts of a cell are that came in.
-/
import Derived.Test.YtbkjghhghefejaaCdOpen2
import Derived.Test.YtbkjghhghefejaaCdPut3
namespace Go.Proofs.Ytbkjghhghefejaa
open Go.ChangeShapes Go.WideShapes Go.ChangeAt Go.RowKit Crc

theorem weights_all {H : Type} {P : Program} {e : TypeId} : ∀ {ds : List (DataW H)} {d : DataW H}, d ∈ ds → ∀ n ∈ d.weights P e, n ∈ DataW.weightsAll P e ds
  | c :: ds, d, h, n, hn => by
    simp only [DataW.weightsAll, List.mem_append]
    rcases List.mem_cons.1 h with rfl | h
    · exact Or.inl hn
    · exact Or.inr (weights_all h n hn)

theorem st_of {H : Type} {enc : TypeId × Value → H} {W : World} {sp : Nat → Bool} {held : Bool} {t : Tr} {v : Value} (h : CR W t v) : ∀ (fuel : Nat) (cs : List Value) (x : DataW H × List MemPlace), v = .agg cs.toArray → DataW.trod enc Try.prog W 0 sp held fuel 25 cs = some x → (∀ m ∈ x.1.weights Try.prog 25, m ≤ reachBytes) → ST t := by
  induction h using CR.ind with
  | mk k n s ts a cap ks ns ss us hk hn hs hl hc h0 hx hr ih =>
  intro fuel cs x hv h hw
  unfold cellV at hv
  simp only [Value.agg.injEq, Array.mk.injEq] at hv
  subst hv
  obtain ⟨xs, q, rfl, rfl, hlen, hxl, hf⟩ := DataW.trod_struct Try.underlying25 h
  have h2 : DataW.trod enc Try.prog W 0 sp held q 9 (([Value.int IntKind.i64 k, Value.int IntKind.u64 n, Value.string s, Value.slice a ts.length cap].drop 2).take (Try.prog.cellsOf 9)) = xs[2]? := hf 2 _ rfl
  have h3 : DataW.trod enc Try.prog W 0 sp held q 23 (([Value.int IntKind.i64 k, Value.int IntKind.u64 n, Value.string s, Value.slice a ts.length cap].drop 3).take (Try.prog.cellsOf 23)) = xs[3]? := hf 3 _ rfl
  obtain ⟨y2, e2⟩ := some_at hxl (i := 2) (by decide)
  obtain ⟨y3, e3⟩ := some_at hxl (i := 3) (by decide)
  rw [e2] at h2
  rw [e3] at h3
  simp only [cellsStr, cellsRow, List.drop_succ_cons, List.drop_zero, List.take_succ_cons, List.take_zero] at h2 h3
  have hw' : ∀ (j : Nat) (tt : TypeId) (d : DataW H), [3, 22, 9, 23][j]? = some tt → (xs.map (·.1))[j]? = some d → ∀ m ∈ d.weights Try.prog tt, m ≤ reachBytes := by
    intro j tt d h1 h2 m hm
    refine hw m ?_
    simp only [DataW.weights, Try.underlying25]
    exact DataW.weights_mem_each (ts := [3, 22, 9, 23]) h1 h2 m hm
  rw [ST_mk]
  obtain ⟨s2, hs2, hy2, _⟩ := DataW.trod_string Try.underlying9 h2
  injection hs2 with hs2 _
  injection hs2 with hs2
  subst hs2
  refine ⟨?_, fun u hu => ?_⟩
  · have := hw' 2 9 (.lit (.string s.data.toList)) rfl (by rw [List.getElem?_map, e2, hy2]; rfl) s.data.toList.length (by simp [DataW.weights])
    unfold reachBytes at this
    have e : s.data.toList.length = s.size := by simp
    omega
  · obtain ⟨i, hi, eu⟩ := List.getElem_of_mem hu
    rcases DataW.trod_slice Try.underlying23 h3 with ⟨hc3, _⟩ | ⟨b, len, cap3, elems, rest, q2, rfl, hc3, hy3, _, hlc, hcm, hel, hat, _⟩
    · injection hc3 with hc3 _
      injection hc3 with h4 h5 h6
      omega
    · injection hc3 with hc3 _
      injection hc3 with h4 h5 h6
      subst h4 h6
      have hi2 : i < len := by omega
      obtain ⟨y, ey⟩ := some_at hel hi2
      have hb := hat i hi2
      rw [ey, cellsCell] at hb
      obtain ⟨cs, hcs, htr⟩ := Option.bind_eq_some_iff.1 hb
      obtain ⟨c0, c1, c2, c3, e, g0, g1, g2, g3⟩ := cells_four hcs
      obtain ⟨hsp, hli⟩ := hx b i rfl hi
      obtain ⟨bb, oo, spt⟩ := b
      simp only at hsp
      subst hsp
      rw [add_mk] at g0 g1 g2 g3
      rw [add_mk] at g1 g2 g3
      have f0 := g0.symm.trans hli.c0
      have f1 := g1.symm.trans hli.c1
      have f2 := g2.symm.trans hli.c2
      have f3 := g3.symm.trans hli.c3
      injection f0 with f0
      injection f1 with f1
      injection f2 with f2
      injection f3 with f3
      subst e f0 f1 f2 f3
      rw [← eu]
      refine ih i hi q2 _ y rfl htr (fun m hm => ?_)
      refine hw' 3 23 y3.1 rfl (by rw [List.getElem?_map, e3]; rfl) m ?_
      rw [hy3]
      simp only [DataW.weights, Try.underlying23]
      refine List.mem_cons_of_mem _ (List.mem_append_left _ (weights_all (d := y.1) ?_ m hm))
      exact List.mem_map.2 ⟨y, List.mem_of_getElem? ey, rfl⟩

/-- A cell that came in, and its texts. -/
theorem open_cell_st {H : Type} {enc : TypeId × Value → H} {W : World} {base : Nat} {v : Value} {d : DataW H} {p : List MemPlace}
    (hval : Value.okWide Try.prog W .any base 25 v) (h0 : DataW.Trod enc Try.prog W 0 (fun _ => true) true 25 v d p) {ts : List TypeId} {ds : List (DataW H)} (hz : (DataW.weightsEach Try.prog ts ds).all (· ≤ reachBytes) = true) {j : Nat} (ht : ts[j]? = some 25) (hd : ds[j]? = some d) : ∃ t, CR W t v ∧ ST t := by
  obtain ⟨t, hc⟩ := open_cell hval h0
  refine ⟨t, hc, ?_⟩
  obtain ⟨fuel, hf⟩ := h0
  obtain ⟨k, n, s, a, m, cap, rfl⟩ := hc.cs.form
  refine st_of hc fuel _ _ rfl hf (fun m hm => ?_)
  have := List.all_eq_true.1 hz m (DataW.weights_mem_each ht hd m hm)
  simpa using this

end Go.Proofs.Ytbkjghhghefejaa
