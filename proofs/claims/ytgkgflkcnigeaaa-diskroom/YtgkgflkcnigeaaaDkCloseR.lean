/-
  What the rows' readings give the walk of DiskRoom: rows of bytes that came in.
-/
import Derived.Test.YtgkgflkcnigeaaaDkClose
import Derived.Test.YtgkgflkcnigeaaaDkRoom
namespace Go.Proofs.Ytgkgflkcnigeaaa
set_option maxRecDepth 100000
open Go.ChangeShapes Go.WideShapes Go.ChangeAt Go.RowKit Txt Dk

theorem Dk.bB : Try.prog.bytesOf 33 = 24 := by kernel_rfl

theorem open_rows {H : Type} {enc : TypeId × Value → H} {W : World} {base : Nat} {v : Value} {d : DataW H} {p : List MemPlace}
    (hval : Value.okWide Try.prog W .any base 53 v) (h0 : DataW.Trod enc Try.prog W 0 (fun _ => true) true 53 v d p) {ts : List TypeId} {ds : List (DataW H)} (hz : (DataW.weightsEach Try.prog ts ds).all (· ≤ reachBytes) = true) {j : Nat} (ht : ts[j]? = some 53) (hd : ds[j]? = some d) :
    ∃ l, RB W v l := by
  obtain ⟨a, len, cap, rfl⟩ := okWide_slice Try.underlying53 hval
  obtain ⟨fuel, hf⟩ := h0
  have hw0 := w_of hz ht hd
  rcases DataW.trod_slice Try.underlying53 hf with ⟨hc, _⟩ | ⟨a', len', cap', elems, rest, q, rfl, hc, hx, _, hlc, hcm, hel, hat, _⟩
  · simp [Value.cells] at hc
    obtain ⟨rfl, rfl, rfl⟩ := hc
    exact ⟨[], none, 0, rfl, Nat.zero_le _, fun c => by simp at c⟩
  · simp [Value.cells] at hc
    obtain ⟨rfl, rfl, rfl⟩ := hc
    injection hx with hx1 hx2
    subst hx1
    rw [cBytes] at hat
    have hwe : ∀ x ∈ elems, ∀ m ∈ x.1.weights Try.prog 33, m ≤ reachBytes := by
      intro x hxm m hm
      refine hw0 m ?_
      simp only [DataW.weights, Try.underlying53]
      refine List.mem_cons_of_mem _ (List.mem_append.2 (Or.inl ?_))
      exact w_all (List.mem_map.2 ⟨x, hxm, rfl⟩) m hm
    have hlen : len ≤ 140737488355328 := by
      have := hw0 (((elems.map (·.1)).length + (rest.map (·.1)).length) * Try.prog.bytesOf 33) (by simp only [DataW.weights, Try.underlying53]; exact List.mem_cons_self ..)
      rw [bB, List.length_map, hel] at this
      unfold reachBytes at this
      omega
    have key : ∀ i, ∃ l : List Nat, i < len → ∃ u, W.cell? (a'.add i) = some u ∧ BR W u l ∧ l.length ≤ 140737488351232 := by
      intro i
      by_cases hi : i < len
      · obtain ⟨y, ey⟩ := sm_at hel hi
        have hb := hat i hi
        rw [ey] at hb
        obtain ⟨cs, hcs, htr⟩ := Option.bind_eq_some_iff.1 hb
        obtain ⟨c1, c2⟩ := cellsN hcs
        obtain ⟨u, rfl⟩ := list1 c1
        obtain ⟨l, hl, hll⟩ := bytes_trod htr (hwe y (List.mem_of_getElem? ey))
        refine ⟨l, fun _ => ⟨u, ?_, hl, hll⟩⟩
        have := c2 0 (by decide)
        rw [Addr_add_zero, Nat.mul_one] at this
        exact this
      · exact ⟨[], fun h => absurd h hi⟩
    obtain ⟨f, hf2⟩ := Classical.axiomOfChoice key
    have hl : ((List.range len).map f).length = len := by simp
    refine ⟨(List.range len).map f, some a', cap, by rw [hl], by rw [hl]; exact hlen, fun c => ?_⟩
    rw [hl] at c
    obtain ⟨u0, g0, -, -⟩ := hf2 0 c
    rw [Addr_add_zero] at g0
    have hsp := spotn g0
    obtain ⟨gb, go, sp⟩ := a'
    simp only at hsp
    subst hsp
    refine ⟨gb, go, rfl, World.block_lt_of_cell? W _ g0, fun i hi => ?_⟩
    obtain ⟨u, q1, q2, q3⟩ := hf2 i (by rw [hl] at hi; exact hi)
    rw [addm] at q1
    have e : ((List.range len).map f)[i] = f i := by simp
    rw [e]
    exact ⟨u, q1, q2, q3⟩

end Go.Proofs.Ytgkgflkcnigeaaa
