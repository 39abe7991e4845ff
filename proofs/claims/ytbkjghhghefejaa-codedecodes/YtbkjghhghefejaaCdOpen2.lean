/-
  What the rows' readings give the walks of layer 7: numbers, texts, bytes and rows of cells that came in.
-/
import Derived.Test.YtbkjghhghefejaaCdOpen
namespace Go.Proofs.Ytbkjghhghefejaa
open Go.ChangeShapes Go.WideShapes Go.ChangeAt Go.RowKit Crc

theorem open_u16 {W : World} {base : Nat} {v : Value} (hval : Value.okWide Try.prog W .any base 42 v) : ∃ k : Nat, v = .int .u16 (k : Int) ∧ k < 65536 := by
  simp only [Value.okWide, Try.underlying42, Cell.okWide] at hval
  cases v <;> simp_all [Cell.ok]
  next a n =>
    have h := hval.2
    simp [IntKind.has, IntKind.min, IntKind.max, IntKind.signed, IntKind.bits] at h
    exact ⟨n.toNat, by omega, by omega⟩

theorem open_u64 {W : World} {base : Nat} {v : Value} (hval : Value.okWide Try.prog W .any base 22 v) : ∃ k : Nat, v = .int .u64 (k : Int) ∧ k < 18446744073709551616 := by
  simp only [Value.okWide, Try.underlying22, Cell.okWide] at hval
  cases v <;> simp_all [Cell.ok]
  next a n =>
    have h := hval.2
    simp [IntKind.has, IntKind.min, IntKind.max, IntKind.signed, IntKind.bits] at h
    exact ⟨n.toNat, by omega, by omega⟩

theorem open_text {W : World} {base : Nat} {v : Value} (hval : Value.okWide Try.prog W .any base 9 v) : ∃ s : ByteArray, v = .string s ∧ s.size ≤ 9223372036854775807 := by
  simp only [Value.okWide, Try.underlying9, Cell.okWide] at hval
  cases v <;> simp_all [Cell.ok]
  next s => omega

/-- Bytes that came in. -/
theorem open_bytes {H : Type} {enc : TypeId × Value → H} {W : World} {base : Nat} {v : Value} {d : DataW H} {p : List MemPlace}
    (hval : Value.okWide Try.prog W .any base 28 v) (h0 : DataW.Trod enc Try.prog W 0 (fun _ => true) true 28 v d p) :
    ∃ l, BR W v l ∧ ((d = .nil ∧ l = []) ∨ ∃ elems spare, d = .slice elems spare ∧ elems.length = l.length) := by
  obtain ⟨a, len, cap, rfl⟩ := okWide_slice Try.underlying28 hval
  obtain ⟨fuel, hf⟩ := h0
  rcases open_ints Try.underlying28 Try.underlying5 (by kernel_rfl) hf with ⟨hcs, hx⟩ | ⟨x, n, c, zs, hcs, _, hl, hm, hz, hx, hcell, hwz⟩
  · simp [Value.cells] at hcs
    obtain ⟨rfl, rfl, rfl⟩ := hcs
    exact ⟨[], ⟨fun d hd => (by cases hd), none, 0, rfl, Nat.le_refl _, by unfold maxLen; omega, Or.inl ⟨rfl, rfl⟩⟩, Or.inl ⟨(Prod.mk.inj hx).1, rfl⟩⟩
  · simp [Value.cells] at hcs
    obtain ⟨rfl, rfl, rfl⟩ := hcs
    have hz' : zs.length = cap := by simpa using hz
    have hb : ∀ z ∈ zs, 0 ≤ z ∧ z < 256 := by
      intro z hz
      have := bounds_u8 (hwz z hz)
      omega
    have hlen : ((zs.take len).map Int.toNat).length = len := by rw [List.length_map, List.length_take]; omega
    refine ⟨(zs.take len).map Int.toNat, ⟨?_, some x, cap, by rw [hlen], by rw [hlen]; omega, hm, Or.inr ⟨x, rfl, ?_⟩⟩, Or.inr ⟨_, _, (Prod.mk.inj hx).1, ?_⟩⟩
    · intro d hd
      obtain ⟨z, hz, rfl⟩ := List.mem_map.1 hd
      have := hb z (List.mem_of_mem_take hz)
      omega
    · intro i hi
      rw [hlen] at hi
      have hi2 : i < zs.length := by omega
      rw [hcell i hi2]
      have e1 : zs.getD i 0 = zs[i] := by rw [List.getD_eq_getElem?_getD, List.getElem?_eq_getElem hi2]; rfl
      have e2 : ((zs.take len).map Int.toNat).getD i 0 = zs[i].toNat := by
        rw [List.getD_eq_getElem?_getD, List.getElem?_map, List.getElem?_take_of_lt hi, List.getElem?_eq_getElem hi2]; rfl
      rw [e1, e2]
      have := hb zs[i] (List.getElem_mem hi2)
      rw [Int.toNat_of_nonneg this.1]
    · rw [hlen]; simp [lits]; omega

theorem bytes8 : Try.prog.bytesOf 5 = 1 := by kernel_rfl
/-- The form's own reach. -/
theorem bytes_reach {H : Type} {ts : List TypeId} {ds : List (DataW H)} (h : (DataW.weightsEach Try.prog ts ds).all (· ≤ reachBytes) = true) {j : Nat} {d : DataW H} {l : List Nat}
    (ht : ts[j]? = some 28) (hd : ds[j]? = some d) (hs : (d = .nil ∧ l = []) ∨ ∃ elems spare, d = .slice elems spare ∧ elems.length = l.length) : l.length ≤ 140737488351232 := by
  rcases hs with ⟨_, rfl⟩ | ⟨elems, spare, rfl, e⟩
  · exact Nat.zero_le _
  · have := sized_slice h ht hd Try.underlying28
    rw [bytes8] at this
    unfold reachBytes at this
    omega

/-- A row of cells that came in is a list. -/
theorem open_cells {H : Type} {enc : TypeId × Value → H} {W : World} {base : Nat} {v : Value} {d : DataW H} {p : List MemPlace}
    (hval : Value.okWide Try.prog W .any base 23 v) (h0 : DataW.Trod enc Try.prog W 0 (fun _ => true) true 23 v d p) : ∃ ts, CR W (.mk 2 0 ⟨#[]⟩ ts) (cellV 2 0 ⟨#[]⟩ v) := by
  obtain ⟨a0, len0, cap0, rfl⟩ := okWide_slice Try.underlying23 hval
  obtain ⟨fuel, hf⟩ := h0
  rcases DataW.trod_slice Try.underlying23 hf with ⟨hc, _⟩ | ⟨a, len, cap, elems, rest, q, rfl, hc, _, _, hlc, hcm, hel, hat, _⟩
  · simp [Value.cells] at hc
    obtain ⟨rfl, rfl, rfl⟩ := hc
    exact ⟨[], (CS_flat W (fun _ => True) 2 0 ⟨#[]⟩ (by decide) (by decide) (by decide)).cr⟩
  · simp [Value.cells] at hc
    obtain ⟨rfl, rfl, rfl⟩ := hc
    exact row_tree 2 0 ⟨#[]⟩ (by decide) (by decide) (by decide) hlc hcm hel hat (fun cs y h => trod_cell _ cs y h)

end Go.Proofs.Ytbkjghhghefejaa
