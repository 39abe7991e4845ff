/-
  What the rows' readings give the walks of layer 6: the table's cells, bytes that came in, and a world for the witness.
-/
import Derived.Test.YtpongbpkneefdaaDoorFrSum
import Derived.Test.YtpongbpkneefdaaDoorCards
import Derived.Test.YtpongbpkneefdaaDoorTie
import Derived.SizedLaws
import Derived.Carry
import Derived.Deep.DeepHandedRow
import Derived.Lib.LaidTab
import Derived.LaidMore
namespace Go.Proofs.YtpongbpkneefdaaDoor
open Go.ChangeShapes Go.WideShapes Go.ChangeAt Go.RowKit Crc

theorem ownKnob_none : ownKnob Tryd.prog.godebug = none := by kernel_rfl
theorem laidOut : laidOutB Tryd.prog = true := by kernel_rfl
theorem gTab : Tryd.prog.globalNamed "minstrel/frame.fourBits" = some 0 := by kernel_rfl
theorem gTabType : (Tryd.prog.globals[0]?).map (·.type) = some 48 := by kernel_rfl
theorem cellsTab : Tryd.prog.cellsOf 48 = 16 := by kernel_rfl
theorem cells32 : Tryd.prog.cellsOf 23 = 1 := by kernel_rfl
theorem bytes8 : Tryd.prog.bytesOf 5 = 1 := by kernel_rfl

def tabI : List Int := [0, 498536548, 997073096, 651767980, 1994146192, 1802195444, 1303535960, 1342533948, 3988292384, 4027552580, 3604390888, 3412177804, 2607071920, 2262029012, 2685067896, 3183342108]
def laidTab : List (String × DataW Unit) := [("minstrel/frame.fourBits", Rows.laid_minstrel_frame_fourBits)]
theorem tabI_at : ∀ r, r < 16 → tabI.getD r 0 = ((tab.getD r 0 : Nat) : Int) := by decide
/-- What the row's list gives: the table's cells. -/
theorem table {W : World} (h : laidMetH Tryd.prog laidTab W) : Tb W := by
  have ht : Lib.TabIs Tryd.prog W "minstrel/frame.fourBits" .u32 tabI := Lib.tabIs_of_head (rest := []) gTab gTabType Tryd.underlying48 Tryd.underlying23 cells32 cellsTab h
  intro r hr
  have := ht.cell gTab r (show r < tabI.length from hr)
  rw [this]
  rw [tabI_at r hr]
theorem table_size {W : World} (h : Tb W) : 0 < W.heap.size := World.block_lt_of_cell? W ⟨0, 0, none⟩ (h 0 (by decide))

/-- Bytes that came in. -/
theorem open_bytes {H : Type} {enc : TypeId × Value → H} {W : World} {base : Nat} {v : Value} {d : DataW H} {p : List MemPlace}
    (hval : Value.okWide Tryd.prog W .any base 22 v) (h0 : DataW.Trod enc Tryd.prog W 0 (fun _ => true) true 22 v d p) :
    ∃ l, BR W v l ∧ ((d = .nil ∧ l = []) ∨ ∃ elems spare, d = .slice elems spare ∧ elems.length = l.length) := by
  obtain ⟨a, len, cap, rfl⟩ := okWide_slice Tryd.underlying22 hval
  obtain ⟨fuel, hf⟩ := h0
  rcases open_ints Tryd.underlying22 Tryd.underlying5 (by kernel_rfl) hf with ⟨hcs, hx⟩ | ⟨x, n, c, zs, hcs, _, hl, hm, hz, hx, hcell, hwz⟩
  · simp [Value.cells] at hcs
    obtain ⟨rfl, rfl, rfl⟩ := hcs
    exact ⟨[], ⟨fun d hd => (by cases hd), none, 0, rfl, Nat.le_refl _, by unfold maxLen; omega, Or.inl ⟨rfl, rfl⟩⟩, Or.inl ⟨(Prod.mk.inj hx).1, rfl⟩⟩
  · simp [Value.cells] at hcs
    obtain ⟨rfl, rfl, rfl⟩ := hcs
    have hz' : zs.length = cap := by simpa using hz
    have hb : ∀ z ∈ zs, 0 ≤ z ∧ z < 256 := by
      intro z hz
      have := bounds_u8 (hwz z hz)
      omega
    have hlen : ((zs.take len).map Int.toNat).length = len := by rw [List.length_map, List.length_take]; omega
    refine ⟨(zs.take len).map Int.toNat, ⟨?_, some x, cap, by rw [hlen], by rw [hlen]; omega, hm, Or.inr ⟨x, rfl, ?_⟩⟩, Or.inr ⟨_, _, (Prod.mk.inj hx).1, ?_⟩⟩
    · intro d hd
      obtain ⟨z, hz, rfl⟩ := List.mem_map.1 hd
      have := hb z (List.mem_of_mem_take hz)
      omega
    · intro i hi
      rw [hlen] at hi
      have hi2 : i < zs.length := by omega
      rw [hcell i hi2]
      have e1 : zs.getD i 0 = zs[i] := by rw [List.getD_eq_getElem?_getD, List.getElem?_eq_getElem hi2]; rfl
      have e2 : ((zs.take len).map Int.toNat).getD i 0 = zs[i].toNat := by
        rw [List.getD_eq_getElem?_getD, List.getElem?_map, List.getElem?_take_of_lt hi, List.getElem?_eq_getElem hi2]; rfl
      rw [e1, e2]
      have := hb zs[i] (List.getElem_mem hi2)
      rw [Int.toNat_of_nonneg this.1]
    · rw [hlen]; simp [lits]; omega
/-- The form's own reach. -/
theorem bytes_reach {H : Type} {ts : List TypeId} {ds : List (DataW H)} (h : (DataW.weightsEach Tryd.prog ts ds).all (· ≤ reachBytes) = true) {j : Nat} {d : DataW H} {l : List Nat}
    (ht : ts[j]? = some 22) (hd : ds[j]? = some d) (hs : (d = .nil ∧ l = []) ∨ ∃ elems spare, d = .slice elems spare ∧ elems.length = l.length) : l.length ≤ 140737488351232 := by
  rcases hs with ⟨_, rfl⟩ | ⟨elems, spare, rfl, e⟩
  · exact Nat.zero_le _
  · have := sized_slice h ht hd Tryd.underlying22
    rw [bytes8] at this
    unfold reachBytes at this
    omega

end Go.Proofs.YtpongbpkneefdaaDoor
