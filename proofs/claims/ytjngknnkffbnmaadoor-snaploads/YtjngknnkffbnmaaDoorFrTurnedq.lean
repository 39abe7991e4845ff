/-
  The law's turn, walked.
-/
import Derived.Test.YtjngknnkffbnmaaDoorFrToldq
import Derived.Laws.OwnMore
import Derived.Laws.BytesArg
namespace Go.Proofs.YtjngknnkffbnmaaDoor
set_option maxRecDepth 100000
open Go.RowKit Crc

theorem OW.slice {w : World} {B : Nat} {v : Value} {l : List Nat} (h : OW w B v l) (h0 : 0 < l.length) : ∃ g cap, v = .slice (some ⟨g, 0, none⟩) l.length cap ∧ B ≤ g ∧ l.length ≤ cap ∧ cap ≤ maxLen := by
  rcases h.2.2 with ⟨_, e⟩ | ⟨g, cap, cur, rfl, hb, _, r1, r2, _⟩
  · omega
  · exact ⟨g, cap, rfl, hb, r1, r2⟩
theorem add_off (g j : Nat) : (⟨g, 0, none⟩ : Addr).add j = ⟨g, j, none⟩ := by unfold Addr.add; split <;> simp_all
theorem c8_set (l : List Nat) (j d : Nat) : c8 (l.set j d) = (c8 l).set j (.int .u8 (d : Nat)) := by unfold c8; rw [List.map_set]
theorem OW.stored {w : World} {B g cap : Nat} {l : List Nat} (h : OW w B (.slice (some ⟨g, 0, none⟩) l.length cap) l) (j d : Nat) (hd : d < 256) :
    OW (w.setCell ⟨g, j, none⟩ (.int .u8 (d : Nat))) B (.slice (some ⟨g, 0, none⟩) l.length cap) (l.set j d) := by
  refine ⟨?_, ?_⟩
  · intro x hx
    rcases List.mem_or_eq_of_mem_set hx with e | e
    · exact h.1 x e
    · rw [e]; exact hd
  · rw [List.length_set, c8_set]
    exact (h.2.stored j (.int .u8 (d : Nat))).1
theorem xor_b' (a b : Nat) (ha : a < 256) (hb : b < 256) : bits .xor .u8 (a : Int) (b : Int) = ((a ^^^ b : Nat) : Int) := u8_xor_nat a b ha hb

/-- Bytes as a string. -/
def bsF (l : List Nat) : ByteArray := strOfNums (l.map Int.ofNat)
theorem bsF_size (l : List Nat) : (bsF l).size = l.length := by unfold bsF; rw [strOfNums_size, List.length_map]
theorem bsF_inj {l m : List Nat} (hl : Sm8 l) (hm : Sm8 m) (h : bsF l = bsF m) : l = m := by
  have h2 : (bsF l).data.toList = (bsF m).data.toList := by rw [h]
  unfold bsF at h2
  rw [strOfNums_data, strOfNums_data, List.map_map, List.map_map] at h2
  have e : ∀ k : List Nat, Sm8 k → (k.map ((fun n : Int => UInt8.ofNat n.toNat) ∘ Int.ofNat)).map UInt8.toNat = k := by
    intro k hk
    rw [List.map_map]
    conv => rhs; rw [← List.map_id k]
    apply List.map_congr_left
    intro d hd
    have := hk d hd
    simp [Function.comp]
    omega
  rw [← e l hl, h2, e m hm]
theorem bsF_eq {l m : List Nat} (hl : Sm8 l) (hm : Sm8 m) : ((bsF l).toList == (bsF m).toList) = decide (l = m) := by
  by_cases c : l = m
  · subst c; simp
  · rw [decide_eq_false c, beq_eq_false_iff_ne]
    intro e
    rw [ByteArray.toList_eq, ByteArray.toList_eq] at e
    exact c (bsF_inj hl hm (Go.WideShapes.bytes_inj e))
theorem convF_any {w : World} {v : Value} {l : List Nat} (h : BR w v l) : (convert 31 9 v).run Tryd.prog w = .ok (.string (bsF l)) w := by
  obtain ⟨s1, a, cap, rfl, h3, h4, h5⟩ := id h
  by_cases c : l.length = 0
  · have e : l = [] := List.eq_nil_of_length_eq_zero c
    subst e
    rcases h5 with ⟨rfl, rfl⟩ | ⟨x, rfl, _⟩
    · exact run_convert_bytes_nil w _ _ Tryd.underlying31 Tryd.underlying5 _ _ _ Tryd.underlying9
    · have := run_loadCells_list (P := Tryd.prog) w x [] (fun j u hj => by simp at hj)
      rw [run_convert_bytes_string w _ _ _ _ _ _ Tryd.underlying31 Tryd.underlying5 Tryd.underlying9, run_bytesToString w x _ cap [] (by simpa using this)]
      rfl
  · obtain ⟨b, o, rfl, _, hc⟩ := h.lies (by omega)
    refine run_convert_bytes_arg w _ _ Tryd.underlying31 Tryd.underlying5 b o l.length cap (l.map Int.ofNat) (by rw [List.length_map]) ?_ _ Tryd.underlying9
    intro i hi
    rw [hc i hi]
    congr 2
    rw [List.getD_eq_getElem?_getD, List.getD_eq_getElem?_getD, List.getElem?_map, List.getElem?_eq_getElem hi]
    rfl
end Go.Proofs.YtjngknnkffbnmaaDoor
