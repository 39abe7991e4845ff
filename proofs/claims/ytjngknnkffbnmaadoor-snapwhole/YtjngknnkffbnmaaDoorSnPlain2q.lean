/-
  Layer 19: what is torn or turned is told; entries come back, plain.
-/
import Derived.Test.YtjngknnkffbnmaaDoorSnPlainq
import Derived.Test.YtjngknnkffbnmaaDoorSnRef9q
import Derived.Test.YtjngknnkffbnmaaDoorSnRef10q
import Derived.Test.YtjngknnkffbnmaaDoorFrToldq
namespace Go.Proofs.YtjngknnkffbnmaaDoor
set_option maxRecDepth 100000
open Go.RowKit Crc Sn

namespace Sn
theorem w4_take4 (l : List Nat) : w4 (l.take 4) = w4 l := by
  unfold w4
  have g : ∀ i, i < 4 → (l.take 4).getD i 0 = l.getD i 0 := fun i hi => by rw [List.getD_eq_getElem?_getD, List.getD_eq_getElem?_getD, List.getElem?_take_of_lt hi]
  rw [g 0 (by omega), g 1 (by omega), g 2 (by omega), g 3 (by omega)]
theorem w4_frm4 {l : List Nat} {n : Nat} (h : l.take 4 = be4 n) (hn : n ≤ 1048576) : w4 l = n := by
  have := w4_be4 (n := n) (by omega) []
  rw [List.append_nil] at this
  rw [← w4_take4, h, this]
theorem frm_take4 (m : List Nat) : (frm m).take 4 = be4 m.length := by unfold frm be4; simp
/-- A part of a frame is no frame. -/
theorem frm_cut {m : List Nat} (hl : m.length ≤ 1048576) {i : Nat} (hi : i < (frm m).length) : frsE ((frm m).take i) = 3 := by
  have hlen : ((frm m).take i).length = i := by rw [List.length_take]; omega
  rw [frm_length] at hi
  unfold frsE
  by_cases c : i < 8
  · rw [if_pos (by omega)]
  · have hw : w4 ((frm m).take i) = m.length := w4_frm4 (by rw [List.take_take, Nat.min_eq_left (by omega)]; exact frm_take4 m) hl
    rw [if_neg (by omega), hw, if_neg (by omega), if_pos (by omega)]
/-- A frame with a bit turned about, behind its first four bytes, is none. -/
theorem frm_flip {m : List Nat} (hs : Sm8 m) (hl : m.length ≤ 1048576) {k : Nat} (hk : k < 8 * (m.length + 4)) : frsE (flp (frm m) k) = 4 := by
  have h1 := flp_length (frm m) k
  rw [frm_length] at h1
  have hw : w4 (flp (frm m) k) = m.length := w4_frm4 (by rw [flp_take]; exact frm_take4 m) hl
  have hd : frsD (flp (frm m) k) = (flp (frm m) k).drop 8 := by
    unfold frsD
    rw [hw, List.take_of_length_le (by rw [List.length_drop]; omega)]
  have hdf := flp_dfc (frm_sm hs) (n := m.length) (by rw [frm_length]) hk
  rw [frm_dfc hs, Nat.zero_xor] at hdf
  unfold frsE
  rw [if_neg (by omega), hw, if_neg (by omega), if_neg (by omega), hd]
  rw [if_pos]
  intro e
  unfold dfc at hdf
  rw [e, Nat.xor_self] at hdf
  exact pw_pos _ hdf.symm
theorem load_bad {l : List Nat} (h : frsE l ≠ 0) : loadV l = (false, zS) := by unfold loadV; rw [if_neg h]

theorem entL_plain (x : Ent) : entL (plainE x) = entL x := by
  unfold entL plainE
  simp only
  split
  · rfl
  · split
    · rfl
    · rfl
theorem entE_plain {x : Ent} (h : entE x = 0) : entE (plainE x) = 0 := by
  unfold entE plainE at *
  simp only
  split at h
  · cases h
  · next c =>
    rw [if_neg c]
    split at h
    · next c2 =>
      rw [if_pos c2]
      split at h
      · next c3 => rw [if_pos c2, if_pos c3]
      · cases h
    · next c2 =>
      rw [if_neg c2]
      split at h
      · next c4 =>
        rw [if_pos c4]
        split at h
        · cases h
        · next c5 => rw [if_pos c4, if_neg c5]
      · next c4 => rw [if_neg c4]
theorem ent_kinds {x : Ent} (h : entE x = 0) : x.kd = 0 ∨ x.kd = 1 ∨ x.kd = 2 ∧ memB x.ms = true := by
  unfold entE at h
  split at h
  · cases h
  · split at h
    · next c2 =>
      split at h
      · next c3 => exact Or.inr (Or.inr ⟨c2, c3⟩)
      · cases h
    · next c2 =>
      split at h
      · next c4 => exact Or.inr (Or.inl c4)
      · omega
theorem read_ent {x : Ent} (h : entE x = 0) : readE (entT x) = plainE x := by
  have hk := ent_kinds h
  have hkd : kdT (entT x) = x.kd := by
    unfold kdT entT
    rw [if_pos h, at_lis]
    have hu : uw x.kd ≤ 2 ∧ ((uw x.kd : Nat) : Int) = x.kd := by unfold uw; omega
    have e1 : (entL x).getD 1 zT = numT x.kd := rfl
    rw [e1]
    show (if uw x.kd ≤ 2 then ((uw x.kd : Nat) : Int) else 9) = x.kd
    rw [if_pos hu.1, hu.2]
  unfold readE
  rw [hkd]
  unfold entT
  rw [if_pos h]
  unfold plainE
  have e0 : (atT (lisT (entL x)) 0).n = x.tm := rfl
  rw [e0]
  rcases hk with k | k | ⟨k, km⟩
  · simp [k]
  · have e2 : (atT (lisT (entL x)) 2).s = x.dt := by
      rw [at_lis]
      unfold entL
      rw [if_pos k]
      rfl
    rw [e2]
    simp [k]
  · have e2 : numsL (atT (lisT (entL x)) 2) = x.ms := by
      rw [at_lis]
      unfold entL
      rw [if_neg (by omega), if_pos k]
      exact nums_mem km
    rw [e2]
    simp [k]
/-- An entry's cell is read as it, in its plain form. -/
theorem ent_back {x : Ent} (h : entE x = 0) : feO (entT x) = true ∧ readE (entT x) = plainE x := by
  have hr := read_ent h
  refine ⟨?_, hr⟩
  unfold feO
  rw [hr, entE_plain h]
  have : entT (plainE x) = entT x := by unfold entT; rw [if_pos (entE_plain h), if_pos h, entL_plain]
  rw [this, same_self]
  rfl
end Sn

end Go.Proofs.YtjngknnkffbnmaaDoor
