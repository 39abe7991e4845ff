/-
  Layer 19: what is saved is loaded, plain.
-/
import Derived.Test.YtjngknnkffbnmaaDoorSnMathq
import Derived.Test.YtjngknnkffbnmaaDoorFrRefFirstq
namespace Go.Proofs.YtjngknnkffbnmaaDoor
set_option maxRecDepth 100000
open Go.RowKit Crc Sn

namespace Sn
/-- What First tells of a frame with anything behind it. -/
theorem first_frm2 {l : List Nat} (m : List Nat) (hs : Sm8 l) (hl : l.length ≤ 1048576) : frsE (frm l ++ m) = 0 ∧ frsB (frm l ++ m) = l ∧ frsN (frm l ++ m) = 8 + l.length := by
  have ef : frm l ++ m = be4 l.length ++ (be4 (sumN (be4 l.length ++ l)) ++ (l ++ m)) := by unfold frm; simp
  have hw : w4 (frm l ++ m) = l.length := by rw [ef]; exact w4_be4 (by omega) _
  have e4 : (frm l ++ m).take 4 = be4 l.length := by rw [ef]; unfold be4; simp
  have e5 : (frm l ++ m).drop 4 = be4 (sumN (be4 l.length ++ l)) ++ (l ++ m) := by rw [ef]; unfold be4; simp
  have e8 : (frm l ++ m).drop 8 = l ++ m := by rw [ef]; unfold be4; simp
  have hlen : (frm l ++ m).length = 8 + l.length + m.length := by rw [List.length_append, frm_length]
  have hd : frsD (frm l ++ m) = l := by unfold frsD; rw [hw, e8]; simp
  have hE : frsE (frm l ++ m) = 0 := by
    unfold frsE
    rw [if_neg (by omega), if_neg (by omega), if_neg (by omega), hd, e4, e5, w4_be4 (sumN_lt ((be4_sm _).append hs)), if_neg (by simp)]
  refine ⟨hE, ?_, ?_⟩
  · unfold frsB; rw [if_pos hE, hd]
  · unfold frsN; rw [if_pos hE, hw]

/-- What snapshot a tree may be. -/
def readS (t : Tr) : Sp := ⟨(atT t 0).n, (atT t 1).n, numsL (atT t 2), atT t 3, atT t 4⟩
/-- Whether bytes are what Save tells of it. -/
def eqB (r : Nat ⊕ List Nat) (l : List Nat) : Bool := match r with
  | .inl _ => false
  | .inr m => decide (m = l)
def zS : Sp := ⟨0, 0, [], zT, zT⟩
/-- What Load tells: the snapshot, and whether there is one. -/
def loadV (l : List Nat) : Bool × Sp := if frsE l = 0 then (match decD (frsB l) with
  | .inl _ => (false, zS)
  | .inr t => if eqB (saveV (readS t)) l = true then (true, readS t) else (false, zS)) else (false, zS)
/-- A snapshot in its plain form. -/
def plainS (s : Sp) : Sp := ⟨s.ix, s.tm, s.ms, cpT s.ss, cpT s.st⟩
theorem cp_num (n : Nat) : cpT (.mk 0 n nob []) = .mk 0 n nob [] := by rw [cpT_mk]; simp [nob]
theorem cp_lis (l : List Tr) : cpT (lisT l) = lisT (l.map cpT) := by unfold lisT; rw [cpT_mk]; simp [nob, cpL_map]
theorem cp_mem (l : List Int) : cpT (memT l) = memT l := by
  unfold memT
  rw [cp_lis, List.map_map]
  congr 1
  apply List.map_congr_left
  intro x _
  exact cp_num _
theorem cp_snap (s : Sp) : cpT (snapT s) = snapT (plainS s) := by
  unfold snapT
  rw [cp_lis]
  simp only [List.map_cons, List.map_nil, cp_num, cp_mem, plainS]
theorem nums_mem {l : List Int} (h : memB l = true) : numsL (memT l) = l := by
  unfold memT numsL lisT
  simp only [if_true, List.map_map]
  conv => rhs; rw [← List.map_id l]
  apply List.map_congr_left
  intro x hx
  have := mem_val h x hx
  have hu : uw x = x.toNat := by unfold uw; omega
  simp only [Function.comp, numT, hu, id]
  rw [if_pos (by omega)]
  omega
theorem read_snap {s : Sp} (h : memB s.ms = true) : readS (snapT s) = s := by
  obtain ⟨ix, tm, ms, ss, st⟩ := s
  unfold readS snapT
  simp only [at_lis, List.getD_cons_zero, List.getD_cons_succ]
  rw [nums_mem h]
/-- What is saved is loaded, in its plain form. -/
theorem snap_back {s : Sp} {b : List Nat} (h : saveV s = .inr b) (hn : NT (snapT s)) (hb : Sm8 b) : loadV b = (true, plainS s) := by
  unfold saveV at h
  split at h
  · cases h
  · next h1 =>
    split at h
    · cases h
    · next h2 =>
      have hm : memB s.ms = true := by simpa using h1
      cases e : encT (snapT s) 64 [] with
      | inl y => rw [e] at h; cases h
      | inr m =>
        rw [e] at h
        injection h with h
        subst h
        obtain ⟨e1, hl, -⟩ := enc_top e
        have hd := law_back e hn
        rw [cp_snap] at hd
        have hs : Sm8 m := by
          have := hb.drop 8
          have e8 : (frm m).drop 8 = m := by unfold frm be4; simp
          rw [e8] at this
          exact this
        have he := law_reads hs hd
        obtain ⟨f1, f2, -⟩ := first_frm2 [] hs hl
        rw [List.append_nil] at f1 f2
        have hpm : memB (plainS s).ms = true := hm
        unfold loadV
        rw [if_pos f1, f2, hd]
        simp only [read_snap hpm]
        have hsv : saveV (plainS s) = .inr (frm m) := by
          unfold saveV
          rw [if_neg (by rw [hpm]; decide), if_neg (show ¬ (plainS s).ix > 4611686018427387904 from h2), he]
          rfl
        rw [hsv]
        simp [eqB]
end Sn

end Go.Proofs.YtjngknnkffbnmaaDoor
