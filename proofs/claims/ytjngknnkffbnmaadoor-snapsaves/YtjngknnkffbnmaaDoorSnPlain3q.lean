/-
  Layer 19: which bytes are a snapshot: both readings are one, plain.
-/
import Derived.Test.YtjngknnkffbnmaaDoorSnPlainq
import Derived.Test.YtjngknnkffbnmaaDoorSnLand4q
namespace Go.Proofs.YtjngknnkffbnmaaDoor
set_option maxRecDepth 100000
open Go.RowKit Crc Sn

namespace Sn
/-- Whether a tree is a snapshot's. -/
def okS (t : Tr) : Bool := twoB t && decide ((atT t 0).n ≤ 4611686018427387904) && decide (t.l.length = 5) && rmB (atT t 2)
theorem dec_plain {l : List Nat} {t : Tr} (hs : Sm8 l) (h : decD l = .inr t) (hn : NT t) : cpT t = t := by
  have h2 := law_back (law_reads hs h) hn
  rw [h] at h2
  injection h2 with h2
  exact h2.symm
theorem frsB_sm {l : List Nat} (h : Sm8 l) : Sm8 (frsB l) := by
  unfold frsB
  split
  · exact frsD_sm h
  · intro d hd; cases hd
theorem frm_back {l : List Nat} (hs : Sm8 l) (h : frsE l = 0) (hn : frsN l = l.length) : frm (frsB l) = l := by
  have hN : 8 + w4 l = l.length := by unfold frsN at hn; rw [if_pos h] at hn; exact hn
  have hB : frsB l = frsD l := by unfold frsB; rw [if_pos h]
  unfold frsE at h
  split at h
  · cases h
  · next h8 =>
    split at h
    · cases h
    · split at h
      · cases h
      · next hk =>
        split at h
        · cases h
        · next hsum =>
          rw [hB, (framed_eq hs (by omega) hk).2 (by simpa using hsum), hN]
          simp
theorem nt_at {t : Tr} (h : NT t) (i : Nat) : NT (atT t i) := by
  obtain ⟨k, n, s, l⟩ := t
  have hz : NT zT := by unfold zT; rw [NT_mk]; exact ⟨by decide, fun t h => by cases h⟩
  rw [NT_mk] at h
  unfold atT
  split
  · rw [List.getD_eq_getElem?_getD]
    by_cases hi : i < l.length
    · rw [List.getElem?_eq_getElem hi]
      exact h.2 _ (List.getElem_mem hi)
    · rw [List.getElem?_eq_none (by show l.length ≤ i; omega)]
      exact hz
  · exact hz
theorem nt_n {t : Tr} (h : NT t) : t.n < 18446744073709551616 := by
  obtain ⟨k, n, s, l⟩ := t
  rw [NT_mk] at h
  exact h.1
theorem nt_num (n : Nat) (h : n < 18446744073709551616) : NT (.mk 0 n nob []) := by rw [NT_mk]; exact ⟨h, fun t h => by cases h⟩
theorem nt_mem (l : List Int) : NT (memT l) := by
  unfold memT lisT
  rw [NT_mk]
  refine ⟨by decide, fun t ht => ?_⟩
  obtain ⟨x, hx, rfl⟩ := List.mem_map.1 ht
  exact nt_num _ (uw_lt x)
theorem nt_snap {s : Sp} (h1 : NT s.ss) (h2 : NT s.st) (hi : s.ix < 18446744073709551616) (ht : s.tm < 18446744073709551616) : NT (snapT s) := by
  unfold snapT lisT
  rw [NT_mk]
  refine ⟨by decide, fun t ht => ?_⟩
  simp only [List.mem_cons, List.not_mem_nil, or_false] at ht
  rcases ht with rfl | rfl | rfl | rfl | rfl
  · exact nt_num _ hi
  · exact nt_num _ ht
  · exact nt_mem _
  · exact h1
  · exact h2
theorem rm_mem {l : List Int} (h : memB l = true) : rmB (memT l) = true := by
  unfold rmB
  rw [nums_mem h, h]
  have hall : (memT l).l.all numM = true := by
    unfold memT lisT
    rw [List.all_eq_true]
    intro x hx
    obtain ⟨y, hy, rfl⟩ := List.mem_map.1 hx
    have := mem_val h y hy
    have hu : uw y = y.toNat := by unfold uw; omega
    unfold numM numT
    rw [hu]
    show (decide ((0 : Int) = 0) && decide (y.toNat ≤ 64)) = true
    rw [decide_eq_true (show y.toNat ≤ 64 by omega)]
    rfl
  rw [hall]
  rfl
theorem ok_snap {s : Sp} (h : memB s.ms = true) (hi : s.ix ≤ 4611686018427387904) : okS (snapT s) = true := by
  unfold okS twoB snapT
  simp only [at_lis, List.getD_cons_zero, List.getD_cons_succ]
  rw [rm_mem h]
  simp [lisT, hi]
/-- A plain list of members is what its numbers make. -/
theorem mem_plain {t : Tr} (hc : cpT t = t) (h : rmB t = true) : memT (numsL t) = t := by
  obtain ⟨k, n, s, l⟩ := t
  unfold rmB at h
  simp only [Bool.and_eq_true, decide_eq_true_eq] at h
  obtain ⟨⟨rfl, hall⟩, -⟩ := h
  rw [cpT_mk, if_neg (by decide), if_neg (by decide), if_pos rfl] at hc
  injection hc with e1 e2 e3 e4
  unfold memT lisT numsL
  rw [if_pos rfl, List.map_map]
  have hl : l.map (numT ∘ fun x => if x.n ≤ 64 then (x.n : Int) else 0) = l := by
    conv => rhs; rw [← List.map_id l]
    apply List.map_congr_left
    intro x hx
    have h1 := List.all_eq_true.1 hall x hx
    have hx2 : cpT x = x := by
      have : l.map cpT = l.map id := by rw [← cpL_map, e4, List.map_id]
      exact (List.map_inj_left.1 this) x hx
    obtain ⟨k, n, s, m⟩ := x
    unfold numM at h1
    simp only [Bool.and_eq_true, decide_eq_true_eq] at h1
    obtain ⟨rfl, h3⟩ := h1
    rw [cpT_mk, if_pos rfl] at hx2
    injection hx2 with f1 f2 f3 f4
    simp only [Function.comp, id, numT]
    rw [if_pos h3]
    have hu : uw (n : Int) = n := by unfold uw; omega
    rw [hu, ← f3, ← f4]
    rfl
  show Tr.mk 2 0 nob _ = Tr.mk 2 n s l
  rw [← e2, ← e3]
  have e5 : (Tr.mk 2 n s l).l = l := rfl
  rw [e5, hl]
  rfl
theorem num_plain {t : Tr} (hc : cpT t = t) (h : t.k = 0) : t = .mk 0 t.n nob [] := by
  obtain ⟨k, n, s, l⟩ := t
  have hk : k = 0 := h
  subst hk
  rw [cpT_mk, if_pos rfl] at hc
  injection hc with f1 f2 f3 f4
  rw [← f3, ← f4]
  rfl
theorem cp_at {t : Tr} (hc : cpT t = t) (i : Nat) : cpT (atT t i) = atT t i := by
  obtain ⟨k, n, s, l⟩ := t
  have hz : cpT zT = zT := by unfold zT; rw [cpT_mk]; simp [nob]
  unfold atT
  split
  · next hk =>
    have hk2 : k = 2 := hk
    subst hk2
    rw [cpT_mk, if_neg (by decide), if_neg (by decide), if_pos rfl] at hc
    injection hc with e1 e2 e3 e4
    rw [List.getD_eq_getElem?_getD]
    by_cases hi : i < l.length
    · rw [List.getElem?_eq_getElem hi]
      have : l.map cpT = l.map id := by rw [← cpL_map, e4, List.map_id]
      exact (List.map_inj_left.1 this) _ (List.getElem_mem hi)
    · rw [List.getElem?_eq_none (by show l.length ≤ i; omega)]
      exact hz
  · exact hz
/-- A plain tree that is a snapshot's is what it is read as. -/
theorem snap_plain {t : Tr} (hc : cpT t = t) (h : okS t = true) : snapT (readS t) = t ∧ memB (readS t).ms = true ∧ ¬ (readS t).ix > 4611686018427387904 := by
  unfold okS at h
  simp only [Bool.and_eq_true, decide_eq_true_eq] at h
  obtain ⟨⟨⟨h1, h2⟩, h3⟩, h4⟩ := h
  have h4' := h4
  unfold rmB at h4'
  simp only [Bool.and_eq_true, decide_eq_true_eq] at h4'
  refine ⟨?_, h4'.2, by show ¬ (atT t 0).n > _; omega⟩
  unfold twoB at h1
  simp only [Bool.and_eq_true, decide_eq_true_eq] at h1
  obtain ⟨⟨⟨k2, -⟩, k0⟩, k1⟩ := h1
  have q0 := num_plain (cp_at hc 0) k0
  have q1 := num_plain (cp_at hc 1) k1
  have q2 := mem_plain (cp_at hc 2) h4
  unfold snapT readS
  rw [q2, ← q0, ← q1]
  obtain ⟨k, n, s, l⟩ := t
  have hk : k = 2 := k2
  subst hk
  rw [cpT_mk, if_neg (by decide), if_neg (by decide), if_pos rfl] at hc
  injection hc with e1 e2 e3 e4
  match l, h3 with
  | [p0, p1, p2, p3, p4], _ =>
    simp only [at_mk, List.getD_cons_zero, List.getD_cons_succ]
    unfold lisT
    rw [← e2, ← e3]
    rfl
/-- Both readings are one. -/
theorem load_iff {l : List Nat} {t : Tr} (hs : Sm8 l) (hE : frsE l = 0) (hd : decD (frsB l) = .inr t) (hn : NT t) : eqB (saveV (readS t)) l = true ↔ (frsN l = l.length ∧ okS t = true) := by
  have hc := dec_plain (frsB_sm hs) hd hn
  constructor
  · intro h
    unfold saveV at h
    split at h
    · cases h
    · next h1 =>
      split at h
      · cases h
      · next h2 =>
        have hm : memB (readS t).ms = true := by simpa using h1
        cases e : encT (snapT (readS t)) 64 [] with
        | inl y => rw [e] at h; cases h
        | inr m =>
          rw [e] at h
          have hl : frm m = l := by simpa [frmR, eqB] using h
          obtain ⟨e1, hlen, -⟩ := enc_top e
          have hsm : Sm8 m := by
            have := hs.drop 8
            rw [← hl] at this
            have e8 : (frm m).drop 8 = m := by unfold frm be4; simp
            rw [e8] at this
            exact this
          obtain ⟨f1, f2, f3⟩ := first_frm2 [] hsm hlen
          rw [List.append_nil, hl] at f1 f2 f3
          have hnt : NT (snapT (readS t)) := nt_snap (nt_at hn 3) (nt_at hn 4) (nt_n (nt_at hn 0)) (nt_n (nt_at hn 1))
          have hb := law_back e hnt
          rw [← f2, hd] at hb
          injection hb with hb
          refine ⟨by rw [f3, ← hl, frm_length], ?_⟩
          rw [hb, cp_snap]
          exact ok_snap hm (by have : ¬ (readS t).ix > 4611686018427387904 := h2; show (readS t).ix ≤ _; omega)
  · rintro ⟨h1, h2⟩
    obtain ⟨p1, p2, p3⟩ := snap_plain hc h2
    have he := law_reads (frsB_sm hs) hd
    unfold saveV
    rw [if_neg (by rw [p2]; decide), if_neg p3, p1, he]
    have := frm_back hs hE h1
    simp [frmR, eqB, this]
end Sn

end Go.Proofs.YtjngknnkffbnmaaDoor
