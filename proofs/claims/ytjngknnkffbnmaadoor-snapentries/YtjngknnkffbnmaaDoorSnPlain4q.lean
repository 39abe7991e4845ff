/-
  Layer 19: which cells are an entry's: both readings are one, plain.
-/
import Derived.Test.YtjngknnkffbnmaaDoorSnPlain3q
import Derived.Test.YtjngknnkffbnmaaDoorSnPlain2q
namespace Go.Proofs.YtjngknnkffbnmaaDoor
set_option maxRecDepth 100000
open Go.RowKit Crc Sn

namespace Sn
/-- Whether a part is a command's data. -/
def isD (x : Tr) : Bool := decide (x.k = 1) && decide (x.s.size ≤ 65536)
/-- Whether a tree is an entry's. -/
def leO (t : Tr) : Bool := twoB t && (if (atT t 1).n = 0 then decide (t.l.length = 2) else if (atT t 1).n = 1 then decide (t.l.length = 3) && isD (atT t 2) else if (atT t 1).n = 2 then decide (t.l.length = 3) && rmB (atT t 2) else false)
theorem same_num (n : Nat) (p : Tr) : sameT (.mk 0 n nob []) p = true ↔ p.k = 0 ∧ p.n = n := by
  obtain ⟨k, m, s, l⟩ := p
  rw [sameT_mk]
  by_cases c : (0 : Int) = k
  · subst c
    simp only [ne_eq, not_true_eq_false, if_false, if_true, decide_eq_true_eq]
    exact ⟨fun h => ⟨by first | rfl | trivial, h.symm⟩, fun h => h.2.symm⟩
  · rw [if_pos c]
    constructor
    · intro h; cases h
    · intro h; exact absurd h.1.symm c
theorem same_txt (s : ByteArray) (p : Tr) : sameT (.mk 1 0 s []) p = true ↔ p.k = 1 ∧ p.s = s := by
  obtain ⟨k, m, s', l⟩ := p
  rw [sameT_mk]
  by_cases c : (1 : Int) = k
  · subst c
    rw [if_neg (by simp), if_neg (by decide), if_pos rfl, text_same]
    simp only [decide_eq_true_eq]
    exact ⟨fun h => ⟨by first | rfl | trivial, h.symm⟩, fun h => h.2.symm⟩
  · rw [if_pos c]
    constructor
    · intro h; cases h
    · intro h; exact absurd h.1.symm c
theorem same_lis (ts : List Tr) (p : Tr) : sameT (lisT ts) p = true ↔ p.k = 2 ∧ sameL ts p.l = true := by
  obtain ⟨k, m, s', l⟩ := p
  unfold lisT
  rw [sameT_mk]
  by_cases c : (2 : Int) = k
  · subst c
    rw [if_neg (by simp), if_neg (by decide), if_neg (by decide), if_pos rfl]
    exact ⟨fun h => ⟨rfl, h⟩, fun h => h.2⟩
  · rw [if_pos c]
    constructor
    · intro h; cases h
    · intro h; exact absurd h.1.symm c
theorem sameL_len {l m : List Tr} (h : sameL l m = true) : l.length = m.length := by
  by_cases c : l.length = m.length
  · exact c
  · rw [sameL_length c] at h; cases h
theorem sameL_el {l m : List Tr} (h : sameL l m = true) (i : Nat) (h1 : i < l.length) (h2 : i < m.length) : sameT l[i] m[i] = true := by
  cases e : sameT l[i] m[i] with
  | true => rfl
  | false => rw [sameL_at i h1 h2 e] at h; cases h
theorem uw_small {x : Int} (h1 : 0 ≤ x) (h2 : x ≤ 64) : uw x = x.toNat := by unfold uw; omega
/-- A row of members is the one that its numbers make, but for what plays no part. -/
theorem same_mem (p : Tr) (hm : memB (numsL p) = true) : sameT (memT (numsL p)) p = rmB p := by
  rw [Bool.eq_iff_iff]
  unfold memT
  rw [same_lis]
  unfold rmB
  simp only [Bool.and_eq_true, decide_eq_true_eq]
  constructor
  · rintro ⟨k2, hs⟩
    refine ⟨⟨k2, ?_⟩, hm⟩
    have hl := sameL_len hs
    rw [List.all_eq_true]
    intro y hy
    obtain ⟨i, hi, rfl⟩ := List.getElem_of_mem hy
    have hi2 : i < (numsL p).length := by rw [List.length_map] at hl; omega
    have he := sameL_el hs i (by rw [List.length_map]; exact hi2) hi
    rw [List.getElem_map] at he
    obtain ⟨e1, e2⟩ := (same_num _ _).1 he
    have hv := mem_val hm _ (List.getElem_mem hi2)
    rw [uw_small (by omega) (by omega)] at e2
    unfold numM
    simp only [Bool.and_eq_true, decide_eq_true_eq]
    exact ⟨e1, by omega⟩
  · rintro ⟨⟨k2, hall⟩, -⟩
    refine ⟨k2, ?_⟩
    obtain ⟨k, n, s, l⟩ := p
    obtain ⟨g1, g2⟩ := nums_get (n := n) (s := s) k2 hall
    refine sameL_all (by rw [List.length_map]; exact g1) (fun i h1 h2 => ?_)
    rw [List.getElem_map]
    have h3 := g2 i h2
    rw [List.length_map] at h1
    rw [List.getElem?_eq_getElem h1] at h3
    injection h3 with h3
    have hn := List.all_eq_true.1 hall _ (List.getElem_mem h2)
    unfold numM at hn
    simp only [Bool.and_eq_true, decide_eq_true_eq] at hn
    refine (same_num _ _).2 ⟨hn.1, ?_⟩
    show l[i].n = _
    have hle : l[i].n ≤ 64 := hn.2
    rw [h3]
    exact (show ∀ y : Nat, y ≤ 64 → y = uw (y : Int) from fun y hy => by rw [uw_small (by omega) (by omega)]; omega) _ hle
theorem kd_num (t : Tr) : (uw (kdT t) = (atT t 1).n ∧ (atT t 1).n ≤ 2 ∧ kdT t = ((atT t 1).n : Int)) ∨ (2 < (atT t 1).n ∧ kdT t = 9) := by
  unfold kdT
  by_cases c : (atT t 1).n ≤ 2
  · rw [if_pos c]
    refine Or.inl ⟨?_, c, rfl⟩
    rw [uw_small (by omega) (by omega)]
    omega
  · rw [if_neg c]
    exact Or.inr ⟨by omega, rfl⟩
theorem fe_iff (t : Tr) : feO t = leO t := by
  rcases kd_num t with ⟨hu, hle, hk⟩ | ⟨hgt, hk⟩
  · have hk012 : (atT t 1).n = 0 ∨ (atT t 1).n = 1 ∨ (atT t 1).n = 2 := by omega
    obtain ⟨k, n, s, l⟩ := t
    generalize ht : Tr.mk k n s l = t at *
    have htl : t.l = l := by rw [← ht]
    have htk : t.k = k := by rw [← ht]
    rw [Bool.eq_iff_iff]
    have hE : ∀ x : Ent, entE x = 0 → entT x = lisT (entL x) := fun x h => by unfold entT; rw [if_pos h]
    rcases hk012 with h1 | h1 | h1
    · -- nothing
      have hkd : kdT t = 0 := by rw [hk, h1]; rfl
      have hr : readE t = ⟨(atT t 0).n, 0, nob, []⟩ := by unfold readE; rw [hkd]; rfl
      have he : entE (readE t) = 0 := by rw [hr]; rfl
      have hL : entL (readE t) = [.mk 0 (atT t 0).n nob [], numT 0] := by rw [hr]; rfl
      unfold feO leO
      rw [hE _ he, hL, decide_eq_true he, if_pos h1, Bool.true_and, same_lis, htk, htl]
      unfold twoB
      simp only [Bool.and_eq_true, decide_eq_true_eq, htk, htl]
      constructor
      · rintro ⟨k2, hs⟩
        have hl := sameL_len hs
        simp only [List.length_cons, List.length_nil] at hl
        match l, hl with
        | [p0, p1], _ =>
          have e0 := sameL_el hs 0 (by simp) (by simp)
          have e1 := sameL_el hs 1 (by simp) (by simp)
          subst k2
          rw [← ht]
          exact ⟨⟨⟨⟨rfl, Nat.le_refl 2⟩, ((same_num _ _).1 e0).1⟩, ((same_num _ _).1 e1).1⟩, rfl⟩
      · rintro ⟨⟨⟨⟨k2, -⟩, a0⟩, a1⟩, hl⟩
        refine ⟨k2, ?_⟩
        match l, hl with
        | [p0, p1], _ =>
          subst k2
          rw [← ht] at a0 a1 h1 ⊢
          have q0 : sameT (.mk 0 (atT (.mk 2 n s [p0, p1]) 0).n nob []) p0 = true := (same_num _ _).2 ⟨a0, rfl⟩
          have q1 : sameT (numT 0) p1 = true := (same_num _ _).2 ⟨a1, by rw [show p1.n = 0 from h1]; rfl⟩
          rw [sameL_cc, sameL_cc, sameL_nn, q0, q1]
          rfl
    · -- a command
      have hkd : kdT t = 1 := by rw [hk, h1]; rfl
      have hr : readE t = ⟨(atT t 0).n, 1, (atT t 2).s, []⟩ := by unfold readE; rw [hkd]; rfl
      have hL : entL (readE t) = [.mk 0 (atT t 0).n nob [], numT 1, .mk 1 0 (atT t 2).s []] := by rw [hr]; rfl
      have he : entE (readE t) = 0 ↔ (atT t 2).s.size ≤ 65536 := by
        rw [hr]
        unfold entE
        simp only
        rw [if_neg (by decide), if_neg (by decide), if_pos trivial]
        constructor
        · intro h; split at h
          · cases h
          · omega
        · intro h; rw [if_neg (by omega)]
      unfold leO
      rw [if_neg (by omega), if_pos h1]
      unfold feO isD twoB
      simp only [Bool.and_eq_true, decide_eq_true_eq, htk, htl]
      constructor
      · rintro ⟨h0, hs⟩
        rw [hE _ h0, hL, same_lis, htk, htl] at hs
        obtain ⟨k2, hs⟩ := hs
        have hl := sameL_len hs
        simp only [List.length_cons, List.length_nil] at hl
        match l, hl with
        | [p0, p1, p2], _ =>
          have e0 := sameL_el hs 0 (by simp) (by simp)
          have e1 := sameL_el hs 1 (by simp) (by simp)
          have e2 := sameL_el hs 2 (by simp) (by simp)
          have hz := he.1 h0
          subst k2
          rw [← ht] at hz ⊢
          exact ⟨⟨⟨⟨rfl, by simp⟩, ((same_num _ _).1 e0).1⟩, ((same_num _ _).1 e1).1⟩, rfl, ((same_txt _ _).1 e2).1, hz⟩
      · rintro ⟨⟨⟨⟨k2, -⟩, a0⟩, a1⟩, hl, a2, hz⟩
        have h0 := he.2 hz
        refine ⟨h0, ?_⟩
        rw [hE _ h0, hL, same_lis, htk, htl]
        refine ⟨k2, ?_⟩
        match l, hl with
        | [p0, p1, p2], _ =>
          subst k2
          rw [← ht] at a0 a1 a2 h1 ⊢
          have q0 : sameT (.mk 0 (atT (.mk 2 n s [p0, p1, p2]) 0).n nob []) p0 = true := (same_num _ _).2 ⟨a0, rfl⟩
          have q1 : sameT (numT 1) p1 = true := (same_num _ _).2 ⟨a1, by rw [show p1.n = 1 from h1]; rfl⟩
          have q2 : sameT (.mk 1 0 (atT (.mk 2 n s [p0, p1, p2]) 2).s []) p2 = true := (same_txt _ _).2 ⟨a2, rfl⟩
          rw [sameL_cc, sameL_cc, sameL_cc, sameL_nn, q0, q1, q2]
          rfl
    · -- members
      have hkd : kdT t = 2 := by rw [hk, h1]; rfl
      have hr : readE t = ⟨(atT t 0).n, 2, nob, numsL (atT t 2)⟩ := by unfold readE; rw [hkd]; rfl
      have hL : entL (readE t) = [.mk 0 (atT t 0).n nob [], numT 2, memT (numsL (atT t 2))] := by rw [hr]; rfl
      have he : entE (readE t) = 0 ↔ memB (numsL (atT t 2)) = true := by
        rw [hr]
        unfold entE
        simp only
        rw [if_neg (by decide), if_pos trivial]
        constructor
        · intro h; split at h
          · assumption
          · cases h
        · intro h; rw [if_pos h]
      unfold leO
      rw [if_neg (by omega), if_neg (by omega), if_pos h1]
      unfold feO twoB
      simp only [Bool.and_eq_true, decide_eq_true_eq, htk, htl]
      constructor
      · rintro ⟨h0, hs⟩
        rw [hE _ h0, hL, same_lis, htk, htl] at hs
        obtain ⟨k2, hs⟩ := hs
        have hl := sameL_len hs
        simp only [List.length_cons, List.length_nil] at hl
        match l, hl with
        | [p0, p1, p2], _ =>
          have e0 := sameL_el hs 0 (by simp) (by simp)
          have e1 := sameL_el hs 1 (by simp) (by simp)
          have e2 := sameL_el hs 2 (by simp) (by simp)
          have hz := he.1 h0
          subst k2
          rw [← ht] at hz e2 ⊢
          have e3 : sameT (memT (numsL p2)) p2 = true := e2
          rw [same_mem p2 hz] at e3
          exact ⟨⟨⟨⟨rfl, by simp⟩, ((same_num _ _).1 e0).1⟩, ((same_num _ _).1 e1).1⟩, rfl, e3⟩
      · rintro ⟨⟨⟨⟨k2, -⟩, a0⟩, a1⟩, hl, a2⟩
        have hz : memB (numsL (atT t 2)) = true := by unfold rmB at a2; simp only [Bool.and_eq_true] at a2; exact a2.2
        have h0 := he.2 hz
        refine ⟨h0, ?_⟩
        rw [hE _ h0, hL, same_lis, htk, htl]
        refine ⟨k2, ?_⟩
        match l, hl with
        | [p0, p1, p2], _ =>
          subst k2
          rw [← ht] at a0 a1 a2 h1 hz ⊢
          have q0 : sameT (.mk 0 (atT (.mk 2 n s [p0, p1, p2]) 0).n nob []) p0 = true := (same_num _ _).2 ⟨a0, rfl⟩
          have q1 : sameT (numT 2) p1 = true := (same_num _ _).2 ⟨a1, by rw [show p1.n = 2 from h1]; rfl⟩
          have q2 : sameT (memT (numsL (atT (.mk 2 n s [p0, p1, p2]) 2))) p2 = true := by
            have := same_mem p2 hz
            rw [show rmB p2 = true from a2] at this
            exact this
          rw [sameL_cc, sameL_cc, sameL_cc, sameL_nn, q0, q1, q2]
          rfl
  · have h0 : ¬ entE (readE t) = 0 := by
      have : (readE t).kd = 9 := hk
      unfold entE
      rw [if_pos (by rw [this]; decide)]
      decide
    unfold feO leO
    rw [decide_eq_false h0, if_neg (by omega), if_neg (by omega), if_neg (by omega)]
    simp
end Sn

end Go.Proofs.YtjngknnkffbnmaaDoor
