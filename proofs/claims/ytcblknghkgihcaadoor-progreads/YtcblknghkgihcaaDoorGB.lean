/-
  Layer 13: what the reference's read has laid while functions within are read.
-/
import Derived.Test.YtcblknghkgihcaaDoorGA
import Derived.Laws.OwnMore
import Derived.Deep.RegionHeld3
namespace Go.Proofs.YtcblknghkgihcaaDoor
set_option maxRecDepth 100000
open Go.RowKit Crc Txt Pg

namespace Pg
def zT : Tr := .mk 0 0 nob []
def atT (t : Tr) (i : Nat) : Tr := if t.k = 2 then t.l.getD i zT else zT
def manyL (t : Tr) : List Tr := if t.k = 2 then t.l else []
def smT (t : Tr) : Nat := if t.k = 0 ∧ t.n ≤ 131072 then t.n else 0
def rUp (x : Tr) : Upp := ⟨decide (smT (atT x 0) = 1), smT (atT x 1)⟩
def rIns (x : Tr) : Ins := ⟨smT (atT x 0), smT (atT x 1), smT (atT x 2), smT (atT x 3)⟩
def rVl (x : Tr) : Vl := ⟨smT (atT x 0), if smT (atT x 0) = 3 then (atT x 1).n else 0, if smT (atT x 0) = 4 then (atT x 1).s else nob, 0⟩
/-- What can be read of a function, as far as so many functions lie in one another. -/
def rdT : Nat → Tr → Pr
  | 0, t => .mk (smT (atT t 0)) (smT (atT t 1)) ((manyL (atT t 2)).map rUp) ((manyL (atT t 3)).map rIns) ((manyL (atT t 4)).map rVl) []
  | m + 1, t => .mk (smT (atT t 0)) (smT (atT t 1)) ((manyL (atT t 2)).map rUp) ((manyL (atT t 3)).map rIns) ((manyL (atT t 4)).map rVl) ((manyL (atT t 5)).map (rdT m))
def numB (t : Tr) : Bool := decide (t.k = 0) && decide (t.n ≤ 131072)
def lisB (t : Tr) (c : Nat) : Bool := decide (t.k = 2) && decide (t.l.length = c)
def allB (f : Tr → Bool) (t : Tr) : Bool := decide (t.k = 2) && t.l.all f
def upB (x : Tr) : Bool := lisB x 2 && x.l.all numB && decide (smT (atT x 0) ≤ 1)
def insB (x : Tr) : Bool := lisB x 4 && x.l.all numB
def vlB (x : Tr) : Bool := match x.l with
  | [] => false
  | p :: r => numB p && (if p.n < 3 then lisB x 1 else lisB x 2 && ((decide (p.n = 3) && decide ((r.getD 0 zT).k = 0)) || (decide (p.n = 4) && decide ((r.getD 0 zT).k = 1))))
/-- Whether a tree is read as a function, with what lies in it. -/
def okF : Nat → Tr → Bool
  | 0, _ => false
  | m + 1, t => lisB t 6 && (numB (atT t 0) && numB (atT t 1)) && (allB upB (atT t 2) && allB insB (atT t 3) && allB vlB (atT t 4) && allB (okF m) (atT t 5))
/-- How many functions are read at most. -/
def fcF : Nat → Tr → Nat
  | 0, _ => 1
  | m + 1, t => 1 + ((manyL (atT t 5)).map (fcF m)).sum

theorem uw_nat (n : Nat) (h : n < 18446744073709551616) : uw (n : Int) = n := by unfold uw; omega
theorem sm_le (t : Tr) : smT t ≤ 131072 := by unfold smT; split <;> omega
theorem same_num (n : Nat) (s : ByteArray) (t : Tr) : sameT (.mk 0 n s []) t = (decide (t.k = 0) && decide (t.n = n)) := by
  obtain ⟨k, m, s', l⟩ := t
  rw [sameT_mk]
  by_cases h : (0 : Int) = k
  · subst h; by_cases c : n = m <;> simp [c] <;> omega
  · have : ¬ k = 0 := fun e => h e.symm
    simp [h, this]
theorem same_txt (n : Nat) (s : ByteArray) (t : Tr) : sameT (.mk 1 n s []) t = (decide (t.k = 1) && (s.toList == t.s.toList)) := by
  obtain ⟨k, m, s', l⟩ := t
  rw [sameT_mk]
  by_cases h : (1 : Int) = k
  · subst h; simp
  · have : ¬ k = 1 := fun e => h e.symm
    simp [h, this]
theorem same_lis (l : List Tr) (t : Tr) : sameT (lisT l) t = (decide (t.k = 2) && sameL l t.l) := by
  obtain ⟨k, m, s', l'⟩ := t
  show sameT (.mk 2 0 nob l) _ = _
  rw [sameT_mk]
  by_cases h : (2 : Int) = k
  · subst h; simp
  · have : ¬ k = 2 := fun e => h e.symm
    simp [h, this]
theorem same_sm (t : Tr) : sameT (numT (smT t)) t = numB t := by
  unfold numT
  rw [uw_nat _ (by have := sm_le t; omega), same_num]
  unfold numB smT
  by_cases h : t.k = 0 <;> by_cases h2 : t.n ≤ 131072 <;> simp [h, h2]
  intro e
  omega
theorem same_map (f : Tr → Tr) : ∀ m : List Tr, sameL (m.map f) m = m.all (fun x => sameT (f x) x)
  | [] => rfl
  | a :: m => by rw [List.map_cons, sameL_cc, same_map f m, List.all_cons]
theorem atT_mk (n : Nat) (s : ByteArray) (l : List Tr) (i : Nat) : atT (.mk 2 n s l) i = l.getD i zT := rfl
theorem sameL_2 (a b : Tr) (l : List Tr) : sameL [a, b] l = match l with
  | [p, q] => sameT a p && sameT b q
  | _ => false := by
  match l with
  | [] => rfl
  | [p] => simp [sameL_cc, sameL_cn]
  | [p, q] => simp [sameL_cc, sameL_nn]
  | p :: q :: r :: l => simp [sameL_cc, sameL_nc]
theorem same_up (x : Tr) : sameT (upT (rUp x)) x = upB x := by
  obtain ⟨k, n, s, l⟩ := x
  unfold upT upB lisB
  rw [same_lis]
  by_cases hk : k = 2
  · subst hk
    simp only [sameL_2]
    match l with
    | [] => simp
    | [p] => simp
    | [p, q] =>
      simp only [rUp, atT_mk, List.getD_cons_zero, List.getD_cons_succ, same_sm, List.all_cons, List.all_nil, List.length_cons, List.length_nil]
      have : sameT (numT (if decide (smT p = 1) = true then 1 else 0)) p = (numB p && decide (smT p ≤ 1)) := by
        by_cases c : smT p = 1
        · simp only [c, decide_true, if_true]
          have h1 := same_sm p
          rw [c] at h1
          have : ((1 : Nat) : Int) = 1 := rfl
          rw [this] at h1
          rw [h1]; simp
        · by_cases c0 : smT p = 0
          · simp only [c, decide_false, Bool.false_eq_true, if_false]
            have h1 := same_sm p
            rw [c0] at h1
            have : ((0 : Nat) : Int) = 0 := rfl
            rw [this] at h1
            rw [h1]; simp [c0]
          · simp only [c, decide_false, Bool.false_eq_true, if_false]
            unfold numT
            rw [same_num]
            have h2 : p.n = smT p := by unfold smT at c0 ⊢; split at c0 <;> simp_all
            have h3 : ¬ p.n = uw 0 := by rw [h2]; exact c0
            simp [h3]
            intro _
            omega
      rw [this]
      simp
      cases numB p <;> cases numB q <;> simp
    | p :: q :: r :: l => simp
  · simp [hk]
theorem sameL_4 (a b c d : Tr) (l : List Tr) : sameL [a, b, c, d] l = match l with
  | [p, q, r, s] => sameT a p && (sameT b q && (sameT c r && sameT d s))
  | _ => false := by
  match l with
  | [] => rfl
  | [p] => simp [sameL_cc, sameL_cn]
  | [p, q] => simp [sameL_cc, sameL_cn]
  | [p, q, r] => simp [sameL_cc, sameL_cn]
  | [p, q, r, s] => simp [sameL_cc, sameL_nn]
  | p :: q :: r :: s :: t :: l => simp [sameL_cc, sameL_nc]
theorem same_ins (x : Tr) : sameT (insT (rIns x)) x = insB x := by
  obtain ⟨k, n, s, l⟩ := x
  unfold insT insB lisB
  rw [same_lis]
  by_cases hk : k = 2
  · subst hk
    simp only [sameL_4]
    match l with
    | [] => simp
    | [p] => simp
    | [p, q] => simp
    | [p, q, r] => simp
    | [p, q, r, s] =>
      simp only [rIns, atT_mk, List.getD_cons_zero, List.getD_cons_succ, same_sm, List.all_cons, List.all_nil, List.length_cons, List.length_nil]
      simp
    | p :: q :: r :: s :: t :: l => simp
  · simp [hk]
theorem sameL_1 (a : Tr) (l : List Tr) : sameL [a] l = match l with
  | [p] => sameT a p
  | _ => false := by
  match l with
  | [] => rfl
  | [p] => simp [sameL_cc, sameL_nn]
  | p :: q :: l => simp [sameL_cc, sameL_nc]
theorem sm_num {p : Tr} (h : numB p = true) : smT p = p.n ∧ p.k = 0 ∧ p.n ≤ 131072 := by
  unfold numB at h
  simp only [Bool.and_eq_true, decide_eq_true_eq] at h
  exact ⟨by unfold smT; rw [if_pos h], h.1, h.2⟩
theorem sm_no {p : Tr} (h : numB p = false) : smT p = 0 := by
  unfold numB at h
  unfold smT
  split
  · next c => simp [c] at h
  · rfl
theorem vlT_of (v : Vl) : vlT v = if v.k = 3 then lisT [numT v.k, .mk 0 v.n.toNat nob []] else if v.k = 4 then lisT [numT v.k, .mk 1 0 v.s []] else lisT [numT v.k] := by
  unfold vlT
  split
  · rfl
  · split <;> rfl
theorem same_vl (x : Tr) (h : smT (atT x 0) ≤ 4) : sameT (vlT (rVl x)) x = vlB x := by
  obtain ⟨k, n, s, l⟩ := x
  by_cases hk : k = 2
  · subst hk
    have hb2 : (sameT · (Tr.mk 2 n s l)) ∘ lisT = fun z => sameL z l := by
      funext z; show sameT (lisT z) _ = _; rw [same_lis]; simp
    have hb := fun z => congrFun hb2 z
    simp only [Function.comp] at hb
    rw [vlT_of]
    have e : ∀ (c : Prop) [Decidable c] (a b : Tr), sameT (if c then a else b) (Tr.mk 2 n s l) = if c then sameT a (Tr.mk 2 n s l) else sameT b (Tr.mk 2 n s l) := by intro c _ a b; split <;> rfl
    rw [e, e, hb, hb, hb, sameL_2, sameL_2, sameL_1]
    simp only [rVl, atT_mk] at h ⊢
    unfold vlB lisB
    match l with
    | [] => simp [zT, smT]
    | [p] =>
      simp only [List.getD_cons_zero] at h ⊢
      simp only [same_sm]
      cases c : numB p with
      | false => simp [sm_no c]
      | true =>
        obtain ⟨h1, h2, h3⟩ := sm_num c
        rw [h1] at h ⊢
        by_cases c3 : p.n < 3
        · have a1 : ¬ ((p.n : Int) = 3) := by omega
          have a2 : ¬ ((p.n : Int) = 4) := by omega
          simp [c3, a1, a2]
        · rcases (show p.n = 3 ∨ p.n = 4 by omega) with q | q <;> simp [q]
    | [p, q] =>
      simp only [List.getD_cons_zero, List.getD_cons_succ] at h ⊢
      simp only [same_sm, same_num, same_txt]
      cases c : numB p with
      | false => simp [sm_no c]
      | true =>
        obtain ⟨h1, h2, h3⟩ := sm_num c
        rw [h1] at h ⊢
        by_cases c3 : p.n < 3
        · have a1 : ¬ ((p.n : Int) = 3) := by omega
          have a2 : ¬ ((p.n : Int) = 4) := by omega
          simp [c3, a1, a2]
        · rcases (show p.n = 3 ∨ p.n = 4 by omega) with q | q <;> simp [q]
    | p :: q :: r :: l =>
      simp only [List.getD_cons_zero] at h ⊢
      cases c : numB p with
      | false => simp
      | true =>
        obtain ⟨h1, h2, h3⟩ := sm_num c
        by_cases c3 : p.n < 3 <;> simp [c3]
  · rw [vlT_of]
    have : ∀ z, sameT (lisT z) (Tr.mk k n s l) = false := by intro z; rw [same_lis]; simp [hk]
    have h2 : ∀ (c : Prop) [Decidable c] (a b : List Tr), sameT (if c then lisT a else lisT b) (Tr.mk k n s l) = false := by intro c _ a b; split <;> exact this _
    have h3 : vlB (.mk k n s l) = false := by
      unfold vlB lisB
      match l with
      | [] => rfl
      | p :: r => simp [hk]
    rw [h3]
    split
    · exact this _
    · exact h2 _ _ _
theorem vlB_le (x : Tr) (h : vlB x = true) : smT (atT x 0) ≤ 4 := by
  obtain ⟨k, n, s, l⟩ := x
  unfold vlB lisB at h
  match l with
  | [] => simp at h
  | p :: r =>
    simp only [Bool.and_eq_true] at h
    obtain ⟨h1, h2, h3⟩ := sm_num h.1
    have hk : k = 2 := by
      have := h.2
      split at this
      · simp at this; exact this.1
      · simp at this; exact this.1.1
    subst hk
    rw [atT_mk, List.getD_cons_zero, h1]
    have := h.2
    split at this
    · omega
    · simp at this; rcases this.2 with q | q <;> omega

theorem many_of {t : Tr} (h : t.k = 2) : manyL t = t.l := by unfold manyL; rw [if_pos h]
theorem same_many (f : Tr → Tr) (t : Tr) : sameT (lisT ((manyL t).map f)) t = (decide (t.k = 2) && t.l.all (fun x => sameT (f x) x)) := by
  rw [same_lis]
  by_cases h : t.k = 2
  · rw [many_of h, same_map]
  · simp [h]
theorem sameL_6 (a b c d e f : Tr) (l : List Tr) : sameL [a, b, c, d, e, f] l = match l with
  | [p, q, r, s, t, u] => sameT a p && (sameT b q && (sameT c r && (sameT d s && (sameT e t && sameT f u))))
  | _ => false := by
  match l with
  | [] => rfl
  | [p] => simp [sameL_cc, sameL_cn]
  | [p, q] => simp [sameL_cc, sameL_cn]
  | [p, q, r] => simp [sameL_cc, sameL_cn]
  | [p, q, r, s] => simp [sameL_cc, sameL_cn]
  | [p, q, r, s, t] => simp [sameL_cc, sameL_cn]
  | [p, q, r, s, t, u] => simp [sameL_cc, sameL_nn]
  | p :: q :: r :: s :: t :: u :: v :: l => simp [sameL_cc, sameL_nc]
/-- What is read is the same as a tree of data just where the parts are so. -/
theorem same_rd (m : Nat) (t : Tr) : sameT (cellT (rdT (m + 1) t)) t = (lisB t 6 && (numB (atT t 0) && numB (atT t 1)) && (allB upB (atT t 2) && allB insB (atT t 3) && allB (fun x => sameT (vlT (rVl x)) x) (atT t 4) && allB (fun x => sameT (cellT (rdT m x)) x) (atT t 5))) := by
  rw [rdT, cellT_mk, same_lis]
  obtain ⟨k, n, s, l⟩ := t
  unfold lisB
  by_cases hk : k = 2
  · subst hk
    rw [sameL_6]
    match l with
    | [] => simp
    | [p] => simp
    | [p, q] => simp
    | [p, q, r] => simp
    | [p, q, r, s] => simp
    | [p, q, r, s, t] => simp
    | [p, q, r, s, t, u] =>
      simp only [atT_mk, List.getD_cons_zero, List.getD_cons_succ, List.map_map]
      simp only [same_sm, same_many, Function.comp, same_up, same_ins, allB]
      simp [Bool.and_assoc]
    | p :: q :: r :: s :: t :: u :: v :: l => simp
  · simp [hk]
theorem same_rd0 (t : Tr) : sameT (cellT (rdT 0 t)) t = (lisB t 6 && (numB (atT t 0) && numB (atT t 1)) && (allB upB (atT t 2) && allB insB (atT t 3) && allB (fun x => sameT (vlT (rVl x)) x) (atT t 4) && lisB (atT t 5) 0)) := by
  rw [rdT, cellT_mk, same_lis]
  obtain ⟨k, n, s, l⟩ := t
  unfold lisB
  by_cases hk : k = 2
  · subst hk
    rw [sameL_6]
    match l with
    | [] => simp
    | [p] => simp
    | [p, q] => simp
    | [p, q, r] => simp
    | [p, q, r, s] => simp
    | [p, q, r, s, t] => simp
    | [p, q, r, s, t, u] =>
      simp only [atT_mk, List.getD_cons_zero, List.getD_cons_succ, List.map_map]
      simp only [same_sm, same_many, Function.comp, same_up, same_ins, allB, List.map_nil]
      have : ∀ l : List Tr, sameL [] l = decide (l.length = 0) := by intro l; cases l <;> rfl
      rw [same_lis, this]
      simp [Bool.and_assoc]
    | p :: q :: r :: s :: t :: u :: v :: l => simp
  · simp [hk]
theorem all_imp {f g : Tr → Bool} {l : List Tr} (h : l.all f = true) (k : ∀ x ∈ l, f x = true → g x = true) : l.all g = true := by
  rw [List.all_eq_true] at h ⊢
  exact fun x hx => k x hx (h x hx)
theorem allB_imp {f g : Tr → Bool} {t : Tr} (h : allB f t = true) (k : ∀ x ∈ t.l, t.k = 2 → f x = true → g x = true) : allB g t = true := by
  unfold allB at h ⊢
  simp only [Bool.and_eq_true, decide_eq_true_eq] at h ⊢
  exact ⟨h.1, all_imp h.2 (fun x hx => k x hx h.1)⟩
/-- What is read whole is the same as the tree. -/
theorem ok_same : ∀ (D : Nat) (t : Tr), okF D t = true → sameT (cellT (rdT D t)) t = true
  | 0, t, h => by simp [okF] at h
  | m + 1, t, h => by
    rw [same_rd]
    rw [okF] at h
    simp only [Bool.and_eq_true] at h ⊢
    refine ⟨h.1, ⟨⟨h.2.1.1, allB_imp h.2.1.2 (fun x _ _ hx => by rw [same_vl x (vlB_le x hx)]; exact hx)⟩, allB_imp h.2.2 (fun x _ _ hx => ok_same m x hx)⟩⟩

theorem flatT_self (t : Pr) : t ∈ flatT t := by
  obtain ⟨pa, rg, us, cs, ks, ps⟩ := t
  rw [flatT_mk]
  have : ∀ (ps l : List Pr) (r : Pr), r ∈ l → r ∈ flatL l ps := by
    intro ps
    induction ps with
    | nil => exact fun l r h => h
    | cons q ps ih => exact fun l r h => ih _ r (List.mem_append_left _ h)
  exact this ps _ _ (List.mem_singleton.2 rfl)
theorem flatT_kid {pa rg : Int} {us : List Upp} {cs : List Ins} {ks : List Vl} {ps : List Pr} {q r : Pr} (hq : q ∈ ps) (hr : r ∈ flatT q) : r ∈ flatT (.mk pa rg us cs ks ps) := by
  rw [flatT_mk]
  have h1 : ∀ (ps l : List Pr) (r : Pr), r ∈ l → r ∈ flatL l ps := by
    intro ps
    induction ps with
    | nil => exact fun l r h => h
    | cons q ps ih => exact fun l r h => ih _ r (List.mem_append_left _ h)
  have h2 : ∀ (ps l : List Pr), q ∈ ps → r ∈ flatL l ps := by
    intro ps
    induction ps with
    | nil => exact fun l h => by cases h
    | cons q' ps ih =>
      intro l h
      rcases List.mem_cons.1 h with rfl | h
      · exact h1 ps _ r (List.mem_append_right _ hr)
      · exact ih _ h
  exact h2 ps _ hq

theorem many_mem {t : Tr} (h : t.k = 2) {x : Tr} (hx : x ∈ t.l) : x ∈ manyL t := by rw [many_of h]; exact hx
theorem dep_mem {t x : Tr} (h : x ∈ t.l) : x.dep < t.dep := by
  obtain ⟨k, n, s, l⟩ := t
  obtain ⟨i, hi, he⟩ := List.getElem_of_mem h
  have h2 := deps_get (l := l) i hi
  rw [Tr.dep_mk, ← he]
  exact h2
theorem dep_at (t : Tr) (i : Nat) : (atT t i).dep + 1 ≤ t.dep ∨ atT t i = zT := by
  unfold atT
  split
  · rw [List.getD_eq_getElem?_getD]
    by_cases h : i < t.l.length
    · rw [List.getElem?_eq_getElem h]
      exact Or.inl (dep_mem (List.getElem_mem h))
    · rw [List.getElem?_eq_none (by omega)]
      exact Or.inr rfl
  · exact Or.inr rfl
theorem dep_kid {t x : Tr} {i : Nat} (h : x ∈ manyL (atT t i)) : x.dep + 2 ≤ t.dep := by
  unfold manyL at h
  split at h
  · rcases dep_at t i with c | c
    · have := dep_mem h; omega
    · rw [c] at h; simp [zT] at h
  · cases h
theorem ok_of : ∀ (D : Nat) (t : Tr), t.dep < D → (∀ r ∈ flatT (rdT D t), ∀ v ∈ r.ks, v.k ≤ 4) → sameT (cellT (rdT D t)) t = true → okF D t = true
  | 0, t, h, _, _ => by omega
  | m + 1, t, h, hk, hs => by
    rw [same_rd] at hs
    rw [okF]
    simp only [Bool.and_eq_true] at hs ⊢
    refine ⟨hs.1, ⟨⟨hs.2.1.1, allB_imp hs.2.1.2 (fun x hx h2 he => ?_)⟩, allB_imp hs.2.2 (fun x hx h2 he => ?_)⟩⟩
    · rw [same_vl x ?_] at he
      · exact he
      · have := hk _ (flatT_self _) (rVl x) (by rw [rdT]; exact List.mem_map.2 ⟨x, many_mem h2 hx, rfl⟩)
        simp only [rVl] at this
        omega
    · have hx2 := many_mem h2 hx
      have := dep_kid hx2
      refine ok_of m x (by omega) (fun r hr v hv => hk r ?_ v hv) he
      rw [rdT]
      exact flatT_kid (List.mem_map.2 ⟨x, hx2, rfl⟩) hr

theorem map_eq_of {α β : Type} {f g : α → β} {l : List α} (h : ∀ x ∈ l, f x = g x) : l.map f = l.map g := List.map_congr_left h
theorem rd_dep : ∀ (m D : Nat) (t : Tr), m ≤ D → (rdT D t).dep ≤ m → rdT D t = rdT m t
  | 0, 0, t, _, _ => rfl
  | 0, D + 1, t, _, h => by
    rw [rdT, Pr.dep_mk] at h
    rw [rdT, rdT]
    congr 1
    cases e : manyL (atT t 5) with
    | nil => rfl
    | cons x l => rw [e, List.map_cons, pdeps_cons] at h; omega
  | m + 1, 0, t, hm, _ => by omega
  | m + 1, D + 1, t, hm, h => by
    rw [rdT, Pr.dep_mk] at h
    rw [rdT, rdT]
    congr 1
    refine map_eq_of (fun x hx => rd_dep m D x (by omega) ?_)
    have hx2 : rdT D x ∈ (manyL (atT t 5)).map (rdT D) := List.mem_map.2 ⟨x, hx, rfl⟩
    obtain ⟨i, hi, he⟩ := List.getElem_of_mem hx2
    have := pdeps_get i hi
    rw [he] at this
    omega
theorem rd_same : ∀ (m D : Nat) (t : Tr), m ≤ D → sameT (cellT (rdT m t)) t = true → rdT D t = rdT m t
  | 0, 0, t, _, _ => rfl
  | 0, D + 1, t, _, h => by
    rw [same_rd0] at h
    simp only [Bool.and_eq_true] at h
    have h5 := h.2.2
    unfold lisB at h5
    simp only [Bool.and_eq_true, decide_eq_true_eq] at h5
    rw [rdT, rdT]
    congr 1
    rw [many_of h5.1, List.eq_nil_of_length_eq_zero h5.2]
    rfl
  | m + 1, 0, t, hm, _ => by omega
  | m + 1, D + 1, t, hm, h => by
    rw [same_rd] at h
    simp only [Bool.and_eq_true] at h
    have h5 := h.2.2
    unfold allB at h5
    simp only [Bool.and_eq_true, decide_eq_true_eq] at h5
    rw [rdT, rdT]
    congr 1
    rw [many_of h5.1]
    exact map_eq_of (fun x hx => rd_same m D x (by omega) (List.all_eq_true.1 h5.2 x hx))
theorem pdeps_le {l : List Pr} {k : Nat} (h : ∀ q ∈ l, q.dep + 1 ≤ k) : pdeps l ≤ k := by
  induction l with
  | nil => rw [pdeps_nil]; omega
  | cons a l ih =>
    rw [pdeps_cons]
    have h1 := h a List.mem_cons_self
    have h2 := ih (fun q hq => h q (List.mem_cons_of_mem _ hq))
    omega
theorem chk_dep : ∀ (t : Pr) (rg : Int) (nu d n m : Nat), chkT t rg nu d n = (m, 0) → t.dep + d ≤ 100 := by
  refine Pr.ind' fun pa rg us cs ks ps ih => ?_
  intro arg anu d n m h
  rw [chkT_mk] at h
  split at h
  · cases h
  · split at h
    · cases h
    · next c1 c2 =>
      simp only [Bool.or_eq_true, decide_eq_true_eq, not_or] at c1
      rw [Pr.dep_mk]
      have : pdeps ps ≤ 100 - d := by
        refine pdeps_le (fun q hq => ?_)
        obtain ⟨n', m', hq2⟩ := chkL_good ps _ _ _ _ _ h q hq
        have := ih q hq _ _ _ _ _ hq2
        omega
      omega
theorem chkB_dep (t : Pr) (h : chkB t = 0) : t.dep ≤ 100 := by
  obtain ⟨pa, rg, us, cs, ks, ps⟩ := t
  unfold chkB at h
  split at h
  · cases h
  · split at h
    · cases h
    · rw [Pr.dep_mk]
      refine pdeps_le (fun q hq => ?_)
      have h2 : chkL rg us.length 1 1 ps = ((chkL rg us.length 1 1 ps).1, 0) := Prod.ext rfl h
      obtain ⟨n', m', hq2⟩ := chkL_good ps _ _ _ _ _ h2 q hq
      have := chk_dep q _ _ _ _ _ hq2
      omega
theorem chkB_ks (t : Pr) (h : chkB t = 0) : ∀ r ∈ flatT t, ∀ v ∈ r.ks, v.k ≤ 4 := by
  intro r hr v hv
  have hs := chkB_sound t h r hr
  unfold soundB at hs
  simp only [Bool.and_eq_true, Bool.not_eq_true'] at hs
  have h1 := hs.1.1.2
  rw [List.any_eq_false] at h1
  have h2 := h1 v hv
  unfold noC inB at h2
  simp only [Bool.or_eq_true, Bool.not_eq_true', not_or, Bool.not_eq_false, Bool.and_eq_true, decide_eq_true_eq] at h2
  omega
/-- Both ways of reading tell the same. -/
theorem read_ok (D : Nat) (t : Tr) (h1 : t.dep < D) (h2 : 100 ≤ D) : (okF D t && decide (chkB (rdT D t) = 0)) = (decide (chkB (rdT 100 t) = 0) && sameT (cellT (rdT 100 t)) t) := by
  rw [Bool.eq_iff_iff]
  simp only [Bool.and_eq_true, decide_eq_true_eq]
  constructor
  · rintro ⟨a, b⟩
    have e := rd_dep 100 D t h2 (chkB_dep _ b)
    rw [← e]
    exact ⟨b, ok_same D t a⟩
  · rintro ⟨a, b⟩
    have e := rd_same 100 D t h2 b
    rw [e]
    refine ⟨ok_of D t h1 ?_ (by rw [e]; exact b), a⟩
    rw [e]
    exact chkB_ks _ a
theorem read_eq (D : Nat) (t : Tr) (h2 : 100 ≤ D) (h : chkB (rdT D t) = 0) : rdT D t = rdT 100 t := rd_dep 100 D t h2 (chkB_dep _ h)

theorem cnts_all {f : Tr → Nat} {l : List Tr} (h : ∀ x ∈ l, f x ≤ x.cnt) : (l.map f).sum ≤ cnts l := by
  induction l with
  | nil => simp [cnts_nil]
  | cons a l ih =>
    rw [List.map_cons, List.sum_cons, cnts_cons]
    have h1 := h a List.mem_cons_self
    have h2 := ih (fun q hq => h q (List.mem_cons_of_mem _ hq))
    omega
theorem cnts_getl {l : List Tr} (i : Nat) (h : i < l.length) : l[i].cnt ≤ cnts l := by
  have h1 := cnts_take l i h
  have h2 := cnts_append (l.take (i + 1)) (l.drop (i + 1))
  rw [List.take_append_drop] at h2
  omega
theorem fc_le : ∀ (D : Nat) (t : Tr), fcF D t ≤ t.cnt
  | 0, t => cnt_pos t
  | m + 1, t => by
    rw [fcF]
    obtain ⟨k, n, s, l⟩ := t
    rw [Tr.cnt_mk]
    have h1 := cnts_all (f := fcF m) (l := manyL (atT (.mk k n s l) 5)) (fun x _ => fc_le m x)
    have h2 : cnts (manyL (atT (.mk k n s l) 5)) ≤ cnts l := by
      unfold atT
      simp only
      split
      · rw [List.getD_eq_getElem?_getD]
        by_cases hi : 5 < l.length
        · rw [List.getElem?_eq_getElem hi]
          simp only [Option.getD_some]
          have := cnts_getl 5 hi
          cases e : l[5] with
          | mk k' n' s' l' =>
            rw [e, Tr.cnt_mk] at this
            unfold manyL
            simp only
            split
            · omega
            · rw [cnts_nil]; omega
        · rw [List.getElem?_eq_none (by omega)]
          simp [manyL, zT, cnts_nil]
      · simp [manyL, zT, cnts_nil]
    omega
theorem fc_take (m : Nat) (l : List Tr) (i : Nat) (h : i < l.length) : ((l.take (i + 1)).map (fcF m)).sum = ((l.take i).map (fcF m)).sum + fcF m l[i] := by
  rw [List.take_succ_eq_append_getElem h, List.map_append, List.sum_append]
  simp
theorem fc_take_le (m : Nat) (l : List Tr) (i : Nat) : ((l.take i).map (fcF m)).sum ≤ (l.map (fcF m)).sum := by
  conv => rhs; rw [← List.take_append_drop i l, List.map_append, List.sum_append]
  omega
end Pg

end Go.Proofs.YtcblknghkgihcaaDoor
namespace Go.Proofs.YtcblknghkgihcaaDoor
set_option maxRecDepth 100000
open Go.RowKit Crc Pg

theorem CR.parts {w : World} {k0 : Int} {n0 : Nat} {s0 : ByteArray} {ts : List Tr} {a : Option Addr} {cap : Nat} (h : CR w (.mk k0 n0 s0 ts) (cellV k0 n0 s0 (.slice a ts.length cap))) :
    (-9223372036854775808 ≤ k0 ∧ k0 ≤ 9223372036854775807) ∧ n0 < 18446744073709551616 ∧ s0.size ≤ 9223372036854775807 ∧ ts.length ≤ cap ∧ cap ≤ 9223372036854775807 ∧ (a = none → ts = []) ∧
    ∃ (ks : Nat → Int) (ns : Nat → Nat) (ss : Nat → ByteArray) (us : Nat → Value), (∀ x i, a = some x → i < ts.length → x.spot = none ∧ Lies w x.block x.off i (ks i) (ns i) (ss i) (us i)) ∧ ∀ i (h : i < ts.length), CR w ts[i] (cellV (ks i) (ns i) (ss i) (us i)) := by
  generalize hv : cellV k0 n0 s0 (.slice a ts.length cap) = v0 at h
  cases h using CR.elim with
  | mk k n s _ a' cap' ks ns ss us hk hn hs hl hc h0 hx hr =>
    unfold cellV at hv
    simp only [Value.agg.injEq, Array.mk.injEq, List.cons.injEq, Value.slice.injEq, and_true, true_and] at hv
    obtain ⟨rfl, rfl⟩ := hv
    exact ⟨hk, hn, hs, hl, hc, h0, ks, ns, ss, us, hx, hr⟩
theorem CR.top {w : World} {t : Tr} {k : Int} {n : Nat} {s : ByteArray} {u : Value} (h : CR w t (cellV k n s u)) : k = t.k ∧ n = t.n ∧ s = t.s ∧ ∃ a cap, u = .slice a t.l.length cap := by
  generalize hv : cellV k n s u = v0 at h
  cases h using CR.elim with
  | mk k n s ts a' cap' ks ns ss us hk hn hs hl hc h0 hx hr =>
    unfold cellV at hv
    simp at hv
    obtain ⟨rfl, e, rfl, rfl⟩ := hv
    exact ⟨rfl, Int.ofNat_inj.1 e, rfl, a', cap', rfl⟩
theorem CR.shape {w : World} {t : Tr} {v : Value} (h : CR w t v) : ∃ a cap, v = cellV t.k t.n t.s (.slice a t.l.length cap) := by
  cases h using CR.elim with
  | mk k n s ts a cap => exact ⟨a, cap, rfl⟩
/-- The i-th of a row. -/
theorem CR.get {w : World} {k0 : Int} {n0 : Nat} {s0 : ByteArray} {ts : List Tr} {a : Option Addr} {cap : Nat} (h : CR w (.mk k0 n0 s0 ts) (cellV k0 n0 s0 (.slice a ts.length cap))) (i : Nat) (hi : i < ts.length) :
    ∃ g o b c, a = some ⟨g, o, none⟩ ∧ Lies w g o i ts[i].k ts[i].n ts[i].s (.slice b ts[i].l.length c) ∧ CR w ts[i] (cellV ts[i].k ts[i].n ts[i].s (.slice b ts[i].l.length c)) := by
  obtain ⟨-, -, -, -, -, h0, ks, ns, ss, us, hx, hr⟩ := h.parts
  cases a with
  | none => rw [h0 rfl] at hi; exact absurd hi (Nat.not_lt_zero _)
  | some x =>
    obtain ⟨g, o, sp⟩ := x
    obtain ⟨h1, h2⟩ := hx _ i rfl hi
    simp only at h1
    subst h1
    have h3 := hr i hi
    obtain ⟨e1, e2, e3, b, c, e4⟩ := h3.top
    rw [e1, e2, e3, e4] at h2 h3
    exact ⟨g, o, b, c, rfl, h2, h3⟩
theorem CR.take {w : World} {k0 : Int} {n0 : Nat} {s0 : ByteArray} {ts : List Tr} {a : Option Addr} {cap : Nat} (h : CR w (.mk k0 n0 s0 ts) (cellV k0 n0 s0 (.slice a ts.length cap))) (m : Nat) (hm : m ≤ ts.length) :
    CR w (.mk k0 n0 s0 (ts.take m)) (cellV k0 n0 s0 (.slice a (ts.take m).length cap)) := by
  obtain ⟨h1, h2, h3, h4, h5, h0, ks, ns, ss, us, hx, hr⟩ := h.parts
  have hl : (ts.take m).length = m := by rw [List.length_take]; omega
  refine CR.mk k0 n0 s0 (ts.take m) a cap ks ns ss us h1 h2 h3 (by omega) h5 (fun e => by rw [h0 e]; simp) (fun x i e hi => hx x i e (by omega)) (fun i hi => ?_)
  rw [List.getElem_take]
  exact hr i (by omega)

def lisV (k : Int) (m : Nat) (c : Int) : Bool := decide (k = 2) && decide ((m : Int) = c)
set_option maxHeartbeats 1000000 in
theorem isList_any (k : Int) (n : Nat) (s : ByteArray) (a : Option Addr) (m cap : Nat) (c : Int) (w : World) :
    Calls Tryd.prog 47 #[cellV k n s (.slice a m cap), .int .i64 c] w fun e w' => e = .returned (.bool (lisV k m c)) ∧ Below w.heap.size w w' := by
  have HB := hide_p (fun o : Obj => (Below.refl w.heap.size w).alloc (Nat.le_refl _) o)
  unfold cellV
  by_cases h : k = 2
  · by_cases h2 : (m : Int) = c
    · have e : lisV k m c = true := by unfold lisV; simp [h, h2]
      rw [e]
      subst h
      go_enter Tryd.func47, Tryd.ntmps47
      go_wp2
      go_ret
      exact ⟨rfl, HB.out _⟩
    · have e : lisV k m c = false := by unfold lisV; simp [h, h2]
      have h3 : ((m : Int) == c) = false := by simpa using h2
      rw [e]
      subst h
      go_enter Tryd.func47, Tryd.ntmps47
      go_wp2
      go_ret
      exact ⟨rfl, HB.out _⟩
  · have e : lisV k m c = false := by unfold lisV; simp [h]
    rw [e]
    go_enter Tryd.func47, Tryd.ntmps47
    go_wp2
    go_ret
    exact ⟨rfl, HB.out _⟩

theorem infoInt : (Tryd.prog.info? 3).map (fun i => (i.zero, i.size, i.bytes)) = some (some (.int .i64 0), 1, 8) := by kernel_rfl
/-- A row of numbers in a block of its own. -/
def NumS (w : World) (B : Nat) (v : Value) (ns : List Nat) : Prop := ∃ g, v = .slice (some ⟨g, 0, none⟩) ns.length ns.length ∧ B ≤ g ∧ ∀ i (h : i < ns.length), w.cell? ⟨g, i, none⟩ = some (.int .i64 ns[i])

set_option maxHeartbeats 2000000 in
theorem numbers_any (ts : List Tr) (a : Option Addr) (cap : Nat) (k0 : Int) (n0 : Nat) (s0 : ByteArray) (w : World) (hl : ts.length ≤ 1000000) (h : CR w (.mk k0 n0 s0 ts) (cellV k0 n0 s0 (.slice a ts.length cap))) :
    Calls Tryd.prog 48 #[.slice a ts.length cap] w fun e w' => ∃ a' n' c', e = .returned (.tuple #[.slice a' n' c', .bool (ts.all numB)]) ∧ Below w.heap.size w w' ∧ (ts.all numB = true → NumS w' w.heap.size (.slice a' n' c') (ts.map Tr.n)) := by
  obtain ⟨i0, hi0, hz0, hz1, hz2⟩ := info_parts infoInt
  have HG : Hid _ := hide_p (fun i hi => h.get i hi)
  have hcap := h.parts.2.2.2.1
  have hcap2 := h.parts.2.2.2.2.1
  obtain ⟨N, hN⟩ : ∃ N, N = ts.length := ⟨_, rfl⟩
  have HN := hide_p hN
  obtain ⟨R, hR⟩ : ∃ R, R = ts.all numB := ⟨_, rfl⟩
  rw [← hR, ← hN]
  rw [← hN] at hl hcap
  have HR := hide_p hR
  have HB0 := hide_p (Below.refl w.heap.size w)
  clear h hN hR
  go_enter Tryd.func48, Tryd.ntmps48
  go_wp2_with (at_make; refine wpList_make_full _ rfl _ _ 85 rfl w.heap.size 3 i0 (.int .i64 0) 1 Tryd.underlying85 hi0 hz0 hz1 .i64 .i64 _ _ N rfl rfl rfl rfl (by rw [hz2]; omega) (by unfold maxLen; omega) (Nat.le_refl _) ?_)
  intro w2 q1 q2
  have HB2 : Hid (Below w.heap.size w w2) := HB0.out.grown q2 (Nat.le_refl _) (fun k hk => by cases hk)
  have HX : Hid (∃ xs, w2.ownsRow w.heap.size 3 1 (.slice (some ⟨w.heap.size, 0, none⟩) N N) N xs ∧ ∀ j (h : j < ts.length), j < 0 → xs[j]? = some (.int .i64 ts[j].n)) := ⟨_, q1, fun j _ h => absurd h (Nat.not_lt_zero _)⟩
  clear q1 q2
  go_wp2_with fail
  go_loopw [12] (fun t12 wr => ∃ i : Nat, i ≤ N ∧ t12 = .int .i64 i ∧ Hid (∃ xs, wr.ownsRow w.heap.size 3 1 (.slice (some ⟨w.heap.size, 0, none⟩) N N) N xs ∧ ∀ j (h : j < ts.length), j < i → xs[j]? = some (.int .i64 ts[j].n)) ∧ Hid ((ts.take i).all numB = true) ∧ Hid (Below w.heap.size w wr)) (fun t12 _ => N - (intOf t12).toNat)
  case atStart => exact ⟨0, Nat.zero_le _, rfl, HX, rfl, HB2⟩
  case round =>
    obtain ⟨i, hi, rfl, HXr, HA, HB⟩ := hrel
    by_cases c : i < N
    · have i1 : i < ts.length := by rw [← HN.out]; exact c
      obtain ⟨g, o, b, cc, rfl, hlies, -⟩ := HG.out i i1
      have hlies := hlies.below HB.out (Nat.le_refl _)
      obtain ⟨l0, l1, l2, l3⟩ := hlies
      have HTK : Hid ((ts.take (i + 1)).all numB = (numB ts[i])) := by
        show _ = _
        rw [List.take_succ_eq_append_getElem i1, List.all_append, HA.out]
        simp
      have HST : Hid (numB ts[i] = true → ∀ wq, Below wr.heap.size wr wq → wq.frozen? ⟨w.heap.size, i, none⟩ = false ∧ (∃ u, wq.cell? ⟨w.heap.size, i, none⟩ = some u) ∧ (∃ xs, (wq.setCell ⟨w.heap.size, i, none⟩ (.int .i64 ts[i].n)).ownsRow w.heap.size 3 1 (.slice (some ⟨w.heap.size, 0, none⟩) N N) N xs ∧ ∀ j (h : j < ts.length), j < i + 1 → xs[j]? = some (.int .i64 ts[j].n)) ∧ Below w.heap.size w (wq.setCell ⟨w.heap.size, i, none⟩ (.int .i64 ts[i].n))) := by
        intro hb wq hq
        obtain ⟨xs, x1, x2⟩ := HXr.out
        have x3 : wq.ownsRow w.heap.size 3 1 (.slice (some ⟨w.heap.size, 0, none⟩) N N) N xs := ownsRow_far x1 (hq.block _ (x1.lt _ rfl).2) rfl
        have hxl : xs.length = N := by have := x1.1; omega
        refine ⟨x3.frozenAt i, ⟨xs[i]'(by omega), ?_⟩, ⟨_, (x3.stored i _).1, fun j hj hji => ?_⟩, (HB.out.trans (hq.mono HB.out.size)).setCell (Nat.le_refl _) _⟩
        · rw [x3.cellAt i (by omega)]
          exact List.getElem?_eq_getElem (by omega)
        · rw [List.getElem?_set]
          by_cases e : i = j
          · subst e
            rw [if_pos rfl, if_pos (by omega)]
          · rw [if_neg e]
            exact x2 j hj (by omega)
      have HBA : Hid (∀ ob, Below wr.heap.size wr (wr.alloc ob)) := fun ob => (Below.refl _ _).alloc (Nat.le_refl _) ob
      have HBW : Hid (∀ ob, Below w.heap.size w (wr.alloc ob)) := fun ob => HB.out.alloc HB.out.size ob
      have HF : Hid (numB ts[i] = false → R = false) := by
        intro hf
        rw [HR.out, List.all_eq_false]
        exact ⟨ts[i], List.getElem_mem i1, by simp [hf]⟩
      by_cases hk : ts[i].k = 0
      · by_cases hn : ts[i].n ≤ 131072
        · have hb : numB ts[i] = true := by unfold numB; simp [hk, hn]
          rw [hb] at HTK
          have HS := hide_p (HST.out hb)
          clear HST HF HXr
          generalize ts[i].n = n at *
          generalize ts[i].k = k at *
          generalize ts[i].s = s at *
          generalize ts[i].l.length = m at *
          subst hk
          obtain ⟨f0, ⟨u0, c0⟩, HS1, HS2⟩ := HS.out _ (HBA.out (.cells #[.int .i64 0, .int .u64 n, .string s, .slice b m cc] 33))
          have HS1 := hide_p HS1
          have HS2 := hide_p HS2
          go_wp2
          go_roundw
          case rel => exact ⟨i + 1, by omega, by go_num, HS1, HTK, HS2⟩
          case measure => simp [intOf]; omega
        · have hb : numB ts[i] = false := by unfold numB; simp [hn]
          have hR := HF.out hb
          have hn2 : 131072 < (ts[i].n : Int) := by omega
          clear HST HF HXr HR HTK
          generalize ts[i].n = n at *
          generalize ts[i].k = k at *
          generalize ts[i].s = s at *
          generalize ts[i].l.length = m at *
          subst hk hR
          go_wp2
          go_ret2
          exact ⟨_, _, _, rfl, HBW.out _, fun e => by cases e⟩
      · have hb : numB ts[i] = false := by unfold numB; simp [hk]
        have hR := HF.out hb
        clear HST HF HXr HR HTK
        generalize ts[i].n = n at *
        generalize ts[i].k = k at *
        generalize ts[i].s = s at *
        generalize ts[i].l.length = m at *
        subst hR
        go_wp2
        go_ret2
        exact ⟨_, _, _, rfl, HBW.out _, fun e => by cases e⟩
    · have e : i = N := by omega
      have hA := HA.out
      rw [List.take_of_length_le (by have := HN.out; omega), ← HR.out] at hA
      have HS : Hid (NumS wr w.heap.size (.slice (some ⟨w.heap.size, 0, none⟩) N N) (ts.map Tr.n)) := by
        obtain ⟨xs, x1, x2⟩ := HXr.out
        refine ⟨w.heap.size, by rw [List.length_map, ← HN.out], Nat.le_refl _, fun j hj => ?_⟩
        rw [List.length_map] at hj
        rw [x1.cellAt j (by have := HN.out; omega), x2 j hj (by have := HN.out; omega), List.getElem_map]
      subst e hA
      clear HXr HA HX
      go_wp2
      go_ret2
      exact ⟨_, _, _, rfl, HB.out, HS.out⟩

end Go.Proofs.YtcblknghkgihcaaDoor
namespace Go.Proofs.YtcblknghkgihcaaDoor
set_option maxRecDepth 100000
open Go.RowKit Crc Pg

theorem results_cell_tmp {P : Program} {fn : Func} {p q : Tmp} {ty : TypeId} (h : fn.results = #[.cell p ty, .tmp q]) (tmps : Array Value) (w : World) (g : Nat) (t : TypeId) (cs : Array Value) (fr : Nat × Nat) (d : TypeDesc)
    (hp : tmps.getD p undef = .pointer (some ⟨g, 0, none⟩)) (hg : w.heap[g]? = some (.cells cs t fr))
    (hu : P.underlying ty = some d) (hd : (match d with | .struct _ | .array _ _ => true | _ => false) = true) (hi : (P.info? ty).map (·.size) = some cs.size) :
    (results fn tmps).run P w = .ok (.tuple #[.agg cs, tmps.getD q undef]) w := by
  have hp' : tmps[p]?.getD undef = .pointer (some ⟨g, 0, none⟩) := by simpa using hp
  simp [results, h, hp', asAddr, run_loadVar_row w g t ty cs fr d hg hu hd hi]
theorem szUp : (Tryd.prog.info? 54).map (fun i => i.size) = some 2 := by kernel_rfl
theorem szIns : (Tryd.prog.info? 58).map (fun i => i.size) = some 4 := by kernel_rfl
theorem szVl : (Tryd.prog.info? 63).map (fun i => i.size) = some 4 := by kernel_rfl
def UpP (O : Bool) (G : Upp) (b : Bool) (z : Int) : Prop := O = true → b = G.own ∧ z = G.pl
def InsP (O : Bool) (G : Ins) (z0 z1 z2 z3 : Int) : Prop := O = true → z0 = G.op ∧ z1 = G.a ∧ z2 = G.b ∧ z3 = G.c
def VlP (O : Bool) (G : Vl) (z0 z1 : Int) (s : ByteArray) (z3 : Int) : Prop := O = true → z0 = G.k ∧ z1 = G.n ∧ s = G.s ∧ z3 = G.o
def UpR (w : World) (O : Bool) (G : Upp) (e : Ending) (w' : World) : Prop := ∃ (b : Bool) (z : Int), e = .returned (.tuple #[.agg #[.bool b, .int .i64 z], .bool O]) ∧ Below w.heap.size w w' ∧ UpP O G b z
def InsR (w : World) (O : Bool) (G : Ins) (e : Ending) (w' : World) : Prop := ∃ z0 z1 z2 z3 : Int, e = .returned (.tuple #[.agg #[.int .i64 z0, .int .i64 z1, .int .i64 z2, .int .i64 z3], .bool O]) ∧ Below w.heap.size w w' ∧ InsP O G z0 z1 z2 z3
def VlR (w : World) (O : Bool) (G : Vl) (e : Ending) (w' : World) : Prop := ∃ (z0 z1 : Int) (s : ByteArray) (z3 : Int), e = .returned (.tuple #[.agg #[.int .i64 z0, .int .u64 z1, .string s, .int .i64 z3], .bool O]) ∧ Below w.heap.size w w' ∧ VlP O G z0 z1 s z3
theorem tlist2 {l : List Tr} (h : l.length = 2) : ∃ p q, l = [p, q] := by
  match l, h with
  | [p, q], _ => exact ⟨p, q, rfl⟩
theorem tlist4 {l : List Tr} (h : l.length = 4) : ∃ p q r s, l = [p, q, r, s] := by
  match l, h with
  | [p, q, r, s], _ => exact ⟨p, q, r, s, rfl⟩
theorem set2_block {w : World} {b : Nat} {T : TypeId} {x0 x1 : Value} (h : w.heap[b]? = some (.cells #[x0, x1] T (0, 0))) (v0 v1 : Value) :
    ((w.setCell ⟨b, 0, none⟩ v0).setCell ⟨b, 1, none⟩ v1).heap[b]? = some (.cells #[v0, v1] T (0, 0)) := by
  have z1 := heap_setCell_same _ _ 0 _ _ v0 h
  exact heap_setCell_same _ _ 1 _ _ v1 z1
theorem block2 {w : World} {b : Nat} {T : TypeId} {fr : Nat × Nat} {x0 x1 : Value} (h : w.heap[b]? = some (.cells #[x0, x1] T fr)) :
    w.cell? ⟨b, 0, none⟩ = some x0 ∧ w.cell? ⟨b, 1, none⟩ = some x1 :=
  ⟨by rw [Lib.cell_of_heap h]; rfl, by rw [Lib.cell_of_heap h]; rfl⟩
theorem set2_below {w w0 : World} {b B : Nat} (hb : Below B w0 w) (h : B ≤ b) (v0 v1 : Value) : Below B w0 ((w.setCell ⟨b, 0, none⟩ v0).setCell ⟨b, 1, none⟩ v1) :=
  (hb.setCell (p := ⟨b, 0, none⟩) h _).setCell (p := ⟨b, 1, none⟩) h _


set_option maxHeartbeats 4000000 in
theorem readUp_any (t : Tr) (v : Value) (w : World) (h : CR w t v) :
    Calls Tryd.prog 50 #[v] w (UpR w (upB t) (rUp t)) := by
  obtain ⟨a, cap, rfl⟩ := h.shape
  obtain ⟨k, n, s, l⟩ := t
  simp only at h ⊢
  have HC := hide_p h
  have HN : Hid (∀ w', Below w.heap.size w w' → l.length = 2 → Calls Tryd.prog 48 #[.slice a l.length cap] w' fun e w'' => ∃ a' n' c', e = .returned (.tuple #[.slice a' n' c', .bool (l.all numB)]) ∧ Below w'.heap.size w' w'' ∧ (l.all numB = true → NumS w'' w'.heap.size (.slice a' n' c') (l.map Tr.n))) :=
    fun w' hb hl => numbers_any l a cap k n s w' (by omega) (HC.out.kept hb (Nat.le_refl _))
  have HL : Hid (∀ w', Calls Tryd.prog 47 #[.agg #[.int .i64 k, .int .u64 n, .string s, .slice a l.length cap], .int .i64 2] w' fun e w'' => e = .returned (.bool (lisV k l.length 2)) ∧ Below w'.heap.size w' w'') := fun w' => isList_any k n s a l.length cap 2 w'
  obtain ⟨R, hR⟩ : ∃ R, R = upB (.mk k n s l) := ⟨_, rfl⟩
  obtain ⟨G, hG⟩ : ∃ G, G = rUp (.mk k n s l) := ⟨_, rfl⟩
  rw [← hG]
  have HGG := hide_p hG
  obtain ⟨q, hq⟩ : ∃ q, q = lisV k l.length 2 := ⟨_, rfl⟩
  have hqR : q = false → R = false := by
    intro e
    rw [hR]
    rw [hq] at e
    unfold lisV at e
    unfold upB lisB
    simp only [Bool.and_eq_false_iff, decide_eq_false_iff_not] at e ⊢
    rcases e with e | e
    · simp [e]
    · have : ¬ l.length = 2 := by omega
      simp [this]
  have hqT : q = true → k = 2 ∧ l.length = 2 := by
    intro e
    rw [hq] at e
    unfold lisV at e
    simp only [Bool.and_eq_true, decide_eq_true_eq] at e
    exact ⟨e.1, by omega⟩
  rw [← hq] at HL
  rw [← hR]
  have HR := hide_p hR
  have HM := hide_p (show l.length ≤ cap from h.parts.2.2.2.1)
  unfold cellV
  obtain ⟨w1, hw1⟩ : ∃ w1, w1 = (w.alloc (.cells #[.int .i64 k, .int .u64 n, .string s, .slice a l.length cap] 33)).alloc (.cells #[.bool false, .int .i64 0] 54) := ⟨_, rfl⟩
  have HB1 : Hid (Below w.heap.size w w1) := by show Below _ _ _; rw [hw1]; exact ((Below.refl _ _).alloc (Nat.le_refl _) _).alloc (by simp) _
  have HA1 : Hid (w1.heap[w.heap.size]? = some (.cells #[.int .i64 k, .int .u64 n, .string s, .slice a l.length cap] 33 (0, 0))) := by
    show _ = _
    rw [hw1, Below.heap_alloc _ _ _ (by simp)]
    exact heap_alloc_new _ _
  have HA2 : Hid (w1.heap[w.heap.size + 1]? = some (.cells #[.bool false, .int .i64 0] 54 (0, 0))) := by
    show _ = _
    rw [hw1]
    exact heap_alloc_at _ _ _ (by simp)
  have HS1 : Hid (w1.heap.size = w.heap.size + 2) := by show _ = _; rw [hw1]; simp
  have HZ : Hid (∀ wq, Below w1.heap.size w1 wq → (∀ j, wq.frozen? ⟨w.heap.size + 1, j, none⟩ = false) ∧ wq.heap[w.heap.size + 1]? = some (.cells #[.bool false, .int .i64 0] 54 (0, 0)) ∧ wq.heap[w.heap.size]? = some (.cells #[.int .i64 k, .int .u64 n, .string s, .slice a l.length cap] 33 (0, 0)) ∧ Below w.heap.size w wq) := by
    intro wq hq
    have e2 := (hq.block (w.heap.size + 1) (by have := HS1.out; omega)).trans HA2.out
    exact ⟨fun j => Lib.frozen_of_heap e2 j, e2, (hq.block w.heap.size (by have := HS1.out; omega)).trans HA1.out, HB1.out.trans (hq.mono HB1.out.size)⟩
  have HBAD : Hid (∀ wq, Below w1.heap.size w1 wq → ∀ W, W = ((wq.setCell ⟨w.heap.size + 1, 0, none⟩ (.bool false)).setCell ⟨w.heap.size + 1, 1, none⟩ (.int .i64 0)) → W.heap[w.heap.size + 1]? = some (.cells #[.bool false, .int .i64 0] 54 (0, 0)) ∧ Below w.heap.size w W) := by
    intro wq hq W hW
    obtain ⟨-, e2, -, e4⟩ := HZ.out wq hq
    rw [hW]
    exact ⟨set2_block e2 _ _, set2_below e4 (by omega) _ _⟩
  obtain ⟨x0, x1, x2, x3⟩ := block4 HA1.out
  have hs1 := HS1.out
  clear h hR hq hG
  go_enter Tryd.func50, Tryd.ntmps50
  go_upto_region 1 with fail
  rw [← hw1]
  clear hw1
  go_wp2_with fail
  refine (HL.out _).mono ?_
  rintro e w2 ⟨rfl, hb2⟩
  have HB2 := hide_p hb2
  have hsz2 := hb2.size
  clear x0 x1 x2 x3
  cases q with
  | false =>
    have hR := hqR rfl
    subst hR
    obtain ⟨hfz, e2, -, -⟩ := HZ.out w2 hb2
    obtain ⟨y0', y1'⟩ := block2 e2
    have f0 := hfz 0
    have f1 := hfz 1
    have HE := hide_p (HBAD.out w2 hb2)
    clear hb2 HL HN hfz e2
    go_wp2
    obtain ⟨y1, y2⟩ := HE.out _ rfl
    exact bodyPost_ret (results_cell_tmp rfl _ _ (w.heap.size + 1) _ _ _ _ rfl y1 Tryd.underlying54 rfl szUp) rfl ⟨_, _, rfl, y2, fun e => by cases e⟩
  | true =>
    obtain ⟨rfl, hl⟩ := hqT rfl
    obtain ⟨p0, p1, rfl⟩ : ∃ p0 p1, l = [p0, p1] := tlist2 hl
    obtain ⟨hfz, e2, e3, e4⟩ := HZ.out w2 hb2
    obtain ⟨x0, x1, x2, x3⟩ := block4 e3
    have hn := HN.out w2 e4 rfl
    simp only [List.length_cons, List.length_nil, Nat.zero_add, Nat.reduceAdd] at hn x3
    obtain ⟨A, hA⟩ : ∃ A, A = List.all [p0, p1] numB := ⟨_, rfl⟩
    rw [← hA] at hn
    have HAl := hide_p hA
    clear hb2 HL HN e2 e3 e4 hA hfz hl
    go_wp2_with fail
    refine hn.mono ?_
    rintro e w3 ⟨a', n', c', rfl, hb3, hok⟩
    have hq3 : Below w1.heap.size w1 w3 := HB2.out.trans (hb3.mono hsz2)
    have HB3 := hide_p hq3
    have hsz3 := hb3.size
    obtain ⟨hfz, e2, -, -⟩ := HZ.out w3 hq3
    obtain ⟨y0', y1'⟩ := block2 e2
    have f0 := hfz 0
    have f1 := hfz 1
    have HE := hide_p (HBAD.out w3 hq3)
    have HE3 := hide_p e2
    clear hb3 hn hfz hq3 e2 x0 x1 x2 x3
    cases A with
    | false =>
      have hR : R = false := by rw [HR.out]; unfold upB lisB; rw [← HAl.out]; simp
      subst hR
      clear hok
      go_wp2
      obtain ⟨y1, y2⟩ := HE.out _ rfl
      exact bodyPost_ret (results_cell_tmp rfl _ _ (w.heap.size + 1) _ _ _ _ rfl y1 Tryd.underlying54 rfl szUp) rfl ⟨_, _, rfl, y2, fun e => by cases e⟩
    | true =>
      obtain ⟨g, hg, hg2, hg3⟩ := hok rfl
      injection hg with hg4 hg5 hg6
      subst hg4 hg5 hg6
      have hne : ¬ g = w.heap.size + 1 := by omega
      have hne2 : ¬ w.heap.size + 1 = g := by omega
      have hall := HAl.out.symm
      simp only [List.all_cons, List.all_nil, Bool.and_true, Bool.and_eq_true] at hall
      obtain ⟨hp0, hp1⟩ := hall
      obtain ⟨s0, t0, u0⟩ := sm_num hp0
      obtain ⟨s1, t1, u1⟩ := sm_num hp1
      have c0 : w3.cell? ⟨g, 0, none⟩ = some (.int .i64 p0.n) := hg3 0 (by simp)
      have c1 : w3.cell? ⟨g, 1, none⟩ = some (.int .i64 p1.n) := hg3 1 (by simp)
      have HRR : Hid (R = decide (p0.n ≤ 1)) := by
        show _ = _
        rw [HR.out]
        unfold upB lisB
        rw [← HAl.out]
        simp [atT_mk, s0]
      have HGOT : Hid (((p0.n : Int) == 1) = G.own ∧ (p1.n : Int) = G.pl) := by
        rw [HGG.out]
        constructor
        · simp only [rUp, atT_mk, List.getD_cons_zero, s0]
          rw [Bool.eq_iff_iff]
          simp only [beq_iff_eq, decide_eq_true_eq]
          omega
        · simp only [rUp, atT_mk, List.getD_cons_zero, List.getD_cons_succ, s1]
      have HOK : Hid (∀ W, W = ((w3.setCell ⟨w.heap.size + 1, 0, none⟩ (.bool ((p0.n : Int) == 1))).setCell ⟨w.heap.size + 1, 1, none⟩ (.int .i64 p1.n)) → W.heap[w.heap.size + 1]? = some (.cells #[.bool ((p0.n : Int) == 1), .int .i64 p1.n] 54 (0, 0)) ∧ Below w.heap.size w W) := by
        intro W hW
        rw [hW]
        exact ⟨set2_block HE3.out _ _, set2_below (HB1.out.trans (HB3.out.mono HB1.out.size)) (by omega) _ _⟩
      simp only [List.length_map, List.length_cons, List.length_nil, Nat.zero_add, Nat.reduceAdd]
      clear hg3 s0 t0 s1 t1 hg2
      by_cases c : p0.n ≤ 1
      · have hr : R = true := by rw [HRR.out]; simp [c]
        subst hr
        have c' : ¬ (1 < (p0.n : Int)) := by omega
        go_wp2_with fail
        go_region
        all_goals go_wp2
        all_goals obtain ⟨y1, y2⟩ := HOK.out _ rfl
        all_goals exact bodyPost_ret (results_cell_tmp rfl _ _ (w.heap.size + 1) _ _ _ _ rfl y1 Tryd.underlying54 rfl szUp) rfl ⟨_, _, rfl, y2.drew, fun _ => HGOT.out⟩
      · have hr : R = false := by rw [HRR.out]; simp [c]
        subst hr
        have c' : 1 < (p0.n : Int) := by omega
        go_wp2
        obtain ⟨y1, y2⟩ := HE.out _ rfl
        exact bodyPost_ret (results_cell_tmp rfl _ _ (w.heap.size + 1) _ _ _ _ rfl y1 Tryd.underlying54 rfl szUp) rfl ⟨_, _, rfl, y2, fun e => by cases e⟩


set_option maxHeartbeats 4000000 in
theorem readOrder_any (t : Tr) (v : Value) (w : World) (h : CR w t v) :
    Calls Tryd.prog 52 #[v] w (InsR w (insB t) (rIns t)) := by
  obtain ⟨a, cap, rfl⟩ := h.shape
  obtain ⟨k, n, s, l⟩ := t
  simp only at h ⊢
  have HC := hide_p h
  have HN : Hid (∀ w', Below w.heap.size w w' → l.length = 4 → Calls Tryd.prog 48 #[.slice a l.length cap] w' fun e w'' => ∃ a' n' c', e = .returned (.tuple #[.slice a' n' c', .bool (l.all numB)]) ∧ Below w'.heap.size w' w'' ∧ (l.all numB = true → NumS w'' w'.heap.size (.slice a' n' c') (l.map Tr.n))) :=
    fun w' hb hl => numbers_any l a cap k n s w' (by omega) (HC.out.kept hb (Nat.le_refl _))
  have HL : Hid (∀ w', Calls Tryd.prog 47 #[.agg #[.int .i64 k, .int .u64 n, .string s, .slice a l.length cap], .int .i64 4] w' fun e w'' => e = .returned (.bool (lisV k l.length 4)) ∧ Below w'.heap.size w' w'') := fun w' => isList_any k n s a l.length cap 4 w'
  obtain ⟨R, hR⟩ : ∃ R, R = insB (.mk k n s l) := ⟨_, rfl⟩
  obtain ⟨G, hG⟩ : ∃ G, G = rIns (.mk k n s l) := ⟨_, rfl⟩
  rw [← hG]
  have HGG := hide_p hG
  obtain ⟨q, hq⟩ : ∃ q, q = lisV k l.length 4 := ⟨_, rfl⟩
  have hqR : q = false → R = false := by
    intro e
    rw [hR]
    rw [hq] at e
    unfold lisV at e
    unfold insB lisB
    simp only [Bool.and_eq_false_iff, decide_eq_false_iff_not] at e ⊢
    rcases e with e | e
    · simp [e]
    · have : ¬ l.length = 4 := by omega
      simp [this]
  have hqT : q = true → k = 2 ∧ l.length = 4 := by
    intro e
    rw [hq] at e
    unfold lisV at e
    simp only [Bool.and_eq_true, decide_eq_true_eq] at e
    exact ⟨e.1, by omega⟩
  rw [← hq] at HL
  rw [← hR]
  have HR := hide_p hR
  have HM := hide_p (show l.length ≤ cap from h.parts.2.2.2.1)
  unfold cellV
  obtain ⟨w1, hw1⟩ : ∃ w1, w1 = (w.alloc (.cells #[.int .i64 k, .int .u64 n, .string s, .slice a l.length cap] 33)).alloc (.cells #[.int .i64 0, .int .i64 0, .int .i64 0, .int .i64 0] 58) := ⟨_, rfl⟩
  have HB1 : Hid (Below w.heap.size w w1) := by show Below _ _ _; rw [hw1]; exact ((Below.refl _ _).alloc (Nat.le_refl _) _).alloc (by simp) _
  have HA1 : Hid (w1.heap[w.heap.size]? = some (.cells #[.int .i64 k, .int .u64 n, .string s, .slice a l.length cap] 33 (0, 0))) := by
    show _ = _
    rw [hw1, Below.heap_alloc _ _ _ (by simp)]
    exact heap_alloc_new _ _
  have HA2 : Hid (w1.heap[w.heap.size + 1]? = some (.cells #[.int .i64 0, .int .i64 0, .int .i64 0, .int .i64 0] 58 (0, 0))) := by
    show _ = _
    rw [hw1]
    exact heap_alloc_at _ _ _ (by simp)
  have HS1 : Hid (w1.heap.size = w.heap.size + 2) := by show _ = _; rw [hw1]; simp
  have HZ : Hid (∀ wq, Below w1.heap.size w1 wq → (∀ j, wq.frozen? ⟨w.heap.size + 1, j, none⟩ = false) ∧ wq.heap[w.heap.size + 1]? = some (.cells #[.int .i64 0, .int .i64 0, .int .i64 0, .int .i64 0] 58 (0, 0)) ∧ wq.heap[w.heap.size]? = some (.cells #[.int .i64 k, .int .u64 n, .string s, .slice a l.length cap] 33 (0, 0)) ∧ Below w.heap.size w wq) := by
    intro wq hq
    have e2 := (hq.block (w.heap.size + 1) (by have := HS1.out; omega)).trans HA2.out
    exact ⟨fun j => Lib.frozen_of_heap e2 j, e2, (hq.block w.heap.size (by have := HS1.out; omega)).trans HA1.out, HB1.out.trans (hq.mono HB1.out.size)⟩
  have HBAD : Hid (∀ wq, Below w1.heap.size w1 wq → ∀ W, W = ((((wq.setCell ⟨w.heap.size + 1, 0, none⟩ (.int .i64 0)).setCell ⟨w.heap.size + 1, 1, none⟩ (.int .i64 0)).setCell ⟨w.heap.size + 1, 2, none⟩ (.int .i64 0)).setCell ⟨w.heap.size + 1, 3, none⟩ (.int .i64 0)) → W.heap[w.heap.size + 1]? = some (.cells #[.int .i64 0, .int .i64 0, .int .i64 0, .int .i64 0] 58 (0, 0)) ∧ Below w.heap.size w W) := by
    intro wq hq W hW
    obtain ⟨-, e2, -, e4⟩ := HZ.out wq hq
    rw [hW]
    exact ⟨set4_block e2 _ _ _ _, set4_below e4 (by omega) _ _ _ _⟩
  obtain ⟨x0, x1, x2, x3⟩ := block4 HA1.out
  have hs1 := HS1.out
  clear h hR hq hG
  go_enter Tryd.func52, Tryd.ntmps52
  go_upto_region 1 with fail
  rw [← hw1]
  clear hw1
  go_wp2_with fail
  refine (HL.out _).mono ?_
  rintro e w2 ⟨rfl, hb2⟩
  have HB2 := hide_p hb2
  have hsz2 := hb2.size
  clear x0 x1 x2 x3
  cases q with
  | false =>
    have hR := hqR rfl
    subst hR
    obtain ⟨hfz, e2, -, -⟩ := HZ.out w2 hb2
    obtain ⟨y0', y1', y2', y3'⟩ := block4 e2
    have f0 := hfz 0
    have f1 := hfz 1
    have f2 := hfz 2
    have f3 := hfz 3
    have HE := hide_p (HBAD.out w2 hb2)
    clear hb2 HL HN hfz e2
    go_wp2
    obtain ⟨y1, y2⟩ := HE.out _ rfl
    exact bodyPost_ret (results_cell_tmp rfl _ _ (w.heap.size + 1) _ _ _ _ rfl y1 Tryd.underlying58 rfl szIns) rfl ⟨_, _, _, _, rfl, y2, fun e => by cases e⟩
  | true =>
    obtain ⟨rfl, hl⟩ := hqT rfl
    obtain ⟨p0, p1, p2, p3, rfl⟩ : ∃ p0 p1 p2 p3, l = [p0, p1, p2, p3] := tlist4 hl
    obtain ⟨hfz, e2, e3, e4⟩ := HZ.out w2 hb2
    obtain ⟨x0, x1, x2, x3⟩ := block4 e3
    have hn := HN.out w2 e4 rfl
    simp only [List.length_cons, List.length_nil, Nat.zero_add, Nat.reduceAdd] at hn x3
    obtain ⟨A, hA⟩ : ∃ A, A = List.all [p0, p1, p2, p3] numB := ⟨_, rfl⟩
    rw [← hA] at hn
    have HAl := hide_p hA
    clear hb2 HL HN e2 e3 e4 hA hfz hl
    go_wp2_with fail
    refine hn.mono ?_
    rintro e w3 ⟨a', n', c', rfl, hb3, hok⟩
    have hq3 : Below w1.heap.size w1 w3 := HB2.out.trans (hb3.mono hsz2)
    have HB3 := hide_p hq3
    have hsz3 := hb3.size
    obtain ⟨hfz, e2, -, -⟩ := HZ.out w3 hq3
    obtain ⟨y0', y1', y2', y3'⟩ := block4 e2
    have f0 := hfz 0
    have f1 := hfz 1
    have f2 := hfz 2
    have f3 := hfz 3
    have HE := hide_p (HBAD.out w3 hq3)
    have HE3 := hide_p e2
    clear hb3 hn hfz hq3 e2 x0 x1 x2 x3
    cases A with
    | false =>
      have hR : R = false := by rw [HR.out]; unfold insB lisB; rw [← HAl.out]; simp
      subst hR
      clear hok
      go_wp2
      obtain ⟨y1, y2⟩ := HE.out _ rfl
      exact bodyPost_ret (results_cell_tmp rfl _ _ (w.heap.size + 1) _ _ _ _ rfl y1 Tryd.underlying58 rfl szIns) rfl ⟨_, _, _, _, rfl, y2, fun e => by cases e⟩
    | true =>
      obtain ⟨g, hg, hg2, hg3⟩ := hok rfl
      injection hg with hg4 hg5 hg6
      subst hg4 hg5 hg6
      have hne : ¬ g = w.heap.size + 1 := by omega
      have hne2 : ¬ w.heap.size + 1 = g := by omega
      have hall := HAl.out.symm
      simp only [List.all_cons, List.all_nil, Bool.and_true, Bool.and_eq_true] at hall
      obtain ⟨hp0, hp1, hp2, hp3⟩ := hall
      obtain ⟨s0, t0, u0⟩ := sm_num hp0
      obtain ⟨s1, t1, u1⟩ := sm_num hp1
      obtain ⟨s2, t2, u2⟩ := sm_num hp2
      obtain ⟨s3, t3, u3⟩ := sm_num hp3
      have c0 : w3.cell? ⟨g, 0, none⟩ = some (.int .i64 p0.n) := hg3 0 (by simp)
      have c1 : w3.cell? ⟨g, 1, none⟩ = some (.int .i64 p1.n) := hg3 1 (by simp)
      have c2 : w3.cell? ⟨g, 2, none⟩ = some (.int .i64 p2.n) := hg3 2 (by simp)
      have c3 : w3.cell? ⟨g, 3, none⟩ = some (.int .i64 p3.n) := hg3 3 (by simp)
      have hr : R = true := by
        rw [HR.out]
        unfold insB lisB
        rw [← HAl.out]
        simp
      have HGOT : Hid ((p0.n : Int) = G.op ∧ (p1.n : Int) = G.a ∧ (p2.n : Int) = G.b ∧ (p3.n : Int) = G.c) := by
        rw [HGG.out]
        refine ⟨?_, ?_, ?_, ?_⟩ <;> simp only [rIns, atT_mk, List.getD_cons_zero, List.getD_cons_succ, s0, s1, s2, s3]
      have HOK : Hid (∀ W, W = ((((w3.setCell ⟨w.heap.size + 1, 0, none⟩ (.int .i64 p0.n)).setCell ⟨w.heap.size + 1, 1, none⟩ (.int .i64 p1.n)).setCell ⟨w.heap.size + 1, 2, none⟩ (.int .i64 p2.n)).setCell ⟨w.heap.size + 1, 3, none⟩ (.int .i64 p3.n)) → W.heap[w.heap.size + 1]? = some (.cells #[.int .i64 p0.n, .int .i64 p1.n, .int .i64 p2.n, .int .i64 p3.n] 58 (0, 0)) ∧ Below w.heap.size w W) := by
        intro W hW
        rw [hW]
        exact ⟨set4_block HE3.out _ _ _ _, set4_below (HB1.out.trans (HB3.out.mono HB1.out.size)) (by omega) _ _ _ _⟩
      simp only [List.length_map, List.length_cons, List.length_nil, Nat.zero_add, Nat.reduceAdd]
      clear hg3 s0 t0 s1 t1 s2 t2 s3 t3 hg2 HE
      subst hr
      go_wp2_with fail
      go_region
      all_goals go_wp2
      all_goals obtain ⟨y1, y2⟩ := HOK.out _ rfl
      all_goals exact bodyPost_ret (results_cell_tmp rfl _ _ (w.heap.size + 1) _ _ _ _ rfl y1 Tryd.underlying58 rfl szIns) rfl ⟨_, _, _, _, rfl, y2.drew, fun _ => HGOT.out⟩


end Go.Proofs.YtcblknghkgihcaaDoor
namespace Go.Proofs.YtcblknghkgihcaaDoor
set_option maxRecDepth 100000
open Go.RowKit Crc Pg

theorem lisV_lisB (k : Int) (n : Nat) (s : ByteArray) (l : List Tr) (c : Nat) : lisV k l.length c = lisB (.mk k n s l) c := by
  unfold lisV lisB
  simp only
  congr 1
  rw [Bool.eq_iff_iff]
  simp only [decide_eq_true_eq]
  omega
theorem vlB_cons (k : Int) (n : Nat) (s : ByteArray) (p : Tr) (r : List Tr) : vlB (.mk k n s (p :: r)) = (numB p && (if p.n < 3 then lisB (.mk k n s (p :: r)) 1 else lisB (.mk k n s (p :: r)) 2 && ((decide (p.n = 3) && decide ((r.getD 0 zT).k = 0)) || (decide (p.n = 4) && decide ((r.getD 0 zT).k = 1))))) := rfl
theorem keep5 {w w' : World} {g b : Nat} {u u0 u1 u2 u3 : Value} (h : w.cell? ⟨g, 0, none⟩ = some u ∧ w.cell? ⟨b, 0, none⟩ = some u0 ∧ w.cell? ⟨b, 1, none⟩ = some u1 ∧ w.cell? ⟨b, 2, none⟩ = some u2 ∧ w.cell? ⟨b, 3, none⟩ = some u3) (k : Below w.heap.size w w') :
    w'.cell? ⟨g, 0, none⟩ = some u ∧ w'.cell? ⟨b, 0, none⟩ = some u0 ∧ w'.cell? ⟨b, 1, none⟩ = some u1 ∧ w'.cell? ⟨b, 2, none⟩ = some u2 ∧ w'.cell? ⟨b, 3, none⟩ = some u3 := by
  obtain ⟨h, h0, h1, h2, h3⟩ := h
  exact ⟨cell_kept k (Nat.le_refl _) h, cell_kept k (Nat.le_refl _) h0, cell_kept k (Nat.le_refl _) h1, cell_kept k (Nat.le_refl _) h2, cell_kept k (Nat.le_refl _) h3⟩

set_option maxHeartbeats 4000000 in
theorem readConstant_any (t : Tr) (v : Value) (w : World) (h : CR w t v) :
    Calls Tryd.prog 54 #[v] w (VlR w (vlB t) (rVl t)) := by
  obtain ⟨a, cap, rfl⟩ := h.shape
  obtain ⟨k, n, s, l⟩ := t
  simp only at h ⊢
  have HC := hide_p h
  obtain ⟨R, hR⟩ : ∃ R, R = vlB (.mk k n s l) := ⟨_, rfl⟩
  obtain ⟨G, hG⟩ : ∃ G, G = rVl (.mk k n s l) := ⟨_, rfl⟩
  rw [← hR, ← hG]
  have HR := hide_p hR
  have HGG := hide_p hG
  have hcap := h.parts.2.2.2.1
  have hcap2 := h.parts.2.2.2.2.1
  clear hR hG h
  by_cases hl0 : l = []
  · subst hl0
    have hR : R = false := HR.out
    subst hR
    unfold cellV
    simp only [List.length_nil]
    obtain ⟨w1, hw1⟩ : ∃ w1, w1 = (w.alloc (.cells #[.int .i64 k, .int .u64 n, .string s, .slice a 0 cap] 33)).alloc (.cells #[.int .i64 0, .int .u64 0, .string ⟨#[]⟩, .int .i64 0] 63) := ⟨_, rfl⟩
    have HA1 : w1.heap[w.heap.size]? = some (.cells #[.int .i64 k, .int .u64 n, .string s, .slice a 0 cap] 33 (0, 0)) := by
      rw [hw1, Below.heap_alloc _ _ _ (by simp)]
      exact heap_alloc_new _ _
    have HA2 : w1.heap[w.heap.size + 1]? = some (.cells #[.int .i64 0, .int .u64 0, .string ⟨#[]⟩, .int .i64 0] 63 (0, 0)) := by
      rw [hw1]
      exact heap_alloc_at _ _ _ (by simp)
    have HB1 : Hid (Below w.heap.size w w1) := by show Below _ _ _; rw [hw1]; exact ((Below.refl _ _).alloc (Nat.le_refl _) _).alloc (by simp) _
    obtain ⟨x0, x1, x2, x3⟩ := block4 HA1
    obtain ⟨y0', y1', y2', y3'⟩ := block4 HA2
    have hfz := Lib.frozen_of_heap HA2
    have f0 := hfz 0
    have f1 := hfz 1
    have f2 := hfz 2
    have f3 := hfz 3
    have HE : Hid (∀ W, W = ((((w1.setCell ⟨w.heap.size + 1, 0, none⟩ (.int .i64 0)).setCell ⟨w.heap.size + 1, 1, none⟩ (.int .u64 0)).setCell ⟨w.heap.size + 1, 2, none⟩ (.string ⟨#[]⟩)).setCell ⟨w.heap.size + 1, 3, none⟩ (.int .i64 0)) → W.heap[w.heap.size + 1]? = some (.cells #[.int .i64 0, .int .u64 0, .string ⟨#[]⟩, .int .i64 0] 63 (0, 0)) ∧ Below w.heap.size w W) := by
      intro W hW
      rw [hW]
      exact ⟨set4_block HA2 _ _ _ _, set4_below HB1.out (by omega) _ _ _ _⟩
    clear HA1 HA2 hfz HC HR HGG
    go_enter Tryd.func54, Tryd.ntmps54
    go_upto_region 1 with fail
    rw [← hw1]
    clear hw1
    go_wp2
    obtain ⟨y1, y2⟩ := HE.out _ rfl
    exact bodyPost_ret (results_cell_tmp rfl _ _ (w.heap.size + 1) _ _ _ _ rfl y1 Tryd.underlying63 rfl szVl) rfl ⟨_, _, _, _, rfl, y2, fun e => by cases e⟩
  · obtain ⟨p, r, rfl⟩ : ∃ p r, l = p :: r := by
      cases l with
      | nil => exact absurd rfl hl0
      | cons p r => exact ⟨p, r, rfl⟩
    clear hl0
    obtain ⟨g0, o0, b0, c0, rfl, -, -⟩ := HC.out.get 0 (by simp)
    have HN : Hid (∀ w', Below w.heap.size w w' → Calls Tryd.prog 48 #[.slice (some ⟨g0, o0, none⟩) 1 cap] w' fun e w'' => ∃ a' n' c', e = .returned (.tuple #[.slice a' n' c', .bool (numB p)]) ∧ Below w'.heap.size w' w'' ∧ (numB p = true → NumS w'' w'.heap.size (.slice a' n' c') [p.n])) := by
      intro w' hb
      have hk := HC.out.kept hb (Nat.le_refl _)
      have := numbers_any [p] (some ⟨g0, o0, none⟩) cap k n s w' (by simp) (hk.take 1 (by simp))
      have e1 : [p].all numB = numB p := by simp
      rw [e1] at this
      exact this
    have HL1 : Hid (∀ i (hi : i < (p :: r).length), ∃ b c, Lies w g0 o0 i (p :: r)[i].k (p :: r)[i].n (p :: r)[i].s (.slice b (p :: r)[i].l.length c)) := by
      intro i hi
      obtain ⟨g', o', b', c', e, hl, -⟩ := HC.out.get i hi
      cases e
      exact ⟨b', c', hl⟩
    have hMM := HR.out
    rw [vlB_cons, ← lisV_lisB k n s (p :: r) 1, ← lisV_lisB k n s (p :: r) 2] at hMM
    obtain ⟨M, hM⟩ : ∃ M, M = (p :: r).length := ⟨_, rfl⟩
    rw [← hM] at hMM hcap ⊢
    have HRR := hide_p hMM
    have HMM := hide_p hM
    have hM1 : 1 ≤ M := by rw [hM]; simp
    have hM0 : ¬ (M : Int) = 0 := by omega
    have hc1 : 1 ≤ cap := by omega
    have HL : Hid (∀ (c : Nat) w', Calls Tryd.prog 47 #[.agg #[.int .i64 k, .int .u64 n, .string s, .slice (some ⟨g0, o0, none⟩) M cap], .int .i64 c] w' fun e w'' => e = .returned (.bool (lisV k M c)) ∧ Below w'.heap.size w' w'') := fun c w' => isList_any k n s (some ⟨g0, o0, none⟩) M cap c w'
    unfold cellV
    clear hMM hM
    obtain ⟨w1, hw1⟩ : ∃ w1, w1 = (w.alloc (.cells #[.int .i64 k, .int .u64 n, .string s, .slice (some ⟨g0, o0, none⟩) M cap] 33)).alloc (.cells #[.int .i64 0, .int .u64 0, .string ⟨#[]⟩, .int .i64 0] 63) := ⟨_, rfl⟩
    have HB1 : Hid (Below w.heap.size w w1) := by show Below _ _ _; rw [hw1]; exact ((Below.refl _ _).alloc (Nat.le_refl _) _).alloc (by simp) _
    have HA1 : Hid (w1.heap[w.heap.size]? = some (.cells #[.int .i64 k, .int .u64 n, .string s, .slice (some ⟨g0, o0, none⟩) M cap] 33 (0, 0))) := by
      show _ = _
      rw [hw1, Below.heap_alloc _ _ _ (by simp)]
      exact heap_alloc_new _ _
    have HA2 : Hid (w1.heap[w.heap.size + 1]? = some (.cells #[.int .i64 0, .int .u64 0, .string ⟨#[]⟩, .int .i64 0] 63 (0, 0))) := by
      show _ = _
      rw [hw1]
      exact heap_alloc_at _ _ _ (by simp)
    have HS1 : Hid (w1.heap.size = w.heap.size + 2) := by show _ = _; rw [hw1]; simp
    have HZ : Hid (∀ wq, Below w1.heap.size w1 wq → (∀ j, wq.frozen? ⟨w.heap.size + 1, j, none⟩ = false) ∧ wq.heap[w.heap.size + 1]? = some (.cells #[.int .i64 0, .int .u64 0, .string ⟨#[]⟩, .int .i64 0] 63 (0, 0)) ∧ wq.heap[w.heap.size]? = some (.cells #[.int .i64 k, .int .u64 n, .string s, .slice (some ⟨g0, o0, none⟩) M cap] 33 (0, 0)) ∧ Below w.heap.size w wq) := by
      intro wq hq
      have e2 := (hq.block (w.heap.size + 1) (by have := HS1.out; omega)).trans HA2.out
      exact ⟨fun j => Lib.frozen_of_heap e2 j, e2, (hq.block w.heap.size (by have := HS1.out; omega)).trans HA1.out, HB1.out.trans (hq.mono HB1.out.size)⟩
    have HBAD : Hid (∀ wq, Below w1.heap.size w1 wq → ∀ W, W = ((((wq.setCell ⟨w.heap.size + 1, 0, none⟩ (.int .i64 0)).setCell ⟨w.heap.size + 1, 1, none⟩ (.int .u64 0)).setCell ⟨w.heap.size + 1, 2, none⟩ (.string ⟨#[]⟩)).setCell ⟨w.heap.size + 1, 3, none⟩ (.int .i64 0)) → W.heap[w.heap.size + 1]? = some (.cells #[.int .i64 0, .int .u64 0, .string ⟨#[]⟩, .int .i64 0] 63 (0, 0)) ∧ Below w.heap.size w W) := by
      intro wq hq W hW
      obtain ⟨-, e2, -, e4⟩ := HZ.out wq hq
      rw [hW]
      exact ⟨set4_block e2 _ _ _ _, set4_below e4 (by omega) _ _ _ _⟩
    obtain ⟨x0, x1, x2, x3⟩ := block4 HA1.out
    have hs1 := HS1.out
    have hn := HN.out w1 HB1.out
    obtain ⟨A, hA⟩ : ∃ A, A = numB p := ⟨_, rfl⟩
    rw [← hA] at hn
    have HAl := hide_p hA
    clear hA
    go_enter Tryd.func54, Tryd.ntmps54
    go_upto_region 1 with fail
    rw [← hw1]
    clear hw1
    go_wp2_with fail
    refine hn.mono ?_
    rintro e w3 ⟨a', n', c', rfl, hb3, hok⟩
    have hqw3 : Below w1.heap.size w1 w3 := hb3
    have hsz3 := hb3.size
    clear hn hb3 x0 x1 x2 x3
    cases A with
    | false =>
      have hR : R = false := by rw [HRR.out, ← HAl.out]; rfl
      subst hR
      clear hok
      obtain ⟨hfz, e2, -, -⟩ := HZ.out w3 hqw3
      obtain ⟨y0', y1', y2', y3'⟩ := block4 e2
      have f0 := hfz 0
      have f1 := hfz 1
      have f2 := hfz 2
      have f3 := hfz 3
      have HE := hide_p (HBAD.out w3 hqw3)
      clear hfz e2
      go_wp2
      obtain ⟨y1, y2⟩ := HE.out _ rfl
      exact bodyPost_ret (results_cell_tmp rfl _ _ (w.heap.size + 1) _ _ _ _ rfl y1 Tryd.underlying63 rfl szVl) rfl ⟨_, _, _, _, rfl, y2, fun e => by cases e⟩
    | true =>
      obtain ⟨hp1, hp2, hp3⟩ := sm_num HAl.out.symm
      obtain ⟨g, hg, hg2, hg3⟩ := hok rfl
      injection hg with hg4 hg5 hg6
      subst hg4 hg5 hg6
      simp only [List.length_cons, List.length_nil, Nat.zero_add]
      have d0 : w3.cell? ⟨g, 0, none⟩ = some (.int .i64 p.n) := hg3 0 (by simp)
      have hne : ¬ g = w.heap.size + 1 := by omega
      have hne2 : ¬ w.heap.size + 1 = g := by omega
      have hne3 : ¬ g = w.heap.size := by omega
      have hRR : Hid (R = (if p.n < 3 then lisV k M 1 else lisV k M 2 && ((decide (p.n = 3) && decide ((r.getD 0 zT).k = 0)) || (decide (p.n = 4) && decide ((r.getD 0 zT).k = 1))))) := by
        show _ = _
        rw [HRR.out, ← HAl.out]
        rfl
      have HK : Hid (lisV k M 2 = true → k = 2 ∧ ∃ q, r = [q]) := by
        intro e
        unfold lisV at e
        simp only [Bool.and_eq_true, decide_eq_true_eq] at e
        have h2 := HMM.out
        refine ⟨e.1, ?_⟩
        cases r with
        | nil => simp at h2; omega
        | cons q r =>
          cases r with
          | nil => exact ⟨q, rfl⟩
          | cons q' r => simp at h2; omega
      have HG0 : Hid (k = 2 → smT (atT (.mk k n s (p :: r)) 0) = p.n) := by intro e; subst e; rw [atT_mk, List.getD_cons_zero, hp1]
      clear hok hg3 hp1 hp2 HRR hg2 HR
      obtain ⟨-, -, e3, -⟩ := HZ.out w3 hqw3
      obtain ⟨x0, x1, x2, x3⟩ := block4 e3
      clear e3
      by_cases c3 : p.n < 3
      · have c3i : (p.n : Int) < 3 := by omega
        obtain ⟨hfz, e2, -, e4⟩ := HZ.out w3 hqw3
        obtain ⟨y0', y1', y2', y3'⟩ := block4 e2
        have f0 := hfz 0
        have f1 := hfz 1
        have f2 := hfz 2
        have f3 := hfz 3
        have hl := HL.out 1
        rw [show ((1 : Nat) : Int) = 1 from rfl] at hl
        have hr2 : R = lisV k M 1 := by rw [hRR.out, if_pos c3]
        rw [← hr2] at hl
        have HLL := hide_p hl
        have HGOT : Hid (R = true → (p.n : Int) = G.k ∧ (0 : Int) = G.n ∧ (⟨#[]⟩ : ByteArray) = G.s ∧ (0 : Int) = G.o) := by
          intro e
          rw [hr2] at e
          unfold lisV at e
          simp only [Bool.and_eq_true, decide_eq_true_eq] at e
          rw [HGG.out]
          have e0 := HG0.out e.1
          simp only [rVl, e0]
          rw [if_neg (by omega), if_neg (by omega)]
          refine ⟨?_, ?_, ?_, ?_⟩ <;> first | trivial | rfl
        have HQ : Hid (∀ w4, Below w3.heap.size w3 w4 → (w4.frozen? ⟨w.heap.size + 1, 0, none⟩ = false ∧ w4.frozen? ⟨w.heap.size + 1, 1, none⟩ = false ∧ w4.frozen? ⟨w.heap.size + 1, 2, none⟩ = false ∧ w4.frozen? ⟨w.heap.size + 1, 3, none⟩ = false) ∧ (w4.cell? ⟨w.heap.size + 1, 0, none⟩ = some (.int .i64 0) ∧ w4.cell? ⟨w.heap.size + 1, 1, none⟩ = some (.int .u64 0) ∧ w4.cell? ⟨w.heap.size + 1, 2, none⟩ = some (.string ⟨#[]⟩) ∧ w4.cell? ⟨w.heap.size + 1, 3, none⟩ = some (.int .i64 0)) ∧ ∀ W, W = ((((w4.setCell ⟨w.heap.size + 1, 0, none⟩ (.int .i64 p.n)).setCell ⟨w.heap.size + 1, 1, none⟩ (.int .u64 0)).setCell ⟨w.heap.size + 1, 2, none⟩ (.string ⟨#[]⟩)).setCell ⟨w.heap.size + 1, 3, none⟩ (.int .i64 0)) → W.heap[w.heap.size + 1]? = some (.cells #[.int .i64 p.n, .int .u64 0, .string ⟨#[]⟩, .int .i64 0] 63 (0, 0)) ∧ Below w.heap.size w W) := by
          intro w4 h4
          obtain ⟨hfz, e2, -, e4⟩ := HZ.out w4 (hqw3.trans (h4.mono hsz3))
          refine ⟨⟨hfz 0, hfz 1, hfz 2, hfz 3⟩, block4 e2, fun W hW => ?_⟩
          rw [hW]
          exact ⟨set4_block e2 _ _ _ _, set4_below e4 (by omega) _ _ _ _⟩
        clear hfz e2 e4 hr2 hRR HK HG0 HN HL HL1 HZ HBAD HC HGG hl
        go_wp2_with fail
        have hq0 : Below w3.heap.size w3 w3.drew := (Below.refl _ _).drew
        go_region_held3 (fun w' => w'.cell? ⟨g, 0, none⟩ = some (.int .i64 p.n) ∧ w'.cell? ⟨w.heap.size, 0, none⟩ = some (.int .i64 k) ∧ w'.cell? ⟨w.heap.size, 1, none⟩ = some (.int .u64 n) ∧ w'.cell? ⟨w.heap.size, 2, none⟩ = some (.string s) ∧ w'.cell? ⟨w.heap.size, 3, none⟩ = some (.slice (some ⟨g0, o0, none⟩) M cap))
          (first
            | exact keep5 (by assumption) hbS
            | go_keep)
          (first
            | (go_at_call 47; refine (HLL.out _).mono ?_; rintro e w4 ⟨rfl, hbS⟩; have hq4 := hq0.trans (hbS.mono hq0.size); obtain ⟨⟨f40, f41, f42, f43⟩, ⟨y40, y41, y42, y43⟩, hw4⟩ := HQ.out w4 hq4))
        all_goals go_wp2
        all_goals obtain ⟨y1, y2⟩ := hw4 _ rfl
        all_goals exact bodyPost_ret (results_cell_tmp rfl _ _ (w.heap.size + 1) _ _ _ _ rfl y1 Tryd.underlying63 rfl szVl) rfl ⟨_, _, _, _, rfl, y2, HGOT.out⟩
      · have c3i : ¬ (p.n : Int) < 3 := by omega
        rw [if_neg c3] at hRR
        by_cases e3 : p.n = 3
        · have e3i : (p.n : Int) = 3 := by omega
          have hl := HL.out 2 w3
          rw [show ((2 : Nat) : Int) = 2 from rfl] at hl
          obtain ⟨q, hq⟩ : ∃ q, q = lisV k M 2 := ⟨_, rfl⟩
          rw [← hq] at hl hRR HK
          rw [e3i] at d0
          clear hq
          go_wp2_with fail
          refine hl.mono ?_
          rintro e w4 ⟨rfl, hb4⟩
          have hqw4 : Below w1.heap.size w1 w4 := hqw3.trans (hb4.mono hsz3)
          have d0' : w4.cell? ⟨g, 0, none⟩ = some (.int .i64 3) := cell_kept hb4 (Nat.le_refl _) d0
          obtain ⟨-, -, x3', -⟩ := HZ.out w4 hqw4
          obtain ⟨z0, z1, z2, z3⟩ := block4 x3'
          clear hl hb4 x3' x0 x1 x2 x3 d0
          cases q with
          | false =>
            have hR : R = false := by rw [hRR.out]; rfl
            subst hR
            obtain ⟨hfz, e2, -, -⟩ := HZ.out w4 hqw4
            obtain ⟨y0', y1', y2', y3'⟩ := block4 e2
            have f0 := hfz 0
            have f1 := hfz 1
            have f2 := hfz 2
            have f3 := hfz 3
            have HE := hide_p (HBAD.out w4 hqw4)
            clear hfz e2
            go_wp2
            obtain ⟨y1, y2⟩ := HE.out _ rfl
            exact bodyPost_ret (results_cell_tmp rfl _ _ (w.heap.size + 1) _ _ _ _ rfl y1 Tryd.underlying63 rfl szVl) rfl ⟨_, _, _, _, rfl, y2, fun e => by cases e⟩
          | true =>
            obtain ⟨rfl, q, rfl⟩ := HK.out rfl
            obtain ⟨b1, c1, hl1⟩ := HL1.out 1 (by simp)
            obtain ⟨-, -, -, hw4⟩ := HZ.out w4 hqw4
            obtain ⟨l0, l1, l2, l3⟩ := hl1.below hw4 (Nat.le_refl _)
            simp only [Nat.one_mul, List.getElem_cons_succ, List.getElem_cons_zero] at l0 l1 l2 l3
            have hM2 : M = 2 := HMM.out
            subst hM2
            clear hl1 hw4
            have HG0 := HG0.out rfl
            simp only [List.getD_cons_zero, e3] at hRR
            have HGOT : Hid ((3 : Int) = G.k ∧ (q.n : Int) = G.n ∧ (⟨#[]⟩ : ByteArray) = G.s ∧ (0 : Int) = G.o) := by
              show _ ∧ _
              rw [HGG.out]
              simp only [rVl, HG0, e3]
              simp [atT_mk, nob]
            clear HG0 HGG HL1 HC HK
            generalize q.k = qk at *
            generalize q.n = qn at *
            generalize q.s = qs at *
            generalize q.l.length = ql at *
            by_cases ck : qk = 0
            · have hR : R = true := by rw [hRR.out]; simp [ck]
              subst hR ck
              obtain ⟨hfz, e2, -, e4⟩ := HZ.out w4 hqw4
              obtain ⟨y0', y1', y2', y3'⟩ := block4 e2
              have f0 := hfz 0
              have f1 := hfz 1
              have f2 := hfz 2
              have f3 := hfz 3
              have HE : Hid (∀ W, W = ((((w4.setCell ⟨w.heap.size + 1, 0, none⟩ (.int .i64 3)).setCell ⟨w.heap.size + 1, 1, none⟩ (.int .u64 qn)).setCell ⟨w.heap.size + 1, 2, none⟩ (.string ⟨#[]⟩)).setCell ⟨w.heap.size + 1, 3, none⟩ (.int .i64 0)) → W.heap[w.heap.size + 1]? = some (.cells #[.int .i64 3, .int .u64 qn, .string ⟨#[]⟩, .int .i64 0] 63 (0, 0)) ∧ Below w.heap.size w W) := by
                intro W hW
                rw [hW]
                exact ⟨set4_block e2 _ _ _ _, set4_below e4 (by omega) _ _ _ _⟩
              clear hfz e2 e4
              go_wp2
              obtain ⟨y1, y2⟩ := HE.out _ rfl
              exact bodyPost_ret (results_cell_tmp rfl _ _ (w.heap.size + 1) _ _ _ _ rfl y1 Tryd.underlying63 rfl szVl) rfl ⟨_, _, _, _, rfl, y2, fun _ => HGOT.out⟩
            · have hR : R = false := by rw [hRR.out]; simp [ck]
              subst hR
              obtain ⟨hfz, e2, -, -⟩ := HZ.out w4 hqw4
              obtain ⟨y0', y1', y2', y3'⟩ := block4 e2
              have f0 := hfz 0
              have f1 := hfz 1
              have f2 := hfz 2
              have f3 := hfz 3
              have HE := hide_p (HBAD.out w4 hqw4)
              clear hfz e2
              go_wp2
              obtain ⟨y1, y2⟩ := HE.out _ rfl
              exact bodyPost_ret (results_cell_tmp rfl _ _ (w.heap.size + 1) _ _ _ _ rfl y1 Tryd.underlying63 rfl szVl) rfl ⟨_, _, _, _, rfl, y2, fun e => by cases e⟩
        · have e3i : ¬ (p.n : Int) = 3 := by omega
          have e3b : ((p.n : Int) == 3) = false := by simpa using e3i
          by_cases e4 : p.n = 4
          · have e4i : (p.n : Int) = 4 := by omega
            have hl := HL.out 2 w3
            rw [show ((2 : Nat) : Int) = 2 from rfl] at hl
            obtain ⟨q, hq⟩ : ∃ q, q = lisV k M 2 := ⟨_, rfl⟩
            rw [← hq] at hl hRR HK
            rw [e4i] at d0
            clear hq e3i e3b c3i
            go_wp2_with fail
            refine hl.mono ?_
            rintro e w4 ⟨rfl, hb4⟩
            have hqw4 : Below w1.heap.size w1 w4 := hqw3.trans (hb4.mono hsz3)
            have d0' : w4.cell? ⟨g, 0, none⟩ = some (.int .i64 4) := cell_kept hb4 (Nat.le_refl _) d0
            obtain ⟨-, -, x3', -⟩ := HZ.out w4 hqw4
            obtain ⟨z0, z1, z2, z3⟩ := block4 x3'
            clear hl hb4 x3' x0 x1 x2 x3 d0
            cases q with
            | false =>
              have hR : R = false := by rw [hRR.out]; rfl
              subst hR
              obtain ⟨hfz, e2, -, -⟩ := HZ.out w4 hqw4
              obtain ⟨y0', y1', y2', y3'⟩ := block4 e2
              have f0 := hfz 0
              have f1 := hfz 1
              have f2 := hfz 2
              have f3 := hfz 3
              have HE := hide_p (HBAD.out w4 hqw4)
              clear hfz e2
              go_wp2
              obtain ⟨y1, y2⟩ := HE.out _ rfl
              exact bodyPost_ret (results_cell_tmp rfl _ _ (w.heap.size + 1) _ _ _ _ rfl y1 Tryd.underlying63 rfl szVl) rfl ⟨_, _, _, _, rfl, y2, fun e => by cases e⟩
            | true =>
              obtain ⟨rfl, q, rfl⟩ := HK.out rfl
              obtain ⟨b1, c1, hl1⟩ := HL1.out 1 (by simp)
              obtain ⟨-, -, -, hw4⟩ := HZ.out w4 hqw4
              obtain ⟨l0, l1, l2, l3⟩ := hl1.below hw4 (Nat.le_refl _)
              simp only [Nat.one_mul, List.getElem_cons_succ, List.getElem_cons_zero] at l0 l1 l2 l3
              have hM2 : M = 2 := HMM.out
              subst hM2
              clear hl1 hw4
              have HG0 := HG0.out rfl
              simp only [List.getD_cons_zero, e4] at hRR
              have HGOT : Hid ((4 : Int) = G.k ∧ (0 : Int) = G.n ∧ q.s = G.s ∧ (0 : Int) = G.o) := by
                show _ ∧ _
                rw [HGG.out]
                simp only [rVl, HG0, e4]
                simp [atT_mk]
              clear HG0 HGG HL1 HC HK
              generalize q.k = qk at *
              generalize q.n = qn at *
              generalize q.s = qs at *
              generalize q.l.length = ql at *
              by_cases ck : qk = 1
              · have hR : R = true := by rw [hRR.out]; simp [ck]
                subst hR ck
                obtain ⟨hfz, e2, -, e4⟩ := HZ.out w4 hqw4
                obtain ⟨y0', y1', y2', y3'⟩ := block4 e2
                have f0 := hfz 0
                have f1 := hfz 1
                have f2 := hfz 2
                have f3 := hfz 3
                have HE : Hid (∀ W, W = ((((w4.setCell ⟨w.heap.size + 1, 0, none⟩ (.int .i64 4)).setCell ⟨w.heap.size + 1, 1, none⟩ (.int .u64 0)).setCell ⟨w.heap.size + 1, 2, none⟩ (.string qs)).setCell ⟨w.heap.size + 1, 3, none⟩ (.int .i64 0)) → W.heap[w.heap.size + 1]? = some (.cells #[.int .i64 4, .int .u64 0, .string qs, .int .i64 0] 63 (0, 0)) ∧ Below w.heap.size w W) := by
                  intro W hW
                  rw [hW]
                  exact ⟨set4_block e2 _ _ _ _, set4_below e4 (by omega) _ _ _ _⟩
                clear hfz e2 e4
                go_wp2
                obtain ⟨y1, y2⟩ := HE.out _ rfl
                exact bodyPost_ret (results_cell_tmp rfl _ _ (w.heap.size + 1) _ _ _ _ rfl y1 Tryd.underlying63 rfl szVl) rfl ⟨_, _, _, _, rfl, y2, fun _ => HGOT.out⟩
              · have hR : R = false := by rw [hRR.out]; simp [ck]
                subst hR
                obtain ⟨hfz, e2, -, -⟩ := HZ.out w4 hqw4
                obtain ⟨y0', y1', y2', y3'⟩ := block4 e2
                have f0 := hfz 0
                have f1 := hfz 1
                have f2 := hfz 2
                have f3 := hfz 3
                have HE := hide_p (HBAD.out w4 hqw4)
                clear hfz e2
                go_wp2
                obtain ⟨y1, y2⟩ := HE.out _ rfl
                exact bodyPost_ret (results_cell_tmp rfl _ _ (w.heap.size + 1) _ _ _ _ rfl y1 Tryd.underlying63 rfl szVl) rfl ⟨_, _, _, _, rfl, y2, fun e => by cases e⟩
          · have e4i : ¬ (p.n : Int) = 4 := by omega
            have e4b : ((p.n : Int) == 4) = false := by simpa using e4i
            have hR : R = false := by rw [hRR.out]; simp [e3, e4]
            subst hR
            obtain ⟨hfz, e2, -, -⟩ := HZ.out w3 hqw3
            obtain ⟨y0', y1', y2', y3'⟩ := block4 e2
            have f0 := hfz 0
            have f1 := hfz 1
            have f2 := hfz 2
            have f3 := hfz 3
            have HE := hide_p (HBAD.out w3 hqw3)
            clear hfz e2
            go_wp2
            obtain ⟨y1, y2⟩ := HE.out _ rfl
            exact bodyPost_ret (results_cell_tmp rfl _ _ (w.heap.size + 1) _ _ _ _ rfl y1 Tryd.underlying63 rfl szVl) rfl ⟨_, _, _, _, rfl, y2, fun e => by cases e⟩

end Go.Proofs.YtcblknghkgihcaaDoor
namespace Go.Proofs.YtcblknghkgihcaaDoor
set_option maxRecDepth 100000
open Go.RowKit Crc Pg

theorem infoUp2 : (Tryd.prog.info? 54).map (fun i => (i.zero, i.size, i.bytes)) = some (some (.agg #[.bool false, .int .i64 0]), 2, 16) := by kernel_rfl
theorem infoIns2 : (Tryd.prog.info? 58).map (fun i => (i.zero, i.size, i.bytes)) = some (some (.agg #[.int .i64 0, .int .i64 0, .int .i64 0, .int .i64 0]), 4, 32) := by kernel_rfl
theorem infoVl2 : (Tryd.prog.info? 63).map (fun i => (i.zero, i.size, i.bytes)) = some (some (.agg #[.int .i64 0, .int .u64 0, .string ⟨#[]⟩, .int .i64 0]), 4, 40) := by kernel_rfl
theorem rUp_ok (x : Tr) : (rUp x).ok := by have := sm_le (atT x 1); unfold Upp.ok i64 rUp; simp only; omega
theorem rIns_ok (x : Tr) : (rIns x).ok := by
  have h0 := sm_le (atT x 0)
  have h1 := sm_le (atT x 1)
  have h2 := sm_le (atT x 2)
  have h3 := sm_le (atT x 3)
  unfold Ins.ok i64 rIns
  simp only
  omega
theorem fill_eq {xs : List Value} {n z : Nat} {c : Nat → Nat → Value} (hz : 0 < z) (hl : xs.length = n * z) (h : ∀ j, j < n → ∀ r, r < z → xs[j * z + r]? = some (c j r)) : xs = cellsF n z c := by
  apply List.ext_getElem?
  intro k
  by_cases hk : k < n * z
  · rw [cellsF_get hk]
    have h1 := h (k / z) (Nat.div_lt_of_lt_mul (by rw [Nat.mul_comm]; exact hk)) (k % z) (Nat.mod_lt _ hz)
    rw [show k / z * z + k % z = k by rw [Nat.mul_comm]; exact Nat.div_add_mod k z] at h1
    exact h1
  · rw [List.getElem?_eq_none (by omega), List.getElem?_eq_none (by rw [cellsF_length]; omega)]
/-- The first i parts of a row that was made with zeros are laid. -/
def Fil (w : World) (B T z g n i : Nat) (c : Nat → Nat → Value) : Prop := ∃ xs, w.ownsRow B T z (.slice (some ⟨g, 0, none⟩) n n) n xs ∧ ∀ j, j < i → ∀ r, r < z → xs[j * z + r]? = some (c j r)
theorem Fil.sl {w : World} {B T z g n : Nat} {c : Nat → Nat → Value} {F : Nat → Nat → Value → Prop} (h : Fil w B T z g n n c) (hz : 0 < z) (hn : n ≤ far) (hF : ∀ i j, i < n → j < z → F i j (c i j)) : SL w (.slice (some ⟨g, 0, none⟩) n n) n z F := by
  obtain ⟨xs, h1, h2⟩ := h
  have e := fill_eq (c := c) hz h1.1 h2
  subst e
  exact SL.of_owns h1 hn hF
theorem Fil.far {w w' : World} {B T z g n i : Nat} {c : Nat → Nat → Value} (h : Fil w B T z g n i c) (hb : w'.heap[g]? = w.heap[g]?) : Fil w' B T z g n i c := by
  obtain ⟨xs, h1, h2⟩ := h
  exact ⟨xs, ownsRow_far h1 hb rfl, h2⟩
theorem Fil.put2 {w : World} {B T g n i : Nat} {c : Nat → Nat → Value} (h : Fil w B T 2 g n i c) (hi : i < n) (v0 v1 : Value) (e0 : c i 0 = v0) (e1 : c i 1 = v1) :
    Fil ((w.setCell ⟨g, i * 2, none⟩ v0).setCell ⟨g, i * 2 + 1, none⟩ v1) B T 2 g n (i + 1) c := by
  obtain ⟨xs, h1, h2⟩ := h
  have hl := h1.1
  refine ⟨_, ((h1.stored (i * 2) v0).1.stored (i * 2 + 1) v1).1, fun j hj r hr => ?_⟩
  by_cases e : j = i
  · subst e
    simp only [List.getElem?_set, List.length_set]
    match r, hr with
    | 0, _ => rw [if_neg (by omega), if_pos (by omega), if_pos (by omega), e0]
    | 1, _ => rw [if_pos (by omega), if_pos (by omega), e1]
  · simp only [List.getElem?_set, List.length_set]
    repeat rw [if_neg (by omega)]
    exact h2 j (by omega) r hr
theorem Fil.put4 {w : World} {B T g n i : Nat} {c : Nat → Nat → Value} (h : Fil w B T 4 g n i c) (hi : i < n) (v0 v1 v2 v3 : Value) (e0 : c i 0 = v0) (e1 : c i 1 = v1) (e2 : c i 2 = v2) (e3 : c i 3 = v3) :
    Fil ((((w.setCell ⟨g, i * 4, none⟩ v0).setCell ⟨g, i * 4 + 1, none⟩ v1).setCell ⟨g, i * 4 + 2, none⟩ v2).setCell ⟨g, i * 4 + 3, none⟩ v3) B T 4 g n (i + 1) c := by
  obtain ⟨xs, h1, h2⟩ := h
  have hl := h1.1
  refine ⟨_, ((((h1.stored (i * 4) v0).1.stored (i * 4 + 1) v1).1.stored (i * 4 + 2) v2).1.stored (i * 4 + 3) v3).1, fun j hj r hr => ?_⟩
  by_cases e : j = i
  · subst e
    simp only [List.getElem?_set, List.length_set]
    match r, hr with
    | 0, _ => rw [if_neg (by omega), if_neg (by omega), if_neg (by omega), if_pos (by omega), if_pos (by omega), e0]
    | 1, _ => rw [if_neg (by omega), if_neg (by omega), if_pos (by omega), if_pos (by omega), e1]
    | 2, _ => rw [if_neg (by omega), if_pos (by omega), if_pos (by omega), e2]
    | 3, _ => rw [if_pos (by omega), if_pos (by omega), e3]
  · simp only [List.getElem?_set, List.length_set]
    repeat rw [if_neg (by omega)]
    exact h2 j (by omega) r hr
theorem Fil.at {w : World} {B T z g n i : Nat} {c : Nat → Nat → Value} (h : Fil w B T z g n i c) (j : Nat) (hj : j < n * z) : w.frozen? ⟨g, j, none⟩ = false ∧ ∃ u, w.cell? ⟨g, j, none⟩ = some u := by
  obtain ⟨xs, h1, h2⟩ := h
  refine ⟨h1.frozenAt j, xs[j]'(by have := h1.1; omega), ?_⟩
  rw [h1.cellAt j hj]
  exact List.getElem?_eq_getElem (by have := h1.1; omega)


set_option maxHeartbeats 4000000 in
theorem listU_any (t : Tr) (v : Value) (w : World) (h : CR w t v) (hlen : t.l.length ≤ 1000000) :
    Calls Tryd.prog 49 #[v, .func (.func 50) #[] #[]] w fun e w' => ∃ a' n' c', e = .returned (.tuple #[.slice a' n' c', .bool (allB upB t)]) ∧ Below w.heap.size w w' ∧ (allB upB t = true → SU w' (.slice a' n' c') (t.l.map rUp) ∧ InB (fun k => w.heap.size ≤ k) (.slice a' n' c')) := by
  obtain ⟨i0, hi0, hz0, hz1, hz2⟩ := info_parts infoUp2
  obtain ⟨a, cap, rfl⟩ := h.shape
  obtain ⟨k, n, s, l⟩ := t
  simp only at h hlen ⊢
  have HG := hide_p (fun i hi => h.get i hi)
  have hcap := h.parts.2.2.2.1
  have hcap2 := h.parts.2.2.2.2.1
  have HX : Hid (∀ w' x u, CR w' x u → Calls Tryd.prog 50 #[u] w' (UpR w' (upB x) (rUp x))) := fun w' x u hx => readUp_any x u w' hx
  obtain ⟨N, hN⟩ : ∃ N, N = l.length := ⟨_, rfl⟩
  have HN := hide_p hN
  obtain ⟨R, hR⟩ : ∃ R, R = allB upB (.mk k n s l) := ⟨_, rfl⟩
  rw [← hR, ← hN]
  rw [← hN] at hlen hcap
  have HR := hide_p hR
  have HB0 := hide_p (fun o : Obj => (Below.refl w.heap.size w).alloc (Nat.le_refl _) o)
  clear h hN hR
  unfold cellV
  by_cases hk : k = 2
  · subst hk
    have HR2 : Hid (R = l.all upB) := by show _ = _; rw [HR.out]; unfold allB; simp
    clear HR
    obtain ⟨w1, hw1⟩ : ∃ w1, w1 = w.alloc (.cells #[.int .i64 2, .int .u64 n, .string s, .slice a N cap] 33) := ⟨_, rfl⟩
    have HB1 : Hid (Below w.heap.size w w1) := by show Below _ _ _; rw [hw1]; exact HB0.out _
    have HA1 : Hid (w1.heap[w.heap.size]? = some (.cells #[.int .i64 2, .int .u64 n, .string s, .slice a N cap] 33 (0, 0))) := by show _ = _; rw [hw1]; exact heap_alloc_new _ _
    have hs1 : w1.heap.size = w.heap.size + 1 := by rw [hw1]; simp
    obtain ⟨x0, x1, x2, x3⟩ := block4 HA1.out
    have HM : Hid (∀ w2, Fil w2 (w.heap.size + 1) 54 2 (w.heap.size + 1) N 0 (uppC (l.map rUp)) → w1.grownBy w2 none → Fil w2 (w.heap.size + 1) 54 2 (w.heap.size + 1) N 0 (uppC (l.map rUp)) ∧ Below (w.heap.size + 1) w1 w2 ∧ w2.heap[w.heap.size]? = some (.cells #[.int .i64 2, .int .u64 n, .string s, .slice a N cap] 33 (0, 0))) := by
      intro w2 q1 q2
      have hb : Below (w.heap.size + 1) w1 w2 := (Below.refl _ w1).grown q2 (by omega) (fun k hk => by cases hk)
      exact ⟨q1, hb, (hb.block _ (by omega)).trans HA1.out⟩
    go_enter Tryd.func49, Tryd.ntmps49
    go_upto_region 1 with fail
    rw [← hw1]
    clear hw1
    go_wp2_with (at_make; refine wpList_make_full _ rfl _ _ 22 rfl (w.heap.size + 1) 54 i0 _ 2 Tryd.underlying22 hi0 hz0 hz1 .i64 .i64 _ _ N rfl rfl rfl rfl (by rw [hz2]; omega) (by unfold maxLen; omega) (by omega) ?_)
    intro w2 q1 q2
    obtain ⟨q3, q4, q5⟩ := HM.out w2 ⟨_, q1, fun j h => absurd h (Nat.not_lt_zero _)⟩ q2
    have HF2 := hide_p q3
    have HB2 := hide_p q4
    obtain ⟨x0', x1', x2', x3'⟩ := block4 q5
    clear x0 x1 x2 x3 q1 q2 q3 q4 q5 HM
    go_wp2_with fail
    go_loopw [21] (fun t21 wr => ∃ i : Nat, i ≤ N ∧ t21 = .int .i64 i ∧ Hid (Fil wr (w.heap.size + 1) 54 2 (w.heap.size + 1) N i (uppC (l.map rUp))) ∧ Hid ((l.take i).all upB = true) ∧ Hid (Below (w.heap.size + 1) w1 wr)) (fun t21 _ => N - (intOf t21).toNat)
    case atStart => exact ⟨0, Nat.zero_le _, rfl, HF2, rfl, HB2⟩
    case round =>
      obtain ⟨i, hi, rfl, HF, HA, HB⟩ := hrel
      have HBw : Hid (Below w.heap.size w wr) := HB1.out.trans (HB.out.mono (by omega))
      clear x0' x1' x2' x3' HF2 HB2
      by_cases c : i < N
      · have i1 : i < l.length := by rw [← HN.out]; exact c
        obtain ⟨g, o, b, cc, rfl, hlies, hcr⟩ := HG.out i i1
        obtain ⟨l0, l1, l2, l3⟩ := hlies.below HBw.out (Nat.le_refl _)
        have HTK : Hid ((l.take (i + 1)).all upB = (upB l[i])) := by
          show _ = _
          rw [List.take_succ_eq_append_getElem i1, List.all_append, HA.out]
          simp
        have HFF : Hid (upB l[i] = false → R = false) := by
          intro hf
          rw [HR2.out, List.all_eq_false]
          exact ⟨l[i], List.getElem_mem i1, by simp [hf]⟩
        have hcl := HX.out (wr.alloc (.cells #[.int .i64 l[i].k, .int .u64 l[i].n, .string l[i].s, .slice b l[i].l.length cc] 33)) l[i] _ (hcr.kept (HBw.out.alloc HBw.out.size _) (Nat.le_refl _))
        unfold cellV at hcl
        obtain ⟨G, hG⟩ : ∃ G, G = rUp l[i] := ⟨_, rfl⟩
        have HGG := hide_p hG
        rw [← hG] at hcl
        obtain ⟨O, hO⟩ : ∃ O, O = upB l[i] := ⟨_, rfl⟩
        rw [← hO] at hcl HTK HFF
        have HBR : Hid (∀ ob wq, Below (wr.alloc ob).heap.size (wr.alloc ob) wq → Below wr.heap.size wr wq) := fun ob wq hq => ((Below.refl _ wr).alloc (Nat.le_refl _) ob).trans (hq.mono (by simp))
        clear hcr hG hO
        generalize l[i].n = n1 at *
        generalize l[i].k = k1 at *
        generalize l[i].s = s1 at *
        generalize l[i].l.length = m1 at *
        have hl0 := l0
        go_wp2_with fail
        refine hcl.mono ?_
        rintro e w5 ⟨b, z, rfl, hb5, hgot⟩
        have HB5r := hide_p (HBR.out _ _ hb5)
        have HB5 : Hid (Below w.heap.size w w5) := HBw.out.trans (HB5r.out.mono HBw.out.size)
        have HF5 : Hid (Fil w5 (w.heap.size + 1) 54 2 (w.heap.size + 1) N i (uppC (l.map rUp))) := HF.out.far (HB5r.out.block _ (by have := HB.out.size; obtain ⟨xs, h1, -⟩ := HF.out; exact (h1.lt _ rfl).2))
        have hs5 : w.heap.size + 1 < w5.heap.size := by obtain ⟨xs, h1, -⟩ := HF5.out; exact (h1.lt _ rfl).2
        clear hcl hb5 l0 l1 l2 l3 hl0
        cases O with
        | false =>
          have hR := HFF.out rfl
          subst hR
          clear hgot HFF HTK
          go_wp2
          go_ret2
          exact ⟨_, _, _, rfl, HB5.out.alloc HB5.out.size _, fun e => by cases e⟩
        | true =>
          have hgot : Hid (b = G.own ∧ z = G.pl) := hgot rfl
          have HST : Hid (∀ W : World, W = (((w5.setCell ⟨w.heap.size + 1, i * 2, none⟩ (.bool b)).setCell ⟨w.heap.size + 1, i * 2 + 1, none⟩ (.int .i64 z)).alloc (.cells #[.bool b, .int .i64 z] 54)) → Fil W (w.heap.size + 1) 54 2 (w.heap.size + 1) N (i + 1) (uppC (l.map rUp)) ∧ Below (w.heap.size + 1) w1 W) := by
            intro W hW
            have e0 : uppC (l.map rUp) i 0 = .bool b := by rw [hgot.out.1, HGG.out]; unfold uppC; rw [List.getElem?_map, List.getElem?_eq_getElem i1]; rfl
            have e1 : uppC (l.map rUp) i 1 = .int .i64 z := by rw [hgot.out.2, HGG.out]; unfold uppC; rw [List.getElem?_map, List.getElem?_eq_getElem i1]; rfl
            have hw := HF5.out.put2 c (.bool b) (.int .i64 z) e0 e1
            have hB : Below (w.heap.size + 1) w1 w5 := HB.out.trans (HB5r.out.mono (by have := HB.out.size; omega))
            rw [hW]
            exact ⟨hw.far (Below.heap_alloc _ _ _ (by simp only [World.size_setCell]; exact hs5)), (((hB.setCell (Nat.le_refl _) _).setCell (Nat.le_refl _) _).alloc (by simp only [World.size_setCell]; have := HB5.out.size; omega) _)⟩
          obtain ⟨f0, u0, c0⟩   := HF5.out.at (i * 2) (by omega)
          obtain ⟨f1, u1, c1⟩   := HF5.out.at (i * 2 + 1) (by omega)
          have hzz : w5.heap.size ≠ w.heap.size + 1 := by omega
          go_wp2
          obtain ⟨y1, y2⟩ := HST.out _ rfl
          go_roundw
          case rel => exact ⟨i + 1, by omega, by go_num, y1, HTK, y2⟩
          case measure => simp [intOf]; omega
      · have e : i = N := by omega
        have hA := HA.out
        rw [List.take_of_length_le (by have := HN.out; omega), ← HR2.out] at hA
        have HS : Hid (SU wr (.slice (some ⟨w.heap.size + 1, 0, none⟩) N N) (l.map rUp) ∧ InB (fun k => w.heap.size ≤ k) (.slice (some ⟨w.heap.size + 1, 0, none⟩) N N)) := by
          have hF := HF.out
          rw [e] at hF
          refine ⟨⟨?_, fun x hx => ?_⟩, fun a m c he _ => ?_⟩
          · rw [List.length_map, ← HN.out]
            exact hF.sl (by decide) (by unfold far; omega) (fun i j hi _ => uppC_F j (by rw [List.length_map, ← HN.out]; exact hi))
          · obtain ⟨y, hy, rfl⟩ := List.mem_map.1 hx
            exact rUp_ok y
          · cases he
            exact Nat.le_succ _
        have HBw2 := HBw
        subst e hA
        clear HF HA
        go_wp2
        go_ret2
        first | exact ⟨_, _, _, rfl, HBw2.out, fun _ => HS.out⟩ | exact ⟨_, _, _, rfl, HBw2.out, HS.out⟩
  · have hR : R = false := by rw [HR.out]; unfold allB; simp [hk]
    subst hR
    go_enter Tryd.func49, Tryd.ntmps49
    go_wp2
    go_ret2
    exact ⟨_, _, _, rfl, HB0.out _, fun e => by cases e⟩


set_option maxHeartbeats 4000000 in
theorem listI_any (t : Tr) (v : Value) (w : World) (h : CR w t v) (hlen : t.l.length ≤ 1000000) :
    Calls Tryd.prog 51 #[v, .func (.func 52) #[] #[]] w fun e w' => ∃ a' n' c', e = .returned (.tuple #[.slice a' n' c', .bool (allB insB t)]) ∧ Below w.heap.size w w' ∧ (allB insB t = true → SI w' (.slice a' n' c') (t.l.map rIns) ∧ InB (fun k => w.heap.size ≤ k) (.slice a' n' c')) := by
  obtain ⟨i0, hi0, hz0, hz1, hz2⟩ := info_parts infoIns2
  obtain ⟨a, cap, rfl⟩ := h.shape
  obtain ⟨k, n, s, l⟩ := t
  simp only at h hlen ⊢
  have HG := hide_p (fun i hi => h.get i hi)
  have hcap := h.parts.2.2.2.1
  have hcap2 := h.parts.2.2.2.2.1
  have HX : Hid (∀ w' x u, CR w' x u → Calls Tryd.prog 52 #[u] w' (InsR w' (insB x) (rIns x))) := fun w' x u hx => readOrder_any x u w' hx
  obtain ⟨N, hN⟩ : ∃ N, N = l.length := ⟨_, rfl⟩
  have HN := hide_p hN
  obtain ⟨R, hR⟩ : ∃ R, R = allB insB (.mk k n s l) := ⟨_, rfl⟩
  rw [← hR, ← hN]
  rw [← hN] at hlen hcap
  have HR := hide_p hR
  have HB0 := hide_p (fun o : Obj => (Below.refl w.heap.size w).alloc (Nat.le_refl _) o)
  clear h hN hR
  unfold cellV
  by_cases hk : k = 2
  · subst hk
    have HR2 : Hid (R = l.all insB) := by show _ = _; rw [HR.out]; unfold allB; simp
    clear HR
    obtain ⟨w1, hw1⟩ : ∃ w1, w1 = w.alloc (.cells #[.int .i64 2, .int .u64 n, .string s, .slice a N cap] 33) := ⟨_, rfl⟩
    have HB1 : Hid (Below w.heap.size w w1) := by show Below _ _ _; rw [hw1]; exact HB0.out _
    have HA1 : Hid (w1.heap[w.heap.size]? = some (.cells #[.int .i64 2, .int .u64 n, .string s, .slice a N cap] 33 (0, 0))) := by show _ = _; rw [hw1]; exact heap_alloc_new _ _
    have hs1 : w1.heap.size = w.heap.size + 1 := by rw [hw1]; simp
    obtain ⟨x0, x1, x2, x3⟩ := block4 HA1.out
    have HM : Hid (∀ w2, Fil w2 (w.heap.size + 1) 58 4 (w.heap.size + 1) N 0 (insC (l.map rIns)) → w1.grownBy w2 none → Fil w2 (w.heap.size + 1) 58 4 (w.heap.size + 1) N 0 (insC (l.map rIns)) ∧ Below (w.heap.size + 1) w1 w2 ∧ w2.heap[w.heap.size]? = some (.cells #[.int .i64 2, .int .u64 n, .string s, .slice a N cap] 33 (0, 0))) := by
      intro w2 q1 q2
      have hb : Below (w.heap.size + 1) w1 w2 := (Below.refl _ w1).grown q2 (by omega) (fun k hk => by cases hk)
      exact ⟨q1, hb, (hb.block _ (by omega)).trans HA1.out⟩
    go_enter Tryd.func51, Tryd.ntmps51
    go_upto_region 1 with fail
    rw [← hw1]
    clear hw1
    go_wp2_with (at_make; refine wpList_make_full _ rfl _ _ 23 rfl (w.heap.size + 1) 58 i0 _ 4 Tryd.underlying23 hi0 hz0 hz1 .i64 .i64 _ _ N rfl rfl rfl rfl (by rw [hz2]; omega) (by unfold maxLen; omega) (by omega) ?_)
    intro w2 q1 q2
    obtain ⟨q3, q4, q5⟩ := HM.out w2 ⟨_, q1, fun j h => absurd h (Nat.not_lt_zero _)⟩ q2
    have HF2 := hide_p q3
    have HB2 := hide_p q4
    obtain ⟨x0', x1', x2', x3'⟩ := block4 q5
    clear x0 x1 x2 x3 q1 q2 q3 q4 q5 HM
    go_wp2_with fail
    go_loopw [21] (fun t21 wr => ∃ i : Nat, i ≤ N ∧ t21 = .int .i64 i ∧ Hid (Fil wr (w.heap.size + 1) 58 4 (w.heap.size + 1) N i (insC (l.map rIns))) ∧ Hid ((l.take i).all insB = true) ∧ Hid (Below (w.heap.size + 1) w1 wr)) (fun t21 _ => N - (intOf t21).toNat)
    case atStart => exact ⟨0, Nat.zero_le _, rfl, HF2, rfl, HB2⟩
    case round =>
      obtain ⟨i, hi, rfl, HF, HA, HB⟩ := hrel
      have HBw : Hid (Below w.heap.size w wr) := HB1.out.trans (HB.out.mono (by omega))
      clear x0' x1' x2' x3' HF2 HB2
      by_cases c : i < N
      · have i1 : i < l.length := by rw [← HN.out]; exact c
        obtain ⟨g, o, b, cc, rfl, hlies, hcr⟩ := HG.out i i1
        obtain ⟨l0, l1, l2, l3⟩ := hlies.below HBw.out (Nat.le_refl _)
        have HTK : Hid ((l.take (i + 1)).all insB = (insB l[i])) := by
          show _ = _
          rw [List.take_succ_eq_append_getElem i1, List.all_append, HA.out]
          simp
        have HFF : Hid (insB l[i] = false → R = false) := by
          intro hf
          rw [HR2.out, List.all_eq_false]
          exact ⟨l[i], List.getElem_mem i1, by simp [hf]⟩
        have hcl := HX.out (wr.alloc (.cells #[.int .i64 l[i].k, .int .u64 l[i].n, .string l[i].s, .slice b l[i].l.length cc] 33)) l[i] _ (hcr.kept (HBw.out.alloc HBw.out.size _) (Nat.le_refl _))
        unfold cellV at hcl
        obtain ⟨G, hG⟩ : ∃ G, G = rIns l[i] := ⟨_, rfl⟩
        have HGG := hide_p hG
        rw [← hG] at hcl
        obtain ⟨O, hO⟩ : ∃ O, O = insB l[i] := ⟨_, rfl⟩
        rw [← hO] at hcl HTK HFF
        have HBR : Hid (∀ ob wq, Below (wr.alloc ob).heap.size (wr.alloc ob) wq → Below wr.heap.size wr wq) := fun ob wq hq => ((Below.refl _ wr).alloc (Nat.le_refl _) ob).trans (hq.mono (by simp))
        clear hcr hG hO
        generalize l[i].n = n1 at *
        generalize l[i].k = k1 at *
        generalize l[i].s = s1 at *
        generalize l[i].l.length = m1 at *
        have hl0 := l0
        go_wp2_with fail
        refine hcl.mono ?_
        rintro e w5 ⟨z0, z1, z2, z3, rfl, hb5, hgot⟩
        have HB5r := hide_p (HBR.out _ _ hb5)
        have HB5 : Hid (Below w.heap.size w w5) := HBw.out.trans (HB5r.out.mono HBw.out.size)
        have HF5 : Hid (Fil w5 (w.heap.size + 1) 58 4 (w.heap.size + 1) N i (insC (l.map rIns))) := HF.out.far (HB5r.out.block _ (by have := HB.out.size; obtain ⟨xs, h1, -⟩ := HF.out; exact (h1.lt _ rfl).2))
        have hs5 : w.heap.size + 1 < w5.heap.size := by obtain ⟨xs, h1, -⟩ := HF5.out; exact (h1.lt _ rfl).2
        clear hcl hb5 l0 l1 l2 l3 hl0
        cases O with
        | false =>
          have hR := HFF.out rfl
          subst hR
          clear hgot HFF HTK
          go_wp2
          go_ret2
          exact ⟨_, _, _, rfl, HB5.out.alloc HB5.out.size _, fun e => by cases e⟩
        | true =>
          have hgot : Hid (z0 = G.op ∧ z1 = G.a ∧ z2 = G.b ∧ z3 = G.c) := hgot rfl
          have HST : Hid (∀ W : World, W = (((((w5.setCell ⟨w.heap.size + 1, i * 4, none⟩ (.int .i64 z0)).setCell ⟨w.heap.size + 1, i * 4 + 1, none⟩ (.int .i64 z1)).setCell ⟨w.heap.size + 1, i * 4 + 2, none⟩ (.int .i64 z2)).setCell ⟨w.heap.size + 1, i * 4 + 3, none⟩ (.int .i64 z3)).alloc (.cells #[.int .i64 z0, .int .i64 z1, .int .i64 z2, .int .i64 z3] 58)) → Fil W (w.heap.size + 1) 58 4 (w.heap.size + 1) N (i + 1) (insC (l.map rIns)) ∧ Below (w.heap.size + 1) w1 W) := by
            intro W hW
            have e0 : insC (l.map rIns) i 0 = .int .i64 z0 := by rw [hgot.out.1, HGG.out]; unfold insC; rw [List.getElem?_map, List.getElem?_eq_getElem i1]; rfl
            have e1 : insC (l.map rIns) i 1 = .int .i64 z1 := by rw [hgot.out.2.1, HGG.out]; unfold insC; rw [List.getElem?_map, List.getElem?_eq_getElem i1]; rfl
            have e2 : insC (l.map rIns) i 2 = .int .i64 z2 := by rw [hgot.out.2.2.1, HGG.out]; unfold insC; rw [List.getElem?_map, List.getElem?_eq_getElem i1]; rfl
            have e3 : insC (l.map rIns) i 3 = .int .i64 z3 := by rw [hgot.out.2.2.2, HGG.out]; unfold insC; rw [List.getElem?_map, List.getElem?_eq_getElem i1]; rfl
            have hw := HF5.out.put4 c (.int .i64 z0) (.int .i64 z1) (.int .i64 z2) (.int .i64 z3) e0 e1 e2 e3
            have hB : Below (w.heap.size + 1) w1 w5 := HB.out.trans (HB5r.out.mono (by have := HB.out.size; omega))
            rw [hW]
            exact ⟨hw.far (Below.heap_alloc _ _ _ (by simp only [World.size_setCell]; exact hs5)), (((((hB.setCell (Nat.le_refl _) _).setCell (Nat.le_refl _) _).setCell (Nat.le_refl _) _).setCell (Nat.le_refl _) _).alloc (by simp only [World.size_setCell]; have := HB5.out.size; omega) _)⟩
          obtain ⟨f0, u0, c0⟩   := HF5.out.at (i * 4) (by omega)
          obtain ⟨f1, u1, c1⟩   := HF5.out.at (i * 4 + 1) (by omega)
          obtain ⟨f2, u2, c2⟩   := HF5.out.at (i * 4 + 2) (by omega)
          obtain ⟨f3, u3, c3⟩   := HF5.out.at (i * 4 + 3) (by omega)
          have hzz : w5.heap.size ≠ w.heap.size + 1 := by omega
          go_wp2
          obtain ⟨y1, y2⟩ := HST.out _ rfl
          go_roundw
          case rel => exact ⟨i + 1, by omega, by go_num, y1, HTK, y2⟩
          case measure => simp [intOf]; omega
      · have e : i = N := by omega
        have hA := HA.out
        rw [List.take_of_length_le (by have := HN.out; omega), ← HR2.out] at hA
        have HS : Hid (SI wr (.slice (some ⟨w.heap.size + 1, 0, none⟩) N N) (l.map rIns) ∧ InB (fun k => w.heap.size ≤ k) (.slice (some ⟨w.heap.size + 1, 0, none⟩) N N)) := by
          have hF := HF.out
          rw [e] at hF
          refine ⟨⟨?_, fun x hx => ?_⟩, fun a m c he _ => ?_⟩
          · rw [List.length_map, ← HN.out]
            exact hF.sl (by decide) (by unfold far; omega) (fun i j hi _ => insC_F j (by rw [List.length_map, ← HN.out]; exact hi))
          · obtain ⟨y, hy, rfl⟩ := List.mem_map.1 hx
            exact rIns_ok y
          · cases he
            exact Nat.le_succ _
        have HBw2 := HBw
        subst e hA
        clear HF HA
        go_wp2
        go_ret2
        first | exact ⟨_, _, _, rfl, HBw2.out, fun _ => HS.out⟩ | exact ⟨_, _, _, rfl, HBw2.out, HS.out⟩
  · have hR : R = false := by rw [HR.out]; unfold allB; simp [hk]
    subst hR
    go_enter Tryd.func51, Tryd.ntmps51
    go_wp2
    go_ret2
    exact ⟨_, _, _, rfl, HB0.out _, fun e => by cases e⟩


end Go.Proofs.YtcblknghkgihcaaDoor
namespace Go.Proofs.YtcblknghkgihcaaDoor
set_option maxRecDepth 100000
open Go.RowKit Crc Pg

/-- No text is longer than what can come in. -/
def Stx : Tr → Prop
  | .mk _ _ s ts => s.size ≤ 281474976710656 ∧ ∀ t ∈ ts, Stx t
theorem Stx_mk (k : Int) (n : Nat) (s : ByteArray) (ts : List Tr) : Stx (.mk k n s ts) = (s.size ≤ 281474976710656 ∧ ∀ t ∈ ts, Stx t) := by rw [Stx]
theorem Stx.kid {t x : Tr} (h : Stx t) (hx : x ∈ t.l) : Stx x := by
  obtain ⟨k, n, s, ts⟩ := t
  rw [Stx_mk] at h
  exact h.2 x hx
theorem Stx.z : Stx zT := by
  unfold zT
  rw [Stx_mk]
  exact ⟨by decide, fun t h => by cases h⟩
theorem Stx.at {t : Tr} (h : Stx t) (i : Nat) : Stx (atT t i) := by
  unfold atT
  split
  · rw [List.getD_eq_getElem?_getD]
    by_cases hi : i < t.l.length
    · rw [List.getElem?_eq_getElem hi]
      exact h.kid (List.getElem_mem hi)
    · rw [List.getElem?_eq_none (by omega)]
      exact Stx.z
  · exact Stx.z
theorem Stx.many {t x : Tr} (h : Stx t) (hx : x ∈ manyL t) : Stx x := by
  unfold manyL at hx
  split at hx
  · exact h.kid hx
  · cases hx
theorem Stx.s {t : Tr} (h : Stx t) : t.s.size ≤ 281474976710656 := by
  obtain ⟨k, n, s, ts⟩ := t
  rw [Stx_mk] at h
  exact h.1
def Ntx : Tr → Prop
  | .mk _ n _ ts => n < 18446744073709551616 ∧ ∀ t ∈ ts, Ntx t
theorem Ntx_mk (k : Int) (n : Nat) (s : ByteArray) (ts : List Tr) : Ntx (.mk k n s ts) = (n < 18446744073709551616 ∧ ∀ t ∈ ts, Ntx t) := by rw [Ntx]
theorem CR.ntx {w : World} {t : Tr} {v : Value} (h : CR w t v) : Ntx t := by
  induction h using CR.ind with
  | mk k n s ts a cap ks ns ss us hk hn hs hl hc h0 hx hr ih =>
    rw [Ntx_mk]
    refine ⟨hn, fun t ht => ?_⟩
    obtain ⟨i, hi, rfl⟩ := List.getElem_of_mem ht
    exact ih i hi
theorem Ntx.kid {t x : Tr} (h : Ntx t) (hx : x ∈ t.l) : Ntx x := by
  obtain ⟨k, n, s, ts⟩ := t
  rw [Ntx_mk] at h
  exact h.2 x hx
theorem Ntx.n {t : Tr} (h : Ntx t) : t.n < 18446744073709551616 := by
  obtain ⟨k, n, s, ts⟩ := t
  rw [Ntx_mk] at h
  exact h.1
theorem Ntx.at {t : Tr} (h : Ntx t) (i : Nat) : Ntx (atT t i) := by
  have hz : Ntx zT := by unfold zT; rw [Ntx_mk]; exact ⟨by decide, fun t h => by cases h⟩
  unfold atT
  split
  · rw [List.getD_eq_getElem?_getD]
    by_cases hi : i < t.l.length
    · rw [List.getElem?_eq_getElem hi]
      exact h.kid (List.getElem_mem hi)
    · rw [List.getElem?_eq_none (by omega)]
      exact hz
  · exact hz
theorem rVl_ok (x : Tr) (h : Stx x) (h2 : Ntx x) : (rVl x).ok := by
  have h0 := sm_le (atT x 0)
  have h1 := (h.at 1).s
  have h3 := (h2.at 1).n
  unfold Vl.ok i64 rVl
  simp only
  refine ⟨by omega, ?_, ?_, by decide⟩
  · split <;> omega
  · unfold far
    split
    · omega
    · exact Nat.zero_le _


set_option maxHeartbeats 4000000 in
theorem listV_any (t : Tr) (v : Value) (w : World) (h : CR w t v) (hst : Stx t) (hlen : t.l.length ≤ 1000000) :
    Calls Tryd.prog 53 #[v, .func (.func 54) #[] #[]] w fun e w' => ∃ a' n' c', e = .returned (.tuple #[.slice a' n' c', .bool (allB vlB t)]) ∧ Below w.heap.size w w' ∧ (allB vlB t = true → SV w' (.slice a' n' c') (t.l.map rVl) ∧ InB (fun k => w.heap.size ≤ k) (.slice a' n' c')) := by
  obtain ⟨i0, hi0, hz0, hz1, hz2⟩ := info_parts infoVl2
  obtain ⟨a, cap, rfl⟩ := h.shape
  obtain ⟨k, n, s, l⟩ := t
  simp only at h hlen ⊢
  have HSX := hide_p hst
  have HNX := hide_p h.ntx
  have HG := hide_p (fun i hi => h.get i hi)
  have hcap := h.parts.2.2.2.1
  have hcap2 := h.parts.2.2.2.2.1
  have HX : Hid (∀ w' x u, CR w' x u → Calls Tryd.prog 54 #[u] w' (VlR w' (vlB x) (rVl x))) := fun w' x u hx => readConstant_any x u w' hx
  obtain ⟨N, hN⟩ : ∃ N, N = l.length := ⟨_, rfl⟩
  have HN := hide_p hN
  obtain ⟨R, hR⟩ : ∃ R, R = allB vlB (.mk k n s l) := ⟨_, rfl⟩
  rw [← hR, ← hN]
  rw [← hN] at hlen hcap
  have HR := hide_p hR
  have HB0 := hide_p (fun o : Obj => (Below.refl w.heap.size w).alloc (Nat.le_refl _) o)
  clear h hst hN hR
  unfold cellV
  by_cases hk : k = 2
  · subst hk
    have HR2 : Hid (R = l.all vlB) := by show _ = _; rw [HR.out]; unfold allB; simp
    clear HR
    obtain ⟨w1, hw1⟩ : ∃ w1, w1 = w.alloc (.cells #[.int .i64 2, .int .u64 n, .string s, .slice a N cap] 33) := ⟨_, rfl⟩
    have HB1 : Hid (Below w.heap.size w w1) := by show Below _ _ _; rw [hw1]; exact HB0.out _
    have HA1 : Hid (w1.heap[w.heap.size]? = some (.cells #[.int .i64 2, .int .u64 n, .string s, .slice a N cap] 33 (0, 0))) := by show _ = _; rw [hw1]; exact heap_alloc_new _ _
    have hs1 : w1.heap.size = w.heap.size + 1 := by rw [hw1]; simp
    obtain ⟨x0, x1, x2, x3⟩ := block4 HA1.out
    have HM : Hid (∀ w2, Fil w2 (w.heap.size + 1) 63 4 (w.heap.size + 1) N 0 (vlC (l.map rVl)) → w1.grownBy w2 none → Fil w2 (w.heap.size + 1) 63 4 (w.heap.size + 1) N 0 (vlC (l.map rVl)) ∧ Below (w.heap.size + 1) w1 w2 ∧ w2.heap[w.heap.size]? = some (.cells #[.int .i64 2, .int .u64 n, .string s, .slice a N cap] 33 (0, 0))) := by
      intro w2 q1 q2
      have hb : Below (w.heap.size + 1) w1 w2 := (Below.refl _ w1).grown q2 (by omega) (fun k hk => by cases hk)
      exact ⟨q1, hb, (hb.block _ (by omega)).trans HA1.out⟩
    go_enter Tryd.func53, Tryd.ntmps53
    go_upto_region 1 with fail
    rw [← hw1]
    clear hw1
    go_wp2_with (at_make; refine wpList_make_full _ rfl _ _ 24 rfl (w.heap.size + 1) 63 i0 _ 4 Tryd.underlying24 hi0 hz0 hz1 .i64 .i64 _ _ N rfl rfl rfl rfl (by rw [hz2]; omega) (by unfold maxLen; omega) (by omega) ?_)
    intro w2 q1 q2
    obtain ⟨q3, q4, q5⟩ := HM.out w2 ⟨_, q1, fun j h => absurd h (Nat.not_lt_zero _)⟩ q2
    have HF2 := hide_p q3
    have HB2 := hide_p q4
    obtain ⟨x0', x1', x2', x3'⟩ := block4 q5
    clear x0 x1 x2 x3 q1 q2 q3 q4 q5 HM
    go_wp2_with fail
    go_loopw [21] (fun t21 wr => ∃ i : Nat, i ≤ N ∧ t21 = .int .i64 i ∧ Hid (Fil wr (w.heap.size + 1) 63 4 (w.heap.size + 1) N i (vlC (l.map rVl))) ∧ Hid ((l.take i).all vlB = true) ∧ Hid (Below (w.heap.size + 1) w1 wr)) (fun t21 _ => N - (intOf t21).toNat)
    case atStart => exact ⟨0, Nat.zero_le _, rfl, HF2, rfl, HB2⟩
    case round =>
      obtain ⟨i, hi, rfl, HF, HA, HB⟩ := hrel
      have HBw : Hid (Below w.heap.size w wr) := HB1.out.trans (HB.out.mono (by omega))
      clear x0' x1' x2' x3' HF2 HB2
      by_cases c : i < N
      · have i1 : i < l.length := by rw [← HN.out]; exact c
        obtain ⟨g, o, b, cc, rfl, hlies, hcr⟩ := HG.out i i1
        obtain ⟨l0, l1, l2, l3⟩ := hlies.below HBw.out (Nat.le_refl _)
        have HTK : Hid ((l.take (i + 1)).all vlB = (vlB l[i])) := by
          show _ = _
          rw [List.take_succ_eq_append_getElem i1, List.all_append, HA.out]
          simp
        have HFF : Hid (vlB l[i] = false → R = false) := by
          intro hf
          rw [HR2.out, List.all_eq_false]
          exact ⟨l[i], List.getElem_mem i1, by simp [hf]⟩
        have hcl := HX.out (wr.alloc (.cells #[.int .i64 l[i].k, .int .u64 l[i].n, .string l[i].s, .slice b l[i].l.length cc] 33)) l[i] _ (hcr.kept (HBw.out.alloc HBw.out.size _) (Nat.le_refl _))
        unfold cellV at hcl
        obtain ⟨G, hG⟩ : ∃ G, G = rVl l[i] := ⟨_, rfl⟩
        have HGG := hide_p hG
        rw [← hG] at hcl
        obtain ⟨O, hO⟩ : ∃ O, O = vlB l[i] := ⟨_, rfl⟩
        rw [← hO] at hcl HTK HFF
        have HBR : Hid (∀ ob wq, Below (wr.alloc ob).heap.size (wr.alloc ob) wq → Below wr.heap.size wr wq) := fun ob wq hq => ((Below.refl _ wr).alloc (Nat.le_refl _) ob).trans (hq.mono (by simp))
        clear hcr hG hO
        generalize l[i].n = n1 at *
        generalize l[i].k = k1 at *
        generalize l[i].s = s1 at *
        generalize l[i].l.length = m1 at *
        have hl0 := l0
        go_wp2_with fail
        refine hcl.mono ?_
        rintro e w5 ⟨z0, z1, s9, z3, rfl, hb5, hgot⟩
        have HB5r := hide_p (HBR.out _ _ hb5)
        have HB5 : Hid (Below w.heap.size w w5) := HBw.out.trans (HB5r.out.mono HBw.out.size)
        have HF5 : Hid (Fil w5 (w.heap.size + 1) 63 4 (w.heap.size + 1) N i (vlC (l.map rVl))) := HF.out.far (HB5r.out.block _ (by have := HB.out.size; obtain ⟨xs, h1, -⟩ := HF.out; exact (h1.lt _ rfl).2))
        have hs5 : w.heap.size + 1 < w5.heap.size := by obtain ⟨xs, h1, -⟩ := HF5.out; exact (h1.lt _ rfl).2
        clear hcl hb5 l0 l1 l2 l3 hl0
        cases O with
        | false =>
          have hR := HFF.out rfl
          subst hR
          clear hgot HFF HTK
          go_wp2
          go_ret2
          exact ⟨_, _, _, rfl, HB5.out.alloc HB5.out.size _, fun e => by cases e⟩
        | true =>
          have hgot : Hid (z0 = G.k ∧ z1 = G.n ∧ s9 = G.s ∧ z3 = G.o) := hgot rfl
          have HST : Hid (∀ W : World, W = (((((w5.setCell ⟨w.heap.size + 1, i * 4, none⟩ (.int .i64 z0)).setCell ⟨w.heap.size + 1, i * 4 + 1, none⟩ (.int .u64 z1)).setCell ⟨w.heap.size + 1, i * 4 + 2, none⟩ (.string s9)).setCell ⟨w.heap.size + 1, i * 4 + 3, none⟩ (.int .i64 z3)).alloc (.cells #[.int .i64 z0, .int .u64 z1, .string s9, .int .i64 z3] 63)) → Fil W (w.heap.size + 1) 63 4 (w.heap.size + 1) N (i + 1) (vlC (l.map rVl)) ∧ Below (w.heap.size + 1) w1 W) := by
            intro W hW
            have e0 : vlC (l.map rVl) i 0 = .int .i64 z0 := by rw [hgot.out.1, HGG.out]; unfold vlC; rw [List.getElem?_map, List.getElem?_eq_getElem i1]; rfl
            have e1 : vlC (l.map rVl) i 1 = .int .u64 z1 := by rw [hgot.out.2.1, HGG.out]; unfold vlC; rw [List.getElem?_map, List.getElem?_eq_getElem i1]; rfl
            have e2 : vlC (l.map rVl) i 2 = .string s9 := by rw [hgot.out.2.2.1, HGG.out]; unfold vlC; rw [List.getElem?_map, List.getElem?_eq_getElem i1]; rfl
            have e3 : vlC (l.map rVl) i 3 = .int .i64 z3 := by rw [hgot.out.2.2.2, HGG.out]; unfold vlC; rw [List.getElem?_map, List.getElem?_eq_getElem i1]; rfl
            have hw := HF5.out.put4 c (.int .i64 z0) (.int .u64 z1) (.string s9) (.int .i64 z3) e0 e1 e2 e3
            have hB : Below (w.heap.size + 1) w1 w5 := HB.out.trans (HB5r.out.mono (by have := HB.out.size; omega))
            rw [hW]
            exact ⟨hw.far (Below.heap_alloc _ _ _ (by simp only [World.size_setCell]; exact hs5)), (((((hB.setCell (Nat.le_refl _) _).setCell (Nat.le_refl _) _).setCell (Nat.le_refl _) _).setCell (Nat.le_refl _) _).alloc (by simp only [World.size_setCell]; have := HB5.out.size; omega) _)⟩
          obtain ⟨f0, u0, c0⟩   := HF5.out.at (i * 4) (by omega)
          obtain ⟨f1, u1, c1⟩   := HF5.out.at (i * 4 + 1) (by omega)
          obtain ⟨f2, u2, c2⟩   := HF5.out.at (i * 4 + 2) (by omega)
          obtain ⟨f3, u3, c3⟩   := HF5.out.at (i * 4 + 3) (by omega)
          have hzz : w5.heap.size ≠ w.heap.size + 1 := by omega
          go_wp2
          obtain ⟨y1, y2⟩ := HST.out _ rfl
          go_roundw
          case rel => exact ⟨i + 1, by omega, by go_num, y1, HTK, y2⟩
          case measure => simp [intOf]; omega
      · have e : i = N := by omega
        have hA := HA.out
        rw [List.take_of_length_le (by have := HN.out; omega), ← HR2.out] at hA
        have HS : Hid (SV wr (.slice (some ⟨w.heap.size + 1, 0, none⟩) N N) (l.map rVl) ∧ InB (fun k => w.heap.size ≤ k) (.slice (some ⟨w.heap.size + 1, 0, none⟩) N N)) := by
          have hF := HF.out
          rw [e] at hF
          refine ⟨⟨?_, fun x hx => ?_⟩, fun a m c he _ => ?_⟩
          · rw [List.length_map, ← HN.out]
            exact hF.sl (by decide) (by unfold far; omega) (fun i j hi _ => vlC_F j (by rw [List.length_map, ← HN.out]; exact hi))
          · obtain ⟨y, hy, rfl⟩ := List.mem_map.1 hx
            exact rVl_ok y (HSX.out.kid hy) (HNX.out.kid hy)
          · cases he
            exact Nat.le_succ _
        have HBw2 := HBw
        subst e hA
        clear HF HA
        go_wp2
        go_ret2
        first | exact ⟨_, _, _, rfl, HBw2.out, fun _ => HS.out⟩ | exact ⟨_, _, _, rfl, HBw2.out, HS.out⟩
  · have hR : R = false := by rw [HR.out]; unfold allB; simp [hk]
    subst hR
    go_enter Tryd.func53, Tryd.ntmps53
    go_wp2
    go_ret2
    exact ⟨_, _, _, rfl, HB0.out _, fun e => by cases e⟩


end Go.Proofs.YtcblknghkgihcaaDoor
namespace Go.Proofs.YtcblknghkgihcaaDoor
set_option maxRecDepth 100000
open Go.RowKit Crc Pg

set_option maxHeartbeats 1000000 in
theorem rsmall_any (t : Tr) (v : Value) (w : World) (h : CR w t v) :
    Calls Tryd.prog 56 #[v] w fun e w' => e = .returned (.int .i64 (smT t)) ∧ Below w.heap.size w w' := by
  obtain ⟨a, cap, rfl⟩ := h.shape
  have hn2 := h.ntx.n
  have HB := hide_p (fun o : Obj => (Below.refl w.heap.size w).alloc (Nat.le_refl _) o)
  obtain ⟨r, hr⟩ : ∃ r, r = smT t := ⟨_, rfl⟩
  rw [← hr]
  unfold smT at hr
  clear h
  generalize t.k = k at *
  generalize t.n = n at *
  generalize t.s = s at *
  generalize t.l.length = m at *
  unfold cellV
  by_cases hk : k = 0
  · by_cases hn : n ≤ 131072
    · rw [if_pos ⟨hk, hn⟩] at hr
      subst hk hr
      have hn3 : ¬ (131072 < (r : Int)) := by omega
      go_enter Tryd.func56, Tryd.ntmps56
      go_wp2
      go_ret
      exact ⟨rfl, HB.out _⟩
    · rw [if_neg (fun h => hn h.2)] at hr
      subst hk hr
      have hn3 : 131072 < (n : Int) := by omega
      go_enter Tryd.func56, Tryd.ntmps56
      go_wp2
      go_ret
      exact ⟨rfl, HB.out _⟩
  · rw [if_neg (fun h => hk h.1)] at hr
    subst hr
    go_enter Tryd.func56, Tryd.ntmps56
    go_wp2
    go_ret
    exact ⟨rfl, HB.out _⟩

set_option maxHeartbeats 1000000 in
theorem rmany_any (t : Tr) (v : Value) (w : World) (h : CR w t v) :
    Calls Tryd.prog 58 #[v] w fun e w' => e = .returned (.int .i64 (manyL t).length) ∧ Below w.heap.size w w' := by
  obtain ⟨a, cap, rfl⟩ := h.shape
  have HB := hide_p (fun o : Obj => (Below.refl w.heap.size w).alloc (Nat.le_refl _) o)
  obtain ⟨r, hr⟩ : ∃ r, r = (manyL t).length := ⟨_, rfl⟩
  rw [← hr]
  have hr2 : r = if t.k = 2 then t.l.length else 0 := by rw [hr]; unfold manyL; split <;> rfl
  clear h hr
  generalize t.k = k at *
  generalize t.n = n at *
  generalize t.s = s at *
  generalize t.l.length = m at *
  unfold cellV
  by_cases hk : k = 2
  · rw [if_pos hk] at hr2
    subst hk hr2
    go_enter Tryd.func58, Tryd.ntmps58
    go_wp2
    go_ret
    exact ⟨rfl, HB.out _⟩
  · rw [if_neg hk] at hr2
    subst hr2
    go_enter Tryd.func58, Tryd.ntmps58
    go_wp2
    go_ret
    exact ⟨rfl, HB.out _⟩

theorem cr_zT (w : World) : CR w zT (cellV 0 0 nob (.slice none 0 0)) := (cs_num (S := fun _ => True) 0 (by decide)).cr
set_option maxHeartbeats 2000000 in
theorem rat_any (t : Tr) (v : Value) (w : World) (h : CR w t v) (i : Nat) :
    ∃ b c, CR w (atT t i) (cellV (atT t i).k (atT t i).n (atT t i).s (.slice b (atT t i).l.length c)) ∧ ∀ w', Below w.heap.size w w' → Calls Tryd.prog 57 #[v, .int .i64 i] w' fun e w'' => e = .returned (cellV (atT t i).k (atT t i).n (atT t i).s (.slice b (atT t i).l.length c)) ∧ Below w'.heap.size w' w'' := by
  obtain ⟨a, cap, rfl⟩ := h.shape
  obtain ⟨k, n, s, l⟩ := t
  simp only at h ⊢
  have hcap := h.parts.2.2.2.1
  have hcap2 := h.parts.2.2.2.2.1
  by_cases hk : k = 2 ∧ i < l.length
  · obtain ⟨hk, hi⟩ := hk
    subst hk
    obtain ⟨g, o, b, c, rfl, hl, hc⟩ := h.get i hi
    have e : atT (.mk 2 n s l) i = l[i] := by rw [atT_mk, List.getD_eq_getElem?_getD, List.getElem?_eq_getElem hi]; rfl
    rw [e]
    refine ⟨b, c, hc, fun w' hb => ?_⟩
    obtain ⟨l0, l1, l2, l3⟩ := hl.below hb (Nat.le_refl _)
    clear hl hc h hb e
    generalize l[i].n = n1 at *
    generalize l[i].k = k1 at *
    generalize l[i].s = s1 at *
    generalize l[i].l.length = m1 at *
    generalize l.length = m at *
    unfold cellV
    obtain ⟨w1, hw1⟩ : ∃ w1, w1 = (w'.alloc (.cells #[.int .i64 2, .int .u64 n, .string s, .slice (some ⟨g, o, none⟩) m cap] 33)).alloc (.cells #[.int .i64 0, .int .u64 0, .string ⟨#[]⟩, .slice none 0 0] 33) := ⟨_, rfl⟩
    have HB1 : Hid (Below w'.heap.size w' w1) := by show Below _ _ _; rw [hw1]; exact ((Below.refl _ _).alloc (Nat.le_refl _) _).alloc (by simp) _
    have HA1 : Hid (w1.heap[w'.heap.size]? = some (.cells #[.int .i64 2, .int .u64 n, .string s, .slice (some ⟨g, o, none⟩) m cap] 33 (0, 0)) ∧ w1.heap[w'.heap.size + 1]? = some (.cells #[.int .i64 0, .int .u64 0, .string ⟨#[]⟩, .slice none 0 0] 33 (0, 0))) := by
      show _ ∧ _
      rw [hw1]
      refine ⟨?_, heap_alloc_at _ _ _ (by simp)⟩
      rw [Below.heap_alloc _ _ _ (by simp)]
      exact heap_alloc_new _ _
    obtain ⟨x0, x1, x2, x3⟩ := block4 HA1.out.1
    obtain ⟨y0, y1, y2, y3⟩ := block4 HA1.out.2
    have hfz := Lib.frozen_of_heap HA1.out.2
    have f0 := hfz 0
    have f1 := hfz 1
    have f2 := hfz 2
    have f3 := hfz 3
    have l0' := cell_kept HB1.out (Nat.le_refl _) l0
    have l1' := cell_kept HB1.out (Nat.le_refl _) l1
    have l2' := cell_kept HB1.out (Nat.le_refl _) l2
    have l3' := cell_kept HB1.out (Nat.le_refl _) l3
    have HE : Hid (∀ W, W = (((w1.setCell ⟨w'.heap.size + 1, 0, none⟩ (.int .i64 k1)).setCell ⟨w'.heap.size + 1, 1, none⟩ (.int .u64 n1)).setCell ⟨w'.heap.size + 1, 2, none⟩ (.string s1)).setCell ⟨w'.heap.size + 1, 3, none⟩ (.slice b m1 c) → W.heap[w'.heap.size + 1]? = some (.cells #[.int .i64 k1, .int .u64 n1, .string s1, .slice b m1 c] 33 (0, 0)) ∧ Below w'.heap.size w' W) := by
      intro W hW
      rw [hW]
      exact ⟨set4_block HA1.out.2 _ _ _ _, set4_below HB1.out (Nat.le_succ _) _ _ _ _⟩
    clear hfz l0 l1 l2 l3
    go_enter Tryd.func57, Tryd.ntmps57
    go_upto_region 1 with fail
    rw [← hw1]
    clear hw1
    go_wp2
    obtain ⟨z1, z2⟩ := HE.out _ rfl
    exact bodyPost_ret (results_cell_row rfl _ _ (w'.heap.size + 1) _ _ _ _ rfl z1 Tryd.underlying33 rfl info25) rfl ⟨rfl, z2⟩
  · have e : atT (.mk k n s l) i = zT := by
      unfold atT
      by_cases h2 : k = 2
      · rw [if_pos h2, List.getD_eq_getElem?_getD, List.getElem?_eq_none (by show l.length ≤ i; omega)]; rfl
      · rw [if_neg h2]
    rw [e]
    refine ⟨none, 0, cr_zT w, fun w' hb => ?_⟩
    have hcase : ¬ k = 2 ∨ (k = 2 ∧ (i : Int) ≥ (l.length : Int)) := by omega
    clear h hb e hk
    generalize l.length = m at *
    unfold cellV zT
    simp only [List.length_nil]
    obtain ⟨w1, hw1⟩ : ∃ w1, w1 = (w'.alloc (.cells #[.int .i64 k, .int .u64 n, .string s, .slice a m cap] 33)).alloc (.cells #[.int .i64 0, .int .u64 0, .string ⟨#[]⟩, .slice none 0 0] 33) := ⟨_, rfl⟩
    have HB1 : Hid (Below w'.heap.size w' w1) := by show Below _ _ _; rw [hw1]; exact ((Below.refl _ _).alloc (Nat.le_refl _) _).alloc (by simp) _
    have HA1 : Hid (w1.heap[w'.heap.size]? = some (.cells #[.int .i64 k, .int .u64 n, .string s, .slice a m cap] 33 (0, 0)) ∧ w1.heap[w'.heap.size + 1]? = some (.cells #[.int .i64 0, .int .u64 0, .string ⟨#[]⟩, .slice none 0 0] 33 (0, 0))) := by
      show _ ∧ _
      rw [hw1]
      refine ⟨?_, heap_alloc_at _ _ _ (by simp)⟩
      rw [Below.heap_alloc _ _ _ (by simp)]
      exact heap_alloc_new _ _
    obtain ⟨x0, x1, x2, x3⟩ := block4 HA1.out.1
    obtain ⟨y0, y1, y2, y3⟩ := block4 HA1.out.2
    have hfz := Lib.frozen_of_heap HA1.out.2
    have f0 := hfz 0
    have f1 := hfz 1
    have f2 := hfz 2
    have f3 := hfz 3
    have HE : Hid (∀ W, W = (((w1.setCell ⟨w'.heap.size + 1, 0, none⟩ (.int .i64 0)).setCell ⟨w'.heap.size + 1, 1, none⟩ (.int .u64 0)).setCell ⟨w'.heap.size + 1, 2, none⟩ (.string ⟨#[]⟩)).setCell ⟨w'.heap.size + 1, 3, none⟩ (.slice none 0 0) → W.heap[w'.heap.size + 1]? = some (.cells #[.int .i64 0, .int .u64 0, .string ⟨#[]⟩, .slice none 0 0] 33 (0, 0)) ∧ Below w'.heap.size w' W) := by
      intro W hW
      rw [hW]
      exact ⟨set4_block HA1.out.2 _ _ _ _, set4_below HB1.out (Nat.le_succ _) _ _ _ _⟩
    clear hfz
    rcases hcase with c | ⟨rfl, c⟩
    all_goals
      go_enter Tryd.func57, Tryd.ntmps57
      go_upto_region 1 with fail
      rw [← hw1]
      clear hw1
      go_wp2
      obtain ⟨z1, z2⟩ := HE.out _ rfl
      exact bodyPost_ret (results_cell_row rfl _ _ (w'.heap.size + 1) _ _ _ _ rfl z1 Tryd.underlying33 rfl info25) rfl ⟨rfl, z2⟩

end Go.Proofs.YtcblknghkgihcaaDoor
namespace Go.Proofs.YtcblknghkgihcaaDoor
set_option maxRecDepth 100000
open Go.RowKit Crc Pg

theorem CS.parts {w : World} {S : Nat → Prop} {k0 : Int} {n0 : Nat} {s0 : ByteArray} {ts : List Tr} {a : Option Addr} {cap : Nat} (h : CS w S (.mk k0 n0 s0 ts) (cellV k0 n0 s0 (.slice a ts.length cap))) :
    (a = none → ts = []) ∧ (∀ x, a = some x → ts ≠ [] → S x.block) ∧
    ∃ (ks : Nat → Int) (ns : Nat → Nat) (ss : Nat → ByteArray) (us : Nat → Value), (∀ x i, a = some x → i < ts.length → x.spot = none ∧ Lies w x.block x.off i (ks i) (ns i) (ss i) (us i)) ∧ ∀ i (h : i < ts.length), CS w S ts[i] (cellV (ks i) (ns i) (ss i) (us i)) := by
  generalize hv : cellV k0 n0 s0 (.slice a ts.length cap) = v0 at h
  cases h using CS.elim with
  | mk k n s _ a' cap' ks ns ss us hk hn hs hl hc h0 hS hx hr =>
    unfold cellV at hv
    simp only [Value.agg.injEq, Array.mk.injEq, List.cons.injEq, Value.slice.injEq, and_true, true_and] at hv
    obtain ⟨rfl, rfl⟩ := hv
    exact ⟨h0, hS, ks, ns, ss, us, hx, hr⟩
/-- The i-th of a row. -/
theorem CS.get {w : World} {S : Nat → Prop} {k0 : Int} {n0 : Nat} {s0 : ByteArray} {ts : List Tr} {a : Option Addr} {cap : Nat} (h : CS w S (.mk k0 n0 s0 ts) (cellV k0 n0 s0 (.slice a ts.length cap))) (i : Nat) (hi : i < ts.length) :
    ∃ g o b c, a = some ⟨g, o, none⟩ ∧ S g ∧ Lies w g o i ts[i].k ts[i].n ts[i].s (.slice b ts[i].l.length c) ∧ CS w S ts[i] (cellV ts[i].k ts[i].n ts[i].s (.slice b ts[i].l.length c)) := by
  obtain ⟨h0, hS, ks, ns, ss, us, hx, hr⟩ := h.parts
  cases a with
  | none => rw [h0 rfl] at hi; exact absurd hi (Nat.not_lt_zero _)
  | some x =>
    have hb := hS x rfl (fun e => by rw [e] at hi; exact absurd hi (Nat.not_lt_zero _))
    obtain ⟨g, o, sp⟩ := x
    obtain ⟨h1, h2⟩ := hx _ i rfl hi
    simp only at h1
    subst h1
    have h3 := hr i hi
    obtain ⟨e1, e2, e3, b, c, e4⟩ := h3.cr.top
    rw [e1, e2, e3, e4] at h2 h3
    exact ⟨g, o, b, c, rfl, hb, h2, h3⟩
theorem CS.shape {w : World} {S : Nat → Prop} {t : Tr} {v : Value} (h : CS w S t v) : ∃ a cap, v = cellV t.k t.n t.s (.slice a t.l.length cap) := h.cr.shape
theorem CS.kb {w w' : World} {b : Nat} {t : Tr} {v : Value} (h : CS w (fun k => k < b) t v) (k : Kb b w w') (hb : b < w.heap.size) : CS w' (fun k => k < b) t v :=
  h.kept (fun q hq => k.block q (Nat.lt_trans hq hb) (Nat.ne_of_lt hq))
theorem Pg.Kb.lies {b g o i : Nat} {w w' : World} {k : Int} {n : Nat} {s : ByteArray} {u : Value} (h : Kb b w w') (hg : g < b) (hb : b < w.heap.size) (hl : Lies w g o i k n s u) : Lies w' g o i k n s u :=
  hl.same (h.block g (Nat.lt_trans hg hb) (Nat.ne_of_lt hg))
theorem Pg.Kb.alloc2 {b : Nat} {w w' : World} (h : Kb b w w') (o : Obj) : Kb b w (w'.alloc o) := h.trans (Kb.alloc b w' o)

theorem tlen_cnts : ∀ l : List Tr, l.length ≤ cnts l := by
  intro l
  induction l with
  | nil => simp [cnts_nil]
  | cons t l ih => simp only [cnts_cons, List.length_cons]; have := cnt_pos t; omega
/-- What the landed reader tells of a function. -/
def FnR (w : World) (b f : Nat) (O : Bool) (m : Nat) (r : Pr) (e : Ending) (w' : World) : Prop :=
  ∃ (pa rg : Int) (a1 : Option Addr) (n1 c1 : Nat) (a2 : Option Addr) (n2 c2 : Nat) (a3 : Option Addr) (n3 c3 : Nat) (a4 : Option Addr) (n4 c4 f' : Nat), e = .returned (.tuple #[.agg #[.int .i64 pa, .int .i64 rg, .slice a1 n1 c1, .slice a2 n2 c2, .slice a3 n3 c3, .slice a4 n4 c4], .bool O]) ∧ Kb b w w' ∧ Cn w' b f' ∧ f' ≤ f + m ∧
    (O = true → PRS (fun k => w.heap.size ≤ k) w' r ⟨pa, rg, .slice a1 n1 c1, .slice a2 n2 c2, .slice a3 n3 c3, .slice a4 n4 c4⟩)
/-- The rows of functions that were read. -/
def RdL (w : World) (B : Nat) (v : Value) (D : Nat) (l : List Tr) : Prop := ∃ y : Nat → Six, SL w v l.length 6 (fun i j u => u = (y i).at j) ∧ InB (fun k => B ≤ k) v ∧ ∀ i (h : i < l.length), PRS (fun k => B ≤ k) w (rdT D l[i]) (y i)

theorem Fil.put6 {w : World} {B T g n i : Nat} {c : Nat → Nat → Value} (h : Fil w B T 6 g n i c) (hi : i < n) (v0 v1 v2 v3 v4 v5 : Value) (e0 : c i 0 = v0) (e1 : c i 1 = v1) (e2 : c i 2 = v2) (e3 : c i 3 = v3) (e4 : c i 4 = v4) (e5 : c i 5 = v5) :
    Fil ((((((w.setCell ⟨g, i * 6, none⟩ v0).setCell ⟨g, i * 6 + 1, none⟩ v1).setCell ⟨g, i * 6 + 2, none⟩ v2).setCell ⟨g, i * 6 + 3, none⟩ v3).setCell ⟨g, i * 6 + 4, none⟩ v4).setCell ⟨g, i * 6 + 5, none⟩ v5) B T 6 g n (i + 1) c := by
  obtain ⟨xs, h1, h2⟩ := h
  have hl := h1.1
  refine ⟨_, ((((((h1.stored (i * 6) v0).1.stored (i * 6 + 1) v1).1.stored (i * 6 + 2) v2).1.stored (i * 6 + 3) v3).1.stored (i * 6 + 4) v4).1.stored (i * 6 + 5) v5).1, fun j hj r hr => ?_⟩
  by_cases e : j = i
  · subst e
    simp only [List.getElem?_set, List.length_set]
    match r, hr with
    | 0, _ => rw [if_neg (by omega), if_neg (by omega), if_neg (by omega), if_neg (by omega), if_neg (by omega), if_pos (by omega), if_pos (by omega), e0]
    | 1, _ => rw [if_neg (by omega), if_neg (by omega), if_neg (by omega), if_neg (by omega), if_pos (by omega), if_pos (by omega), e1]
    | 2, _ => rw [if_neg (by omega), if_neg (by omega), if_neg (by omega), if_pos (by omega), if_pos (by omega), e2]
    | 3, _ => rw [if_neg (by omega), if_neg (by omega), if_pos (by omega), if_pos (by omega), e3]
    | 4, _ => rw [if_neg (by omega), if_pos (by omega), if_pos (by omega), e4]
    | 5, _ => rw [if_pos (by omega), if_pos (by omega), e5]
  · simp only [List.getElem?_set, List.length_set]
    repeat rw [if_neg (by omega)]
    exact h2 j (by omega) r hr
theorem Fil.congr {w : World} {B T z g n i : Nat} {c c' : Nat → Nat → Value} (h : Fil w B T z g n i c) (e : ∀ j, j < i → ∀ r, r < z → c j r = c' j r) : Fil w B T z g n i c' := by
  obtain ⟨xs, h1, h2⟩ := h
  exact ⟨xs, h1, fun j hj r hr => by rw [← e j hj r hr]; exact h2 j hj r hr⟩
theorem infoPr2 : (Tryd.prog.info? 27).map (fun i => (i.zero, i.size, i.bytes)) = some (some (.agg #[.int .i64 0, .int .i64 0, .slice none 0 0, .slice none 0 0, .slice none 0 0, .slice none 0 0]), 6, 112) := by kernel_rfl

/-- What the loop of the list has laid. -/
structure LpR (w wr : World) (b f B : Nat) (D N i : Nat) (l : List Tr) : Prop where
  kb : Kb b w wr
  cn : ∃ f', Cn wr b f' ∧ f' ≤ f + ((l.take i).map (fcF D)).sum
  fil : ∃ y : Nat → Six, Fil wr B 27 6 B N i (sixC y) ∧ ∀ j (h : j < l.length), j < i → PRS (fun k => B < k) wr (rdT D l[j]) (y j)

theorem Pg.Kb.setFar {b B j : Nat} {w w' : World} (h : Kb b w w') (hB : w.heap.size ≤ B) (v : Value) : Kb b w (w'.setCell ⟨B, j, none⟩ v) :=
  ⟨h.os, h.tape, h.output, by rw [World.size_setCell]; exact h.size, fun k hk hb => (heap_setCell_other _ _ _ _ (by show k ≠ B; omega)).trans (h.block k hk hb)⟩
theorem Pg.Cn.same {w w' : World} {b n : Nat} (h : Cn w b n) (e : w'.heap[b]? = w.heap[b]?) : Cn w' b n :=
  ⟨(World.cell?_of_block (w := w) (a := ⟨b, 0, none⟩) e).trans h.cell, (World.frozen?_of_block (w := w) (a := ⟨b, 0, none⟩) e).trans h.fz⟩
theorem LpR.step {w wr w5 W : World} {b f B D N i f5 : Nat} {l : List Tr} {pa rg : Int} {a1 a2 a3 a4 : Option Addr} {n1 c1 n2 c2 n3 c3 n4 c4 : Nat} {ob o5 : Obj} (h : LpR w wr b f B D N i l) (hwB : w.heap.size ≤ B) (hbB : b < B) (hN : N = l.length) (hi : i < l.length) (hB : B < wr.heap.size)
    (hk : Kb b (wr.alloc ob) w5) (hc : Cn w5 b f5) (hf : f5 ≤ f + ((l.take i).map (fcF D)).sum + fcF D l[i]) (hp : PRS (fun k => (wr.alloc ob).heap.size ≤ k) w5 (rdT D l[i]) ⟨pa, rg, .slice a1 n1 c1, .slice a2 n2 c2, .slice a3 n3 c3, .slice a4 n4 c4⟩)
    (hW : W = ((((((w5.setCell ⟨B, i * 6, none⟩ (.int .i64 pa)).setCell ⟨B, i * 6 + 1, none⟩ (.int .i64 rg)).setCell ⟨B, i * 6 + 2, none⟩ (.slice a1 n1 c1)).setCell ⟨B, i * 6 + 3, none⟩ (.slice a2 n2 c2)).setCell ⟨B, i * 6 + 4, none⟩ (.slice a3 n3 c3)).setCell ⟨B, i * 6 + 5, none⟩ (.slice a4 n4 c4)).alloc o5) : LpR w W b f B D N (i + 1) l := by
  have hs5 := hk.size
  simp only [World.size_alloc] at hs5 hp
  obtain ⟨W8, hW8⟩ : ∃ W8, W8 = (((((w5.setCell ⟨B, i * 6, none⟩ (.int .i64 pa)).setCell ⟨B, i * 6 + 1, none⟩ (.int .i64 rg)).setCell ⟨B, i * 6 + 2, none⟩ (.slice a1 n1 c1)).setCell ⟨B, i * 6 + 3, none⟩ (.slice a2 n2 c2)).setCell ⟨B, i * 6 + 4, none⟩ (.slice a3 n3 c3)).setCell ⟨B, i * 6 + 5, none⟩ (.slice a4 n4 c4) := ⟨_, rfl⟩
  rw [← hW8] at hW
  have hsz : W8.heap.size = w5.heap.size := by rw [hW8]; simp only [World.size_setCell]
  have hoth : ∀ k, k ≠ B → k < w5.heap.size → W.heap[k]? = w5.heap[k]? := by
    intro k hk2 hk3
    rw [hW, Below.heap_alloc _ _ _ (by omega), hW8, heap_setCell_other _ _ _ _ hk2, heap_setCell_other _ _ _ _ hk2, heap_setCell_other _ _ _ _ hk2, heap_setCell_other _ _ _ _ hk2, heap_setCell_other _ _ _ _ hk2, heap_setCell_other _ _ _ _ hk2]
  have hwr : ∀ k, k ≠ b → k < wr.heap.size → w5.heap[k]? = wr.heap[k]? := by
    intro k hk2 hk3
    rw [hk.block k (by simp only [World.size_alloc]; omega) hk2, Below.heap_alloc _ _ _ hk3]
  refine ⟨?_, ⟨f5, hc.same (hoth b (by omega) hc.lt), ?_⟩, ?_⟩
  · rw [hW, hW8]
    exact (((((((h.kb.alloc2 ob).trans hk).setFar hwB _).setFar hwB _).setFar hwB _).setFar hwB _).setFar hwB _).setFar hwB _ |>.alloc2 o5
  · rw [fc_take D l i hi]
    omega
  · obtain ⟨y, y1, y2⟩ := h.fil
    refine ⟨fun j => if j < i then y j else ⟨pa, rg, .slice a1 n1 c1, .slice a2 n2 c2, .slice a3 n3 c3, .slice a4 n4 c4⟩, ?_, fun j hj hji => ?_⟩
    · have h5 : Fil w5 B 27 6 B N i (sixC y) := y1.far (hwr B (by omega) hB)
      have h6 : Fil w5 B 27 6 B N i (sixC fun j => if j < i then y j else ⟨pa, rg, .slice a1 n1 c1, .slice a2 n2 c2, .slice a3 n3 c3, .slice a4 n4 c4⟩) := h5.congr (fun j hj r _ => by unfold sixC; simp only [hj, if_true])
      have hlast : ∀ r, sixC (fun j => if j < i then y j else ⟨pa, rg, .slice a1 n1 c1, .slice a2 n2 c2, .slice a3 n3 c3, .slice a4 n4 c4⟩) i r = Six.at ⟨pa, rg, .slice a1 n1 c1, .slice a2 n2 c2, .slice a3 n3 c3, .slice a4 n4 c4⟩ r := by
        intro r
        unfold sixC
        simp only [Nat.lt_irrefl, if_false]
      have h7 := h6.put6 (by omega) (.int .i64 pa) (.int .i64 rg) (.slice a1 n1 c1) (.slice a2 n2 c2) (.slice a3 n3 c3) (.slice a4 n4 c4) (hlast 0) (hlast 1) (hlast 2) (hlast 3) (hlast 4) (hlast 5)
      rw [← hW8] at h7
      rw [hW]
      exact h7.far (Below.heap_alloc _ _ _ (by omega))
    · by_cases e : j = i
      · subst e
        simp only [Nat.lt_irrefl, if_false]
        exact PRS.widen (fun k hk => by omega) _ _ (PRS.same (w' := W) (fun k hk => hoth k (by omega) hk.2) _ _ (PRS.lt _ _ hp))
      · have hlt : j < i := by omega
        simp only [hlt, if_true]
        refine PRS.widen (fun k hk => hk.1) _ _ (PRS.same (w' := W) (fun k hk => ?_) _ _ (PRS.lt _ _ (y2 j hj hlt)))
        rw [hoth k (by omega) (by omega)]
        exact hwr k (by omega) hk.2

set_option maxHeartbeats 4000000 in
theorem listP_of (D : Nat) (HF0 : ∀ (t : Tr) (v : Value) (w : World) (b f : Nat), CS w (fun k => k < b) t v → Stx t → t.dep < D → t.cnt ≤ 1000000 → Cn w b f → f + fcF D t ≤ 4096 →
      Calls Tryd.prog 35 #[.pointer (some ⟨b, 0, none⟩), v] w (FnR w b f (okF D t) (fcF D t) (rdT D t)))
    (t : Tr) (v : Value) (w : World) (b f : Nat) (h : CS w (fun k => k < b) t v) (hst : Stx t) (hdep : t.dep ≤ D) (hcnt : t.cnt ≤ 1000000) (hcn : Cn w b f) (hf : f + ((manyL t).map (fcF D)).sum ≤ 4096) :
    Calls Tryd.prog 55 #[v, .func (.func 35) #[.pointer (some ⟨b, 0, none⟩)] #[]] w fun e w' => ∃ a' n' c' f', e = .returned (.tuple #[.slice a' n' c', .bool (allB (okF D) t)]) ∧ Kb b w w' ∧ Cn w' b f' ∧ f' ≤ f + ((manyL t).map (fcF D)).sum ∧ (allB (okF D) t = true → RdL w' w.heap.size (.slice a' n' c') D t.l) := by
  obtain ⟨i0, hi0, hz0, hz1, hz2⟩ := info_parts infoPr2
  obtain ⟨a, cap, rfl⟩ := h.shape
  obtain ⟨k, n, s, l⟩ := t
  simp only at h hf ⊢
  have HG := hide_p (fun i hi => h.get i hi)
  have hcap := h.cr.parts.2.2.2.1
  have hcap2 := h.cr.parts.2.2.2.2.1
  have HF := hide_p HF0
  have HST := hide_p hst
  have HDC : Hid (deps l ≤ D ∧ cnts l ≤ 1000000) := ⟨by rw [Tr.dep_mk] at hdep; exact hdep, by rw [Tr.cnt_mk] at hcnt; omega⟩
  have hlen : l.length ≤ 1000000 := Nat.le_trans (tlen_cnts l) HDC.out.2
  have HFS := hide_p hf
  have HCN := hide_p hcn
  have hblt := hcn.lt
  obtain ⟨N, hN⟩ : ∃ N, N = l.length := ⟨_, rfl⟩
  have HN := hide_p hN
  obtain ⟨R, hR⟩ : ∃ R, R = allB (okF D) (.mk k n s l) := ⟨_, rfl⟩
  rw [← hR, ← hN]
  rw [← hN] at hlen hcap
  have HR := hide_p hR
  clear h hst hdep hcnt hcn hf HF0 hN hR
  unfold cellV
  obtain ⟨w1, hw1⟩ : ∃ w1, w1 = w.alloc (.cells #[.int .i64 k, .int .u64 n, .string s, .slice a N cap] 33) := ⟨_, rfl⟩
  have HK1 : Hid (Kb b w w1) := by show Kb _ _ _; rw [hw1]; exact Kb.alloc _ _ _
  have HA1 : Hid (w1.heap[w.heap.size]? = some (.cells #[.int .i64 k, .int .u64 n, .string s, .slice a N cap] 33 (0, 0))) := by show _ = _; rw [hw1]; exact heap_alloc_new _ _
  have HC1 : Hid (Cn w1 b f) := by show Cn _ _ _; rw [hw1]; exact HCN.out.same (Below.heap_alloc _ _ _ hblt)
  have hs1 : w1.heap.size = w.heap.size + 1 := by rw [hw1]; simp
  obtain ⟨x0, x1, x2, x3⟩ := block4 HA1.out
  by_cases hk : k = 2
  · subst hk
    rw [show manyL (Tr.mk 2 n s l) = l from rfl] at HFS ⊢
    have HR2 : Hid (R = l.all (okF D)) := by show _ = _; rw [HR.out]; unfold allB; simp
    clear HR
    have HM : Hid (∀ w2 xs, w2.ownsRow (w.heap.size + 1) 27 6 (.slice (some ⟨w.heap.size + 1, 0, none⟩) N N) N xs → w1.grownBy w2 none → LpR w w2 b f (w.heap.size + 1) D N 0 l ∧ w.heap.size + 1 < w2.heap.size ∧ w2.heap[w.heap.size]? = some (.cells #[.int .i64 2, .int .u64 n, .string s, .slice a N cap] 33 (0, 0))) := by
      intro w2 xs q1 q2
      have hb : Below w1.heap.size w1 w2 := (Below.refl _ w1).grown q2 (Nat.le_refl _) (fun k hk => by cases hk)
      refine ⟨⟨HK1.out.trans (Kb.of_below hb), ⟨f, HC1.out.below hb, by simp⟩, fun _ => ⟨0, 0, .slice none 0 0, .slice none 0 0, .slice none 0 0, .slice none 0 0⟩, ⟨_, q1, fun j h => absurd h (Nat.not_lt_zero _)⟩, fun j _ h => absurd h (Nat.not_lt_zero _)⟩, (q1.lt _ rfl).2, (hb.block _ (by omega)).trans HA1.out⟩
    go_enter Tryd.func55, Tryd.ntmps55
    go_upto_region 1 with fail
    rw [← hw1]
    clear hw1
    go_wp2_with (at_make; refine wpList_make_full _ rfl _ _ 25 rfl (w.heap.size + 1) 27 i0 _ 6 Tryd.underlying25 hi0 hz0 hz1 .i64 .i64 _ _ N rfl rfl rfl rfl (by rw [hz2]; omega) (by unfold maxLen; omega) (by omega) ?_)
    intro w2 q1 q2
    obtain ⟨q3, q4, q5⟩ := HM.out w2 _ q1 q2
    have HL2 := hide_p q3
    have HS2 := hide_p q4
    obtain ⟨x0', x1', x2', x3'⟩ := block4 q5
    clear x0 x1 x2 x3 q1 q2 q3 q4 q5 HM
    go_wp2_with fail
    go_loopw [21] (fun t21 wr => ∃ i : Nat, i ≤ N ∧ t21 = .int .i64 i ∧ Hid (LpR w wr b f (w.heap.size + 1) D N i l) ∧ Hid ((l.take i).all (okF D) = true) ∧ Hid (w.heap.size + 1 < wr.heap.size)) (fun t21 _ => N - (intOf t21).toNat)
    case atStart => exact ⟨0, Nat.zero_le _, rfl, HL2, rfl, HS2⟩
    case round =>
      obtain ⟨i, hi, rfl, HL, HA, HSr⟩ := hrel
      clear x0' x1' x2' x3' HL2 HS2
      by_cases c : i < N
      · have i1 : i < l.length := by rw [← HN.out]; exact c
        obtain ⟨g, o, bb, cc, rfl, hgb, hlies, hcs⟩ := HG.out i i1
        obtain ⟨l0, l1, l2, l3⟩ := HL.out.kb.lies hgb hblt hlies
        have HTK : Hid ((l.take (i + 1)).all (okF D) = (okF D l[i])) := by
          show _ = _
          rw [List.take_succ_eq_append_getElem i1, List.all_append, HA.out]
          simp
        have HFF : Hid (okF D l[i] = false → R = false) := by
          intro hf
          rw [HR2.out, List.all_eq_false]
          exact ⟨l[i], List.getElem_mem i1, by simp [hf]⟩
        obtain ⟨fi, hfi1, hfi2⟩ := HL.out.cn
        have hsum : ((l.take i).map (fcF D)).sum + fcF D l[i] ≤ (l.map (fcF D)).sum := by rw [← fc_take D l i i1]; exact fc_take_le D l (i + 1)
        have hcl := HF.out l[i] _ (wr.alloc (.cells #[.int .i64 l[i].k, .int .u64 l[i].n, .string l[i].s, .slice bb l[i].l.length cc] 33)) b fi (hcs.kb (HL.out.kb.alloc2 _) hblt) (HST.out.kid (List.getElem_mem i1)) (by have := deps_get i i1; have := HDC.out.1; omega) (by have := cnts_getl i i1; have := HDC.out.2; omega) (hfi1.same (Below.heap_alloc _ _ _ hfi1.lt)) (by have := HFS.out; omega)
        have HSM : Hid (∀ f5, f5 ≤ fi + fcF D l[i] → f5 ≤ f + ((l.take i).map (fcF D)).sum + fcF D l[i]) := fun f5 h5 => by omega
        have HSB : Hid (∀ f5, f5 ≤ f + ((l.take i).map (fcF D)).sum + fcF D l[i] → f5 ≤ f + (l.map (fcF D)).sum) := fun f5 h5 => by omega
        unfold cellV at hcl
        obtain ⟨O, hO⟩ : ∃ O, O = okF D l[i] := ⟨_, rfl⟩
        rw [← hO] at hcl HTK HFF
        have HIX : Hid (∀ m r, m = fcF D l[i] → r = rdT D l[i] → ∀ w5 f5 pa rg a1 n1 c1 a2 n2 c2 a3 n3 c3 a4 n4 c4 o5 W, Kb b (wr.alloc (.cells #[.int .i64 l[i].k, .int .u64 l[i].n, .string l[i].s, .slice bb l[i].l.length cc] 33)) w5 → Cn w5 b f5 → f5 ≤ fi + m → PRS (fun k => (wr.alloc (.cells #[.int .i64 l[i].k, .int .u64 l[i].n, .string l[i].s, .slice bb l[i].l.length cc] 33)).heap.size ≤ k) w5 r ⟨pa, rg, .slice a1 n1 c1, .slice a2 n2 c2, .slice a3 n3 c3, .slice a4 n4 c4⟩ →
            W = ((((((w5.setCell ⟨w.heap.size + 1, i * 6, none⟩ (.int .i64 pa)).setCell ⟨w.heap.size + 1, i * 6 + 1, none⟩ (.int .i64 rg)).setCell ⟨w.heap.size + 1, i * 6 + 2, none⟩ (.slice a1 n1 c1)).setCell ⟨w.heap.size + 1, i * 6 + 3, none⟩ (.slice a2 n2 c2)).setCell ⟨w.heap.size + 1, i * 6 + 4, none⟩ (.slice a3 n3 c3)).setCell ⟨w.heap.size + 1, i * 6 + 5, none⟩ (.slice a4 n4 c4)).alloc o5 → LpR w W b f (w.heap.size + 1) D N (i + 1) l ∧ w.heap.size + 1 < W.heap.size) := by
          intro m r hm hr w5 f5 pa rg a1 n1 c1 a2 n2 c2 a3 n3 c3 a4 n4 c4 o5 W k1 k2 k3 k4 k5
          subst hm hr
          refine ⟨HL.out.step (Nat.le_succ _) (by omega) HN.out i1 HSr.out k1 k2 (HSM.out f5 k3) k4 k5, ?_⟩
          rw [k5]
          have := k1.size
          have := HSr.out
          simp only [World.size_alloc, World.size_setCell] at *
          omega
        have HFB : Hid (∀ w5 f5 m, m = fcF D l[i] → Kb b (wr.alloc (.cells #[.int .i64 l[i].k, .int .u64 l[i].n, .string l[i].s, .slice bb l[i].l.length cc] 33)) w5 → Cn w5 b f5 → f5 ≤ fi + m → (Kb b w w5 ∧ f5 ≤ f + (l.map (fcF D)).sum) ∧ w5.heap[w.heap.size + 1]? = wr.heap[w.heap.size + 1]? ∧ wr.heap.size + 1 ≤ w5.heap.size) := by
          intro w5 f5 m hm k1 k2 k3
          subst hm
          have hB := HSr.out
          refine ⟨⟨(HL.out.kb.alloc2 _).trans k1, HSB.out f5 (HSM.out f5 k3)⟩, ?_, by have := k1.size; simpa using this⟩
          rw [k1.block (w.heap.size + 1) (by simp; omega) (by omega), Below.heap_alloc _ _ _ hB]
        have HFil : Hid (∀ w5 : World, w5.heap[w.heap.size + 1]? = wr.heap[w.heap.size + 1]? → ∀ j, j < N * 6 → w5.frozen? ⟨w.heap.size + 1, j, none⟩ = false ∧ ∃ u, w5.cell? ⟨w.heap.size + 1, j, none⟩ = some u) := by
          intro w5 h5 j hj
          obtain ⟨y, y1, -⟩ := HL.out.fil
          exact (y1.far h5).at j hj
        obtain ⟨m, hm⟩ : ∃ m, m = fcF D l[i] := ⟨_, rfl⟩
        obtain ⟨r, hr⟩ : ∃ r, r = rdT D l[i] := ⟨_, rfl⟩
        rw [← hm, ← hr] at hcl
        have HMR := hide_p (And.intro hm hr)
        clear hcs hO hlies hfi1 hfi2 hsum hm hr
        generalize l[i].n = n1 at *
        generalize l[i].k = k1 at *
        generalize l[i].s = s1 at *
        generalize l[i].l.length = m1 at *
        go_wp2_with fail
        refine hcl.mono ?_
        rintro e w5 ⟨pa, rg, a1, n1, c1, a2, n2, c2, a3, n3, c3, a4, n4, c4, f5, rfl, hkb5, hcn5, hf5, hok5⟩
        obtain ⟨hfb1, hfb2, hfb3⟩ := HFB.out w5 f5 m HMR.out.1 hkb5 hcn5 hf5
        have HFB1 := hide_p hfb1
        have HCN5 := hide_p hcn5
        have hs5 : w.heap.size + 1 < w5.heap.size := by have := HSr.out; omega
        clear hcl l0 l1 l2 l3
        cases O with
        | false =>
          have hR := HFF.out rfl
          subst hR
          clear hok5 HFF HTK hkb5 hcn5 hf5 hfb1 hfb2 hfb3
          go_wp2
          go_ret2
          exact ⟨_, _, _, f5, rfl, HFB1.out.1.alloc2 _, HCN5.out.same (Below.heap_alloc _ _ _ HCN5.out.lt), HFB1.out.2, fun e => by cases e⟩
        | true =>
          have HNX := hide_p (fun o5 W => HIX.out m r HMR.out.1 HMR.out.2 w5 f5 pa rg a1 n1 c1 a2 n2 c2 a3 n3 c3 a4 n4 c4 o5 W hkb5 hcn5 hf5 (hok5 rfl))
          obtain ⟨f0, u0, c0⟩ := HFil.out w5 hfb2 (i * 6) (by omega)
          obtain ⟨f1, u1, c1'⟩ := HFil.out w5 hfb2 (i * 6 + 1) (by omega)
          obtain ⟨f2, u2, c2'⟩ := HFil.out w5 hfb2 (i * 6 + 2) (by omega)
          obtain ⟨f3, u3, c3'⟩ := HFil.out w5 hfb2 (i * 6 + 3) (by omega)
          obtain ⟨f4, u4, c4'⟩ := HFil.out w5 hfb2 (i * 6 + 4) (by omega)
          obtain ⟨f5', u5, c5'⟩ := HFil.out w5 hfb2 (i * 6 + 5) (by omega)
          have hzz : w5.heap.size ≠ w.heap.size + 1 := by omega
          clear hok5 HFF hkb5 hcn5 hf5 hfb1 hfb2 hfb3 HIX HFB
          go_wp2
          obtain ⟨y1, y2⟩ := HNX.out _ _ rfl
          go_roundw
          case rel => exact ⟨i + 1, by omega, by go_num, y1, HTK, y2⟩
          case measure => simp [intOf]; omega
      · have e : i = N := by omega
        have hA := HA.out
        rw [List.take_of_length_le (by have := HN.out; omega), ← HR2.out] at hA
        have HS : Hid (RdL wr w.heap.size (.slice (some ⟨w.heap.size + 1, 0, none⟩) N N) D l) := by
          obtain ⟨y, y1, y2⟩ := HL.out.fil
          rw [e] at y1
          refine ⟨y, ?_, fun a m c he _ => ?_, fun j hj => ?_⟩
          · rw [← HN.out]
            exact y1.sl (by decide) (by unfold far; omega) (fun _ _ _ _ => rfl)
          · cases he
            exact Nat.le_succ _
          · exact PRS.widen (fun k hk => by omega) _ _ (y2 j hj (by have := HN.out; omega))
        obtain ⟨fi, hfi1, hfi2⟩ := HL.out.cn
        have HE : Hid (Kb b w wr ∧ Cn wr b fi ∧ fi ≤ f + (l.map (fcF D)).sum) := ⟨HL.out.kb, hfi1, by have := fc_take_le D l i; omega⟩
        subst e hA
        clear HA hfi1 hfi2
        go_wp2
        go_ret2
        first | exact ⟨_, _, _, fi, rfl, HE.out.1, HE.out.2.1, HE.out.2.2, fun _ => HS.out⟩ | exact ⟨_, _, _, rfl, HE.out.1, fi, HE.out.2.1, HE.out.2.2, HS.out⟩ | exact ⟨_, _, _, rfl, HE.out.1, ⟨fi, HE.out.2.1, HE.out.2.2⟩, HS.out⟩
  · have hR : R = false := by rw [HR.out]; unfold allB; simp [hk]
    subst hR
    go_enter Tryd.func55, Tryd.ntmps55
    go_upto_region 1 with fail
    rw [← hw1]
    clear hw1
    go_wp2
    go_ret2
    exact ⟨_, _, _, f, rfl, HK1.out, HC1.out, Nat.le_add_right _ _, fun e => by cases e⟩

end Go.Proofs.YtcblknghkgihcaaDoor
namespace Go.Proofs.YtcblknghkgihcaaDoor
set_option maxRecDepth 100000
open Go.RowKit Crc Pg

theorem szPr : (Tryd.prog.info? 27).map (fun i => i.size) = some 6 := by kernel_rfl
theorem tlist6 {l : List Tr} (h : l.length = 6) : ∃ p0 p1 p2 p3 p4 p5, l = [p0, p1, p2, p3, p4, p5] := by
  match l, h with
  | [p0, p1, p2, p3, p4, p5], _ => exact ⟨p0, p1, p2, p3, p4, p5, rfl⟩
theorem block6 {w : World} {b : Nat} {T : TypeId} {fr : Nat × Nat} {x0 x1 x2 x3 x4 x5 : Value} (h : w.heap[b]? = some (.cells #[x0, x1, x2, x3, x4, x5] T fr)) :
    w.cell? ⟨b, 0, none⟩ = some x0 ∧ w.cell? ⟨b, 1, none⟩ = some x1 ∧ w.cell? ⟨b, 2, none⟩ = some x2 ∧ w.cell? ⟨b, 3, none⟩ = some x3 ∧ w.cell? ⟨b, 4, none⟩ = some x4 ∧ w.cell? ⟨b, 5, none⟩ = some x5 :=
  ⟨by rw [Lib.cell_of_heap h]; rfl, by rw [Lib.cell_of_heap h]; rfl, by rw [Lib.cell_of_heap h]; rfl, by rw [Lib.cell_of_heap h]; rfl, by rw [Lib.cell_of_heap h]; rfl, by rw [Lib.cell_of_heap h]; rfl⟩
theorem set6_block {w : World} {b : Nat} {T : TypeId} {x0 x1 x2 x3 x4 x5 : Value} (h : w.heap[b]? = some (.cells #[x0, x1, x2, x3, x4, x5] T (0, 0))) (v0 v1 v2 v3 v4 v5 : Value) :
    ((((((w.setCell ⟨b, 0, none⟩ v0).setCell ⟨b, 1, none⟩ v1).setCell ⟨b, 2, none⟩ v2).setCell ⟨b, 3, none⟩ v3).setCell ⟨b, 4, none⟩ v4).setCell ⟨b, 5, none⟩ v5).heap[b]? = some (.cells #[v0, v1, v2, v3, v4, v5] T (0, 0)) := by
  have z1 := heap_setCell_same _ _ 0 _ _ v0 h
  have z2 := heap_setCell_same _ _ 1 _ _ v1 z1
  have z3 := heap_setCell_same _ _ 2 _ _ v2 z2
  have z4 := heap_setCell_same _ _ 3 _ _ v3 z3
  have z5 := heap_setCell_same _ _ 4 _ _ v4 z4
  exact heap_setCell_same _ _ 5 _ _ v5 z5
theorem set6_other {w : World} {b k : Nat} (h : k ≠ b) (v0 v1 v2 v3 v4 v5 : Value) :
    ((((((w.setCell ⟨b, 0, none⟩ v0).setCell ⟨b, 1, none⟩ v1).setCell ⟨b, 2, none⟩ v2).setCell ⟨b, 3, none⟩ v3).setCell ⟨b, 4, none⟩ v4).setCell ⟨b, 5, none⟩ v5).heap[k]? = w.heap[k]? := by
  rw [heap_setCell_other _ _ _ _ h, heap_setCell_other _ _ _ _ h, heap_setCell_other _ _ _ _ h, heap_setCell_other _ _ _ _ h, heap_setCell_other _ _ _ _ h, heap_setCell_other _ _ _ _ h]
theorem Pg.SL.move {S : Nat → Prop} {w w' : World} {v : Value} {n z : Nat} {F : Nat → Nat → Value → Prop} (h : SL w v n z F) (hz : 0 < z) (hs : InB S v) (k : ∀ b, S b → b < w.heap.size → w'.heap[b]? = w.heap[b]?) : SL w' v n z F :=
  h.same (h.inb hz hs) (fun b hb => k b hb.1 hb.2)
theorem Pg.Kb.set6 {b B : Nat} {w w' : World} (h : Kb b w w') (hB : w.heap.size ≤ B) (v0 v1 v2 v3 v4 v5 : Value) :
    Kb b w ((((((w'.setCell ⟨B, 0, none⟩ v0).setCell ⟨B, 1, none⟩ v1).setCell ⟨B, 2, none⟩ v2).setCell ⟨B, 3, none⟩ v3).setCell ⟨B, 4, none⟩ v4).setCell ⟨B, 5, none⟩ v5) :=
  (((((h.setFar hB v0).setFar hB v1).setFar hB v2).setFar hB v3).setFar hB v4).setFar hB v5
theorem Pg.Kb.drew {b : Nat} {w w' : World} (h : Kb b w w') : Kb b w w'.drew := ⟨h.os, h.tape, h.output, h.size, h.block⟩

set_option maxHeartbeats 8000000 in
theorem function_any : ∀ (D : Nat) (t : Tr) (v : Value) (w : World) (b f : Nat), CS w (fun k => k < b) t v → Stx t → t.dep < D → t.cnt ≤ 1000000 → Cn w b f → f + fcF D t ≤ 4096 →
      Calls Tryd.prog 35 #[.pointer (some ⟨b, 0, none⟩), v] w (FnR w b f (okF D t) (fcF D t) (rdT D t)) := by
  intro D
  induction D with
  | zero => intro t v w b f _ _ h; omega
  | succ D ih =>
  intro t v w b f h hst hdep hcnt hcn hf
  have hmf : ∀ (fn : Fn) (first cap : Array Value) (w : World), (Instr.makeFunc fn first cap).run Tryd.prog w = .ok (.func fn first cap) w := fun _ _ _ _ => rfl
  obtain ⟨a, cap, rfl⟩ := h.shape
  obtain ⟨k, n, s, l⟩ := t
  simp only at h ⊢
  have HC := hide_p h
  have HST := hide_p hst
  have HDC : Hid (deps l ≤ D ∧ cnts l ≤ 1000000) := ⟨by rw [Tr.dep_mk] at hdep; omega, by rw [Tr.cnt_mk] at hcnt; omega⟩
  have HIH := hide_p ih
  have HCN := hide_p hcn
  have hblt := hcn.lt
  have hcap := h.cr.parts.2.2.2.1
  have hcap2 := h.cr.parts.2.2.2.2.1
  obtain ⟨R, hR⟩ : ∃ R, R = okF (D + 1) (.mk k n s l) := ⟨_, rfl⟩
  obtain ⟨m, hm⟩ : ∃ m, m = fcF (D + 1) (.mk k n s l) := ⟨_, rfl⟩
  obtain ⟨r, hr⟩ : ∃ r, r = rdT (D + 1) (.mk k n s l) := ⟨_, rfl⟩
  rw [← hR, ← hm, ← hr]
  rw [← hm] at hf
  have HRR := hide_p hR
  have HMM := hide_p hm
  have HRD := hide_p hr
  have hm1 : 1 ≤ m := by rw [hm, fcF]; omega
  have HF := hide_p hf
  have hf1 : ((f : Int) + 1 ≤ 4096) := by omega
  have hf2 : ¬ ((f : Int) + 1 > 4096) := by omega
  have HL : Hid (∀ w', Calls Tryd.prog 47 #[.agg #[.int .i64 k, .int .u64 n, .string s, .slice a l.length cap], .int .i64 6] w' fun e w'' => e = .returned (.bool (lisV k l.length 6)) ∧ Below w'.heap.size w' w'') := fun w' => isList_any k n s a l.length cap 6 w'
  obtain ⟨q, hq⟩ : ∃ q, q = lisV k l.length 6 := ⟨_, rfl⟩
  have hqR : q = false → R = false := by
    intro e
    rw [hR, okF]
    rw [hq] at e
    have : lisB (.mk k n s l) 6 = false := by
      unfold lisV at e
      unfold lisB
      simp only [Bool.and_eq_false_iff, decide_eq_false_iff_not] at e ⊢
      rcases e with e | e
      · exact Or.inl e
      · exact Or.inr (by omega)
    rw [this]
    rfl
  have hqT : q = true → k = 2 ∧ l.length = 6 := by
    intro e
    rw [hq] at e
    unfold lisV at e
    simp only [Bool.and_eq_true, decide_eq_true_eq] at e
    exact ⟨e.1, by omega⟩
  rw [← hq] at HL
  clear ih h hst hdep hcnt hcn hR hm hr hf hq
  unfold cellV
  obtain ⟨w2, hw2⟩ : ∃ w2, w2 = ((w.setCell ⟨b, 0, none⟩ (.int .i64 ((f : Int) + 1))).alloc (.cells #[.int .i64 k, .int .u64 n, .string s, .slice a l.length cap] 33)).alloc (.cells #[.int .i64 0, .int .i64 0, .slice none 0 0, .slice none 0 0, .slice none 0 0, .slice none 0 0] 27) := ⟨_, rfl⟩
  have HK2 : Hid (Kb b w w2) := by show Kb _ _ _; rw [hw2]; exact ((Kb.set b 0 _ w).alloc2 _).alloc2 _
  have HS2 : Hid (w2.heap.size = w.heap.size + 2) := by show _ = _; rw [hw2]; simp
  have HC2 : Hid (Cn w2 b (f + 1)) := by show Cn _ _ _; rw [hw2]; exact ((HCN.out.set (f + 1)).same (Below.heap_alloc _ _ _ (by simp; omega))).same (Below.heap_alloc _ _ _ (by simp; omega))
  have HB2 : Hid (w2.heap[w.heap.size]? = some (.cells #[.int .i64 k, .int .u64 n, .string s, .slice a l.length cap] 33 (0, 0)) ∧ w2.heap[w.heap.size + 1]? = some (.cells #[.int .i64 0, .int .i64 0, .slice none 0 0, .slice none 0 0, .slice none 0 0, .slice none 0 0] 27 (0, 0))) := by
    show _ ∧ _
    rw [hw2]
    refine ⟨?_, heap_alloc_at _ _ _ (by simp)⟩
    rw [Below.heap_alloc _ _ _ (by simp)]
    exact heap_alloc_at _ _ _ (by simp)
  have HZ : Hid (∀ wq, Kb b w2 wq → (∀ j, wq.frozen? ⟨w.heap.size + 1, j, none⟩ = false) ∧ wq.heap[w.heap.size + 1]? = some (.cells #[.int .i64 0, .int .i64 0, .slice none 0 0, .slice none 0 0, .slice none 0 0, .slice none 0 0] 27 (0, 0)) ∧ wq.heap[w.heap.size]? = some (.cells #[.int .i64 k, .int .u64 n, .string s, .slice a l.length cap] 33 (0, 0))) := by
    intro wq hq
    have hs := HS2.out
    have e2 := (hq.block (w.heap.size + 1) (by omega) (by omega)).trans HB2.out.2
    exact ⟨fun j => Lib.frozen_of_heap e2 j, e2, (hq.block w.heap.size (by omega) (by omega)).trans HB2.out.1⟩
  have HBAD : Hid (∀ wq f', Kb b w2 wq → Cn wq b f' → ∀ W, W = ((((((wq.setCell ⟨w.heap.size + 1, 0, none⟩ (.int .i64 0)).setCell ⟨w.heap.size + 1, 1, none⟩ (.int .i64 0)).setCell ⟨w.heap.size + 1, 2, none⟩ (.slice none 0 0)).setCell ⟨w.heap.size + 1, 3, none⟩ (.slice none 0 0)).setCell ⟨w.heap.size + 1, 4, none⟩ (.slice none 0 0)).setCell ⟨w.heap.size + 1, 5, none⟩ (.slice none 0 0)) → W.heap[w.heap.size + 1]? = some (.cells #[.int .i64 0, .int .i64 0, .slice none 0 0, .slice none 0 0, .slice none 0 0, .slice none 0 0] 27 (0, 0)) ∧ Kb b w W ∧ Cn W b f') := by
    intro wq f' hq hc W hW
    obtain ⟨-, e2, -⟩ := HZ.out wq hq
    rw [hW]
    exact ⟨set6_block e2 _ _ _ _ _ _, Kb.set6 (HK2.out.trans hq) (by omega) _ _ _ _ _ _, hc.same (set6_other (by omega) _ _ _ _ _ _)⟩
  obtain ⟨x0, x1, x2, x3⟩ := block4 HB2.out.1
  have hs2 := HS2.out
  have m0 : w2.cell? ⟨b, 0, none⟩ = some (.int .i64 ((f : Int) + 1)) := by have h := HC2.out.cell; simpa using h
  go_enter Tryd.func35, Tryd.ntmps35
  have n0w := HCN.out.cell
  have n1w := HCN.out.fz
  go_upto_region 2 with fail
  rw [← hw2]
  clear hw2 n0w n1w
  go_wp2_with fail
  refine (HL.out _).mono ?_
  rintro e w3 ⟨rfl, hb3⟩
  have HK3 := hide_p (Kb.of_below (b := b) hb3)
  have HC3 := hide_p (HC2.out.below hb3)
  have hsz3 := hb3.size
  clear x0 x1 x2 x3 hb3 HL m0
  cases q with
  | false =>
    have hR := hqR rfl
    subst hR
    obtain ⟨hfz, e2, -⟩ := HZ.out w3 HK3.out
    obtain ⟨y0', y1', y2', y3', y4', y5'⟩ := block6 e2
    have f0 := hfz 0
    have f1 := hfz 1
    have f2 := hfz 2
    have f3 := hfz 3
    have f4 := hfz 4
    have f5 := hfz 5
    have HE := hide_p (HBAD.out w3 _ HK3.out HC3.out)
    clear hfz e2
    go_wp2
    obtain ⟨y1, y2, y3⟩ := HE.out _ rfl
    exact bodyPost_ret (results_cell_tmp rfl _ _ (w.heap.size + 1) _ _ _ _ rfl y1 Tryd.underlying27 rfl szPr) rfl ⟨_, _, _, _, _, _, _, _, _, _, _, _, _, _, _, rfl, y2, y3, by omega, fun e => by cases e⟩
  | true =>
    obtain ⟨rfl, hl⟩ := hqT rfl
    obtain ⟨p0, p1, p2, p3, p4, p5, rfl⟩ := tlist6 hl
    clear hl hqR hqT
    simp only [List.length_cons, List.length_nil, Nat.zero_add, Nat.reduceAdd] at hcap
    obtain ⟨g0, o0, b2, d2, rfl, hg0, li2, cs2⟩ := HC.out.get 2 (by simp)
    obtain ⟨_, _, b3, d3, e3, -, li3, cs3⟩ := HC.out.get 3 (by simp)
    cases e3
    obtain ⟨_, _, b4, d4, e3, -, li4, cs4⟩ := HC.out.get 4 (by simp)
    cases e3
    obtain ⟨_, _, b5, d5, e3, -, li5, cs5⟩ := HC.out.get 5 (by simp)
    cases e3
    simp only [List.getElem_cons_succ, List.getElem_cons_zero] at li2 li3 li4 li5 cs2 cs3 cs4 cs5
    have hdp := HDC.out.1
    have hcp := HDC.out.2
    simp only [deps_cons, cnts_cons, deps_nil, cnts_nil] at hdp hcp
    have st2 : Stx p2 := HST.out.kid (by simp)
    have st3 : Stx p3 := HST.out.kid (by simp)
    have st4 : Stx p4 := HST.out.kid (by simp)
    have st5 : Stx p5 := HST.out.kid (by simp)
    have hlen : ∀ p : Tr, p.cnt ≤ 1000000 → p.l.length ≤ 1000000 := by
      intro p hp
      obtain ⟨k, n, s, l⟩ := p
      rw [Tr.cnt_mk] at hp
      have := tlen_cnts l
      show l.length ≤ _
      omega
    have HN : Hid (∀ w', Kb b w w' → Calls Tryd.prog 48 #[.slice (some ⟨g0, o0, none⟩) 2 cap] w' fun e w'' => ∃ a' n' c', e = .returned (.tuple #[.slice a' n' c', .bool (numB p0 && numB p1)]) ∧ Below w'.heap.size w' w'' ∧ ((numB p0 && numB p1) = true → NumS w'' w'.heap.size (.slice a' n' c') [p0.n, p1.n])) := by
      intro w' hb
      have hk := (HC.out.kb hb hblt).cr
      have := numbers_any [p0, p1] (some ⟨g0, o0, none⟩) cap 2 n s w' (by simp) (hk.take 2 (by simp))
      have e1 : [p0, p1].all numB = (numB p0 && numB p1) := by simp
      rw [e1] at this
      exact this
    have HLU : Hid (∀ w', Kb b w w' → Calls Tryd.prog 49 #[.agg #[.int .i64 p2.k, .int .u64 p2.n, .string p2.s, .slice b2 p2.l.length d2], .func (.func 50) #[] #[]] w' fun e w'' => ∃ a' n' c', e = .returned (.tuple #[.slice a' n' c', .bool (allB upB p2)]) ∧ Below w'.heap.size w' w'' ∧ (allB upB p2 = true → SU w'' (.slice a' n' c') (p2.l.map rUp) ∧ InB (fun k => w'.heap.size ≤ k) (.slice a' n' c'))) :=
      fun w' hb => listU_any p2 _ w' (cs2.kb hb hblt).cr (hlen p2 (by omega))
    have HLI : Hid (∀ w', Kb b w w' → Calls Tryd.prog 51 #[.agg #[.int .i64 p3.k, .int .u64 p3.n, .string p3.s, .slice b3 p3.l.length d3], .func (.func 52) #[] #[]] w' fun e w'' => ∃ a' n' c', e = .returned (.tuple #[.slice a' n' c', .bool (allB insB p3)]) ∧ Below w'.heap.size w' w'' ∧ (allB insB p3 = true → SI w'' (.slice a' n' c') (p3.l.map rIns) ∧ InB (fun k => w'.heap.size ≤ k) (.slice a' n' c'))) :=
      fun w' hb => listI_any p3 _ w' (cs3.kb hb hblt).cr (hlen p3 (by omega))
    have HLV : Hid (∀ w', Kb b w w' → Calls Tryd.prog 53 #[.agg #[.int .i64 p4.k, .int .u64 p4.n, .string p4.s, .slice b4 p4.l.length d4], .func (.func 54) #[] #[]] w' fun e w'' => ∃ a' n' c', e = .returned (.tuple #[.slice a' n' c', .bool (allB vlB p4)]) ∧ Below w'.heap.size w' w'' ∧ (allB vlB p4 = true → SV w'' (.slice a' n' c') (p4.l.map rVl) ∧ InB (fun k => w'.heap.size ≤ k) (.slice a' n' c'))) :=
      fun w' hb => listV_any p4 _ w' (cs4.kb hb hblt).cr st4 (hlen p4 (by omega))
    have hsumm : f + 1 + ((manyL p5).map (fcF D)).sum = f + m := by
      rw [HMM.out, fcF, atT_mk]
      show _ = f + (1 + ((manyL p5).map (fcF D)).sum)
      omega
    have HLP : Hid (∀ w', Kb b w w' → Cn w' b (f + 1) → Calls Tryd.prog 55 #[.agg #[.int .i64 p5.k, .int .u64 p5.n, .string p5.s, .slice b5 p5.l.length d5], .func (.func 35) #[.pointer (some ⟨b, 0, none⟩)] #[]] w' fun e w'' => ∃ a' n' c' f', e = .returned (.tuple #[.slice a' n' c', .bool (allB (okF D) p5)]) ∧ Kb b w' w'' ∧ Cn w'' b f' ∧ f' ≤ f + m ∧ (allB (okF D) p5 = true → RdL w'' w'.heap.size (.slice a' n' c') D p5.l)) := by
      intro w' hb hc
      have := listP_of D HIH.out p5 _ w' b (f + 1) (cs5.kb hb hblt) st5 (by omega) (by omega) hc (by rw [hsumm]; exact HF.out)
      rw [hsumm] at this
      exact this
    have HLIES : Hid (∀ w', Kb b w w' → Lies w' g0 o0 2 p2.k p2.n p2.s (.slice b2 p2.l.length d2) ∧ Lies w' g0 o0 3 p3.k p3.n p3.s (.slice b3 p3.l.length d3) ∧ Lies w' g0 o0 4 p4.k p4.n p4.s (.slice b4 p4.l.length d4) ∧ Lies w' g0 o0 5 p5.k p5.n p5.s (.slice b5 p5.l.length d5)) :=
      fun w' hb => ⟨hb.lies hg0 hblt li2, hb.lies hg0 hblt li3, hb.lies hg0 hblt li4, hb.lies hg0 hblt li5⟩
    obtain ⟨A, hA⟩ : ∃ A, A = (numB p0 && numB p1) := ⟨_, rfl⟩
    have hn := HN.out w3 (HK2.out.trans HK3.out)
    rw [← hA] at hn
    have HAl := hide_p hA
    obtain ⟨-, -, e3⟩ := HZ.out w3 HK3.out
    obtain ⟨x0, x1, x2, x3⟩ := block4 e3
    simp only [List.length_cons, List.length_nil, Nat.zero_add, Nat.reduceAdd] at x3
    have HBX : Hid (∀ wq, Kb b w2 wq → wq.cell? ⟨w.heap.size, 0, none⟩ = some (.int .i64 2) ∧ wq.cell? ⟨w.heap.size, 1, none⟩ = some (.int .u64 n) ∧ wq.cell? ⟨w.heap.size, 2, none⟩ = some (.string s) ∧ wq.cell? ⟨w.heap.size, 3, none⟩ = some (.slice (some ⟨g0, o0, none⟩) 6 cap)) := by
      intro wq hq
      obtain ⟨-, -, e3⟩ := HZ.out wq hq
      exact block4 e3
    clear hA e3 HN li2 li3 li4 li5 cs2 cs3 cs4 cs5 st2 st3 st4 st5 hlen hsumm hdp hcp
    go_wp2_with fail
    refine hn.mono ?_
    rintro e w4 ⟨a', n', c', rfl, hb4, hok⟩
    have HK4 := hide_p (HK3.out.trans (Kb.of_below (b := b) hb4))
    have HC4 := hide_p (HC3.out.below hb4)
    have hsz4 := hb4.size
    clear hn hb4 x0 x1 x2 x3
    cases A with
    | false =>
      have hR : R = false := by rw [HRR.out, okF]; simp only [atT_mk, List.getD_cons_zero, List.getD_cons_succ]; rw [← HAl.out]; simp
      subst hR
      clear hok HLU HLI HLV HLP HLIES HBX
      obtain ⟨hfz, e2, -⟩ := HZ.out w4 HK4.out
      obtain ⟨y0', y1', y2', y3', y4', y5'⟩ := block6 e2
      have f0 := hfz 0
      have f1 := hfz 1
      have f2 := hfz 2
      have f3 := hfz 3
      have f4 := hfz 4
      have f5 := hfz 5
      have HE := hide_p (HBAD.out w4 _ HK4.out HC4.out)
      clear hfz e2
      go_wp2
      obtain ⟨y1, y2, y3⟩ := HE.out _ rfl
      exact bodyPost_ret (results_cell_tmp rfl _ _ (w.heap.size + 1) _ _ _ _ rfl y1 Tryd.underlying27 rfl szPr) rfl ⟨_, _, _, _, _, _, _, _, _, _, _, _, _, _, _, rfl, y2, y3, by omega, fun e => by cases e⟩
    | true =>
      obtain ⟨g, hg, hg2, hg3⟩ := hok rfl
      injection hg with hg4 hg5 hg6
      subst hg4 hg5 hg6
      have d0 : w4.cell? ⟨g, 0, none⟩ = some (.int .i64 p0.n) := hg3 0 (by simp)
      have d1 : w4.cell? ⟨g, 1, none⟩ = some (.int .i64 p1.n) := hg3 1 (by simp)
      have HD := hide_p (And.intro d0 d1)
      have hgl : g < w4.heap.size := World.block_lt_of_cell? w4 _ d0
      obtain ⟨R2, hR2⟩ : ∃ R2, R2 = allB upB p2 := ⟨_, rfl⟩
      obtain ⟨R3, hR3⟩ : ∃ R3, R3 = allB insB p3 := ⟨_, rfl⟩
      obtain ⟨R4, hR4⟩ : ∃ R4, R4 = allB vlB p4 := ⟨_, rfl⟩
      obtain ⟨R5, hR5⟩ : ∃ R5, R5 = allB (okF D) p5 := ⟨_, rfl⟩
      have HRQ : Hid (R = (((R2 && R3) && R4) && R5)) := by
        show _ = _
        rw [HRR.out, okF, hR2, hR3, hR4, hR5]
        simp only [atT_mk, List.getD_cons_zero, List.getD_cons_succ]
        rw [← HAl.out]
        have : lisB (.mk 2 n s [p0, p1, p2, p3, p4, p5]) 6 = true := rfl
        rw [this]
        simp
      have HR25 : Hid ((R2 = true → p2.k = 2) ∧ (R3 = true → p3.k = 2) ∧ (R4 = true → p4.k = 2) ∧ (R5 = true → p5.k = 2)) := by
        rw [hR2, hR3, hR4, hR5]
        unfold allB
        refine ⟨fun e => ?_, fun e => ?_, fun e => ?_, fun e => ?_⟩ <;> (simp only [Bool.and_eq_true, decide_eq_true_eq] at e; exact e.1)
      rw [← hR2] at HLU
      rw [← hR3] at HLI
      rw [← hR4] at HLV
      rw [← hR5] at HLP
      simp only [List.length_cons, List.length_nil, Nat.zero_add, Nat.reduceAdd]
      clear hok hg3 d0 d1 hR2 hR3 hR4 hR5
      obtain ⟨x0, x1, x2, x3⟩ := HBX.out w4 HK4.out
      obtain ⟨⟨l0, l1, l2, l3⟩, -⟩ := HLIES.out w4 (HK2.out.trans HK4.out)
      simp only [Nat.reduceMul] at l0 l1 l2 l3
      go_wp2_with fail
      refine (HLU.out w4 (HK2.out.trans HK4.out)).mono ?_
      rintro e w5 ⟨a2, n2, c2, rfl, hb5, hu⟩
      have HU := hide_p hu
      have HK45 := hide_p (Kb.of_below (b := b) hb5)
      have HK5 := hide_p (HK4.out.trans HK45.out)
      have HC5 := hide_p (HC4.out.below hb5)
      have hsz5 := hb5.size
      clear hu hb5 x0 x1 x2 x3 l0 l1 l2 l3 HLU
      obtain ⟨x0, x1, x2, x3⟩ := HBX.out w5 HK5.out
      obtain ⟨-, ⟨l0, l1, l2, l3⟩, -⟩ := HLIES.out w5 (HK2.out.trans HK5.out)
      simp only [Nat.reduceMul] at l0 l1 l2 l3
      go_wp2_with fail
      refine (HLI.out w5 (HK2.out.trans HK5.out)).mono ?_
      rintro e w6 ⟨a3, n3, c3, rfl, hb6, hu⟩
      have HI := hide_p hu
      have HK56 := hide_p (Kb.of_below (b := b) hb6)
      have HK6 := hide_p (HK5.out.trans HK56.out)
      have HC6 := hide_p (HC5.out.below hb6)
      have hsz6 := hb6.size
      clear hu hb6 x0 x1 x2 x3 l0 l1 l2 l3 HLI
      obtain ⟨x0, x1, x2, x3⟩ := HBX.out w6 HK6.out
      obtain ⟨-, -, ⟨l0, l1, l2, l3⟩, -⟩ := HLIES.out w6 (HK2.out.trans HK6.out)
      simp only [Nat.reduceMul] at l0 l1 l2 l3
      go_wp2_with fail
      refine (HLV.out w6 (HK2.out.trans HK6.out)).mono ?_
      rintro e w7 ⟨a4, n4, c4, rfl, hb7, hu⟩
      have HV := hide_p hu
      have HK67 := hide_p (Kb.of_below (b := b) hb7)
      have HK7 := hide_p (HK6.out.trans HK67.out)
      have HC7 := hide_p (HC6.out.below hb7)
      have hsz7 := hb7.size
      clear hu hb7 x0 x1 x2 x3 l0 l1 l2 l3 HLV
      obtain ⟨x0, x1, x2, x3⟩ := HBX.out w7 HK7.out
      obtain ⟨-, -, -, ⟨l0, l1, l2, l3⟩⟩ := HLIES.out w7 (HK2.out.trans HK7.out)
      simp only [Nat.reduceMul] at l0 l1 l2 l3
      go_wp2_with fail
      refine (HLP.out w7 (HK2.out.trans HK7.out) HC7.out).mono ?_
      rintro e w8 ⟨a5, n5, c5, f8, rfl, hb8, hcn8, hf8, hu⟩
      have HP := hide_p hu
      have HK78 := hide_p hb8
      have HK8 := hide_p (HK7.out.trans hb8)
      have HC8 := hide_p hcn8
      have HF8 := hide_p hf8
      have hsz8 := hb8.size
      clear hu hb8 hcn8 hf8 x0 x1 x2 x3 l0 l1 l2 l3 HLP HLIES HBX
      have HK48 := hide_p (((HK45.out.trans HK56.out).trans HK67.out).trans HK78.out)
      have d0 := HK48.out.cell hgl (by omega) HD.out.1
      have d1 := HK48.out.cell hgl (by omega) HD.out.2
      obtain ⟨hfz, e2, -⟩ := HZ.out w8 HK8.out
      obtain ⟨y0', y1', y2', y3', y4', y5'⟩ := block6 e2
      have f0 := hfz 0
      have f1 := hfz 1
      have f2 := hfz 2
      have f3 := hfz 3
      have f4 := hfz 4
      have f5 := hfz 5
      have hB8 : w.heap.size + 1 < w8.heap.size := by omega
      have HE : Hid (∀ ob W, W = (((((((w8.setCell ⟨w.heap.size + 1, 0, none⟩ (.int .i64 p0.n)).setCell ⟨w.heap.size + 1, 1, none⟩ (.int .i64 p1.n)).setCell ⟨w.heap.size + 1, 2, none⟩ (.slice a2 n2 c2)).setCell ⟨w.heap.size + 1, 3, none⟩ (.slice a3 n3 c3)).setCell ⟨w.heap.size + 1, 4, none⟩ (.slice a4 n4 c4)).setCell ⟨w.heap.size + 1, 5, none⟩ (.slice a5 n5 c5)).alloc ob).drew → W.heap[w.heap.size + 1]? = some (.cells #[.int .i64 p0.n, .int .i64 p1.n, .slice a2 n2 c2, .slice a3 n3 c3, .slice a4 n4 c4, .slice a5 n5 c5] 27 (0, 0)) ∧ Kb b w W ∧ Cn W b f8 ∧
          (R = true → PRS (fun k => w.heap.size ≤ k) W r ⟨p0.n, p1.n, .slice a2 n2 c2, .slice a3 n3 c3, .slice a4 n4 c4, .slice a5 n5 c5⟩)) := by
        intro ob W hW
        have hs8 : ((((((w8.setCell ⟨w.heap.size + 1, 0, none⟩ (.int .i64 p0.n)).setCell ⟨w.heap.size + 1, 1, none⟩ (.int .i64 p1.n)).setCell ⟨w.heap.size + 1, 2, none⟩ (.slice a2 n2 c2)).setCell ⟨w.heap.size + 1, 3, none⟩ (.slice a3 n3 c3)).setCell ⟨w.heap.size + 1, 4, none⟩ (.slice a4 n4 c4)).setCell ⟨w.heap.size + 1, 5, none⟩ (.slice a5 n5 c5)).heap.size = w8.heap.size := by simp only [World.size_setCell]
        have hoth : ∀ k, k ≠ w.heap.size + 1 → k < w8.heap.size → W.heap[k]? = w8.heap[k]? := by
          intro k h1 h2
          rw [hW]
          show (((((((w8.setCell ⟨w.heap.size + 1, 0, none⟩ (.int .i64 p0.n)).setCell ⟨w.heap.size + 1, 1, none⟩ (.int .i64 p1.n)).setCell ⟨w.heap.size + 1, 2, none⟩ (.slice a2 n2 c2)).setCell ⟨w.heap.size + 1, 3, none⟩ (.slice a3 n3 c3)).setCell ⟨w.heap.size + 1, 4, none⟩ (.slice a4 n4 c4)).setCell ⟨w.heap.size + 1, 5, none⟩ (.slice a5 n5 c5)).alloc ob).heap[k]? = _
          rw [Below.heap_alloc _ _ _ (by rw [hs8]; exact h2), set6_other h1]
        refine ⟨?_, ?_, HC8.out.same (hoth b (by omega) HC8.out.lt), fun hR => ?_⟩
        · rw [hW]
          show (((((((w8.setCell ⟨w.heap.size + 1, 0, none⟩ (.int .i64 p0.n)).setCell ⟨w.heap.size + 1, 1, none⟩ (.int .i64 p1.n)).setCell ⟨w.heap.size + 1, 2, none⟩ (.slice a2 n2 c2)).setCell ⟨w.heap.size + 1, 3, none⟩ (.slice a3 n3 c3)).setCell ⟨w.heap.size + 1, 4, none⟩ (.slice a4 n4 c4)).setCell ⟨w.heap.size + 1, 5, none⟩ (.slice a5 n5 c5)).alloc ob).heap[w.heap.size + 1]? = _
          rw [Below.heap_alloc _ _ _ (by rw [hs8]; exact hB8)]
          exact set6_block e2 _ _ _ _ _ _
        · rw [hW]
          exact ((Kb.set6 (HK2.out.trans HK8.out) (by omega) _ _ _ _ _ _).alloc2 ob).drew
        · have hq := HRQ.out
          rw [hR] at hq
          have hq2 := hq.symm
          simp only [Bool.and_eq_true] at hq2
          obtain ⟨⟨⟨e2, e3⟩, e4⟩, e5⟩ := hq2
          obtain ⟨k2, k3, k4, k5⟩ := HR25.out
          have hnn := HAl.out.symm
          simp only [Bool.and_eq_true] at hnn
          obtain ⟨s0, -, u0⟩ := sm_num hnn.1
          obtain ⟨s1, -, u1⟩ := sm_num hnn.2
          obtain ⟨U1, U2⟩ := HU.out e2
          obtain ⟨I1, I2⟩ := HI.out e3
          obtain ⟨V1, V2⟩ := HV.out e4
          obtain ⟨y, P1, P2, P3⟩ := HP.out e5
          have h78 : ∀ k, w.heap.size + 2 ≤ k → k < w7.heap.size → W.heap[k]? = w7.heap[k]? := fun k h1 h2 => (hoth k (by omega) (by omega)).trans (HK78.out.block k h2 (by omega))
          have h68 : ∀ k, w.heap.size + 2 ≤ k → k < w6.heap.size → W.heap[k]? = w6.heap[k]? := fun k h1 h2 => (h78 k h1 (by omega)).trans (HK67.out.block k h2 (by omega))
          have h58 : ∀ k, w.heap.size + 2 ≤ k → k < w5.heap.size → W.heap[k]? = w5.heap[k]? := fun k h1 h2 => (h68 k h1 (by omega)).trans (HK56.out.block k h2 (by omega))
          rw [HRD.out, rdT]
          simp only [atT_mk, List.getD_cons_zero, List.getD_cons_succ]
          rw [many_of (k2 e2), many_of (k3 e3), many_of (k4 e4), many_of (k5 e5), s0, s1, PRS_mk]
          refine ⟨rfl, rfl, ⟨by omega, by omega⟩, ⟨by omega, by omega⟩, ⟨⟨U1.1.move (by decide) U2 (fun k h1 h2 => h58 k (by omega) h2), U1.2⟩, U2.widen (fun k hk => by omega)⟩, ⟨⟨I1.1.move (by decide) I2 (fun k h1 h2 => h68 k (by omega) h2), I1.2⟩, I2.widen (fun k hk => by omega)⟩, ⟨⟨V1.1.move (by decide) V2 (fun k h1 h2 => h78 k (by omega) h2), V1.2⟩, V2.widen (fun k hk => by omega)⟩, y, ⟨?_, P2.widen (fun k hk => by omega)⟩, fun i hi => ?_⟩
          · rw [List.length_map]
            exact P1.move (by decide) P2 (fun k h1 h2 => hoth k (by omega) h2)
          · rw [List.length_map] at hi
            rw [List.getElem_map]
            exact PRS.widen (fun k hk => by omega) _ _ (PRS.same (w' := W) (fun k hk => hoth k (by omega) hk.2) _ _ (PRS.lt _ _ (P3 i hi)))
      clear hfz e2
      go_wp2_with fail
      have hg8 : g < w8.heap.size := by omega
      have hgz : ¬ g = w8.heap.size := by omega
      go_region
      clear HU HI HV HP HK45 HK56 HK67 HK78 HK48 HR25 HRR HRD HMM HAl HD
      cases R2 <;> cases R3 <;> cases R4 <;> cases R5
      all_goals (have hRq := HRQ.out; simp only [Bool.and_true, Bool.and_false, Bool.and_self] at hRq; subst hRq)
      all_goals go_wp2
      all_goals obtain ⟨y1, y2, y3, y4⟩ := HE.out _ _ rfl
      all_goals exact bodyPost_ret (results_cell_tmp rfl _ _ (w.heap.size + 1) _ _ _ _ rfl y1 Tryd.underlying27 rfl szPr) rfl ⟨_, _, _, _, _, _, _, _, _, _, _, _, _, _, f8, rfl, y2, y3, HF8.out, by first | exact y4 | exact fun _ => y4 trivial | exact fun e => by cases e⟩


end Go.Proofs.YtcblknghkgihcaaDoor
namespace Go.Proofs.YtcblknghkgihcaaDoor
set_option maxRecDepth 100000
open Go.RowKit Crc Pg

/-- The box bx holds a function under way, whose rows are one's own. -/
structure RfS (w : World) (C : Array Value) (wr : World) (bx : Nat) (pa rg : Int) (bu bc bk bp vu vc vk : Value) (lu : List Upp) (lc : List Ins) (lk : List Vl) : Prop where
  bel : Below w.heap.size w wr
  hbx : w.heap.size + 2 ≤ bx
  cb : wr.heap[w.heap.size]? = some (.cells C 33 (0, 0))
  rs : wr.heap[w.heap.size + 1]? = some (.cells #[.int .i64 0, .int .i64 0, .slice none 0 0, .slice none 0 0, .slice none 0 0, .slice none 0 0] 27 (0, 0))
  blk : wr.heap[bx]? = some (.cells #[.int .i64 pa, .int .i64 rg, bu, bc, bk, bp] 27 (0, 0))
  ru : wr.ownsRow (w.heap.size + 2) 54 2 vu lu.length (cellsF lu.length 2 (uppC lu))
  rc : wr.ownsRow (w.heap.size + 2) 58 4 vc lc.length (cellsF lc.length 4 (insC lc))
  rk : wr.ownsRow (w.heap.size + 2) 63 4 vk lk.length (cellsF lk.length 4 (vlC lk))
section
variable {w : World} {C : Array Value} {wr : World} {bx : Nat} {pa rg : Int} {bu bc bk bp vu vc vk : Value} {lu : List Upp} {lc : List Ins} {lk : List Vl}
theorem blk_lt {w : World} {b : Nat} {o : Obj} (h : w.heap[b]? = some o) : b < w.heap.size := by
  rcases Nat.lt_or_ge b w.heap.size with h' | h'
  · exact h'
  · rw [Array.getElem?_eq_none h'] at h; cases h
theorem RfS.below {w' : World} (h : RfS w C wr bx pa rg bu bc bk bp vu vc vk lu lc lk) (k : Below wr.heap.size wr w') : RfS w C w' bx pa rg bu bc bk bp vu vc vk lu lc lk :=
  ⟨h.bel.trans (k.mono h.bel.size), h.hbx, (k.block _ (blk_lt h.cb)).trans h.cb, (k.block _ (blk_lt h.rs)).trans h.rs, (k.block _ (blk_lt h.blk)).trans h.blk, own_below h.ru k, own_below h.rc k, own_below h.rk k⟩
theorem RfS.sz (h : RfS w C wr bx pa rg bu bc bk bp vu vc vk lu lc lk) : w.heap.size + 2 < wr.heap.size := by have := blk_lt h.blk; have := h.hbx; omega
/-- Another row of the same box may grow. -/
theorem grown_low {B : Nat} {e : TypeId} {z n : Nat} {v : Value} {xs : List Value} {w wr w3 : World} (hb : Below w.heap.size w wr) (hB : w.heap.size ≤ B) (ho : wr.ownsRow B e z v n xs) (k : wr.grownBy w3 v.ownBlock) : Below w.heap.size w w3 :=
  ⟨k.os.trans hb.os, k.tape.trans hb.tape, k.output.trans hb.output, Nat.le_trans hb.size k.size, fun i hi => (k.block i (Nat.lt_of_lt_of_le hi hb.size) (fun e => by have := (ho.lt i e.symm).1; omega)).trans (hb.block i hi)⟩
theorem RfS.appU {w3 : World} {v' : Value} {x : Upp} (h : RfS w C wr bx pa rg bu bc bk bp vu vc vk lu lc lk) (q1 : w3.ownsRow (w.heap.size + 2) 54 2 v' (lu.length + 1) (cellsF lu.length 2 (uppC lu) ++ [.bool x.own, .int .i64 x.pl])) (q2 : wr.grownBy w3 vu.ownBlock) :
    RfS w C w3 bx pa rg bu bc bk bp v' vc vk (lu ++ [x]) lc lk := by
  have hs := h.ru
  have e : cellsF (lu ++ [x]).length 2 (uppC (lu ++ [x])) = cellsF lu.length 2 (uppC lu) ++ [.bool x.own, .int .i64 x.pl] := by
    rw [List.length_append, List.length_singleton]
    have h1 := cellsF_append (n := lu.length) (m := 1) (z := 2) (by decide) (uppC lu) (uppC [x])
    have h2 : cellsF 1 2 (uppC [x]) = [.bool x.own, .int .i64 x.pl] := rfl
    rw [← h2, ← h1]
    refine cellsF_congr (by decide) (fun i j hi _ => ?_)
    by_cases c : i < lu.length
    · simp only [if_pos c]
      unfold uppC
      rw [List.getElem?_append_left c]
    · simp only [if_neg c]
      unfold uppC
      rw [List.getElem?_append_right (by omega)]
  refine ⟨grown_low h.bel (by omega) hs q2, h.hbx, (q2.block _ (blk_lt h.cb) (fun e => own_neT hs h.cb (by decide) e.symm)).trans h.cb, (q2.block _ (blk_lt h.rs) (fun e => own_neT hs h.rs (by decide) e.symm)).trans h.rs, (q2.block _ (blk_lt h.blk) (fun e => own_neT hs h.blk (by decide) e.symm)).trans h.blk, ?_, h.rc.kept q2 (own_ne h.rc hs (by decide)), h.rk.kept q2 (own_ne h.rk hs (by decide))⟩
  rw [e, List.length_append, List.length_singleton]
  exact q1
theorem RfS.appI {w3 : World} {v' : Value} {x : Ins} (h : RfS w C wr bx pa rg bu bc bk bp vu vc vk lu lc lk) (q1 : w3.ownsRow (w.heap.size + 2) 58 4 v' (lc.length + 1) (cellsF lc.length 4 (insC lc) ++ [.int .i64 x.op, .int .i64 x.a, .int .i64 x.b, .int .i64 x.c])) (q2 : wr.grownBy w3 vc.ownBlock) :
    RfS w C w3 bx pa rg bu bc bk bp vu v' vk lu (lc ++ [x]) lk := by
  have hs := h.rc
  have e : cellsF (lc ++ [x]).length 4 (insC (lc ++ [x])) = cellsF lc.length 4 (insC lc) ++ [.int .i64 x.op, .int .i64 x.a, .int .i64 x.b, .int .i64 x.c] := by
    rw [List.length_append, List.length_singleton]
    have h1 := cellsF_append (n := lc.length) (m := 1) (z := 4) (by decide) (insC lc) (insC [x])
    have h2 : cellsF 1 4 (insC [x]) = [.int .i64 x.op, .int .i64 x.a, .int .i64 x.b, .int .i64 x.c] := rfl
    rw [← h2, ← h1]
    refine cellsF_congr (by decide) (fun i j hi _ => ?_)
    by_cases c : i < lc.length
    · simp only [if_pos c]
      unfold insC
      rw [List.getElem?_append_left c]
    · simp only [if_neg c]
      unfold insC
      rw [List.getElem?_append_right (by omega)]
  refine ⟨grown_low h.bel (by omega) hs q2, h.hbx, (q2.block _ (blk_lt h.cb) (fun e => own_neT hs h.cb (by decide) e.symm)).trans h.cb, (q2.block _ (blk_lt h.rs) (fun e => own_neT hs h.rs (by decide) e.symm)).trans h.rs, (q2.block _ (blk_lt h.blk) (fun e => own_neT hs h.blk (by decide) e.symm)).trans h.blk, h.ru.kept q2 (own_ne h.ru hs (by decide)), ?_, h.rk.kept q2 (own_ne h.rk hs (by decide))⟩
  rw [e, List.length_append, List.length_singleton]
  exact q1
theorem RfS.appV {w3 : World} {v' : Value} {x : Vl} (h : RfS w C wr bx pa rg bu bc bk bp vu vc vk lu lc lk) (q1 : w3.ownsRow (w.heap.size + 2) 63 4 v' (lk.length + 1) (cellsF lk.length 4 (vlC lk) ++ [.int .i64 x.k, .int .u64 x.n, .string x.s, .int .i64 x.o])) (q2 : wr.grownBy w3 vk.ownBlock) :
    RfS w C w3 bx pa rg bu bc bk bp vu vc v' lu lc (lk ++ [x]) := by
  have hs := h.rk
  have e : cellsF (lk ++ [x]).length 4 (vlC (lk ++ [x])) = cellsF lk.length 4 (vlC lk) ++ [.int .i64 x.k, .int .u64 x.n, .string x.s, .int .i64 x.o] := by
    rw [List.length_append, List.length_singleton]
    have h1 := cellsF_append (n := lk.length) (m := 1) (z := 4) (by decide) (vlC lk) (vlC [x])
    have h2 : cellsF 1 4 (vlC [x]) = [.int .i64 x.k, .int .u64 x.n, .string x.s, .int .i64 x.o] := rfl
    rw [← h2, ← h1]
    refine cellsF_congr (by decide) (fun i j hi _ => ?_)
    by_cases c : i < lk.length
    · simp only [if_pos c]
      unfold vlC
      rw [List.getElem?_append_left c]
    · simp only [if_neg c]
      unfold vlC
      rw [List.getElem?_append_right (by omega)]
  refine ⟨grown_low h.bel (by omega) hs q2, h.hbx, (q2.block _ (blk_lt h.cb) (fun e => own_neT hs h.cb (by decide) e.symm)).trans h.cb, (q2.block _ (blk_lt h.rs) (fun e => own_neT hs h.rs (by decide) e.symm)).trans h.rs, (q2.block _ (blk_lt h.blk) (fun e => own_neT hs h.blk (by decide) e.symm)).trans h.blk, h.ru.kept q2 (own_ne h.ru hs (by decide)), h.rc.kept q2 (own_ne h.rc hs (by decide)), ?_⟩
  rw [e, List.length_append, List.length_singleton]
  exact q1
theorem set_low {b j : Nat} {v : Value} {w wr : World} (hb : Below w.heap.size w wr) (hB : w.heap.size ≤ b) : Below w.heap.size w (wr.setCell ⟨b, j, none⟩ v) := hb.setCell (p := ⟨b, j, none⟩) hB v
theorem RfS.stU (h : RfS w C wr bx pa rg bu bc bk bp vu vc vk lu lc lk) (v : Value) : RfS w C (wr.setCell ⟨bx, 2, none⟩ v) bx pa rg v bc bk bp vu vc vk lu lc lk := by
  have hh := h.hbx
  exact ⟨set_low h.bel (by omega), h.hbx, (heap_setCell_other _ _ _ _ (by show _ ≠ bx; omega)).trans h.cb, (heap_setCell_other _ _ _ _ (by show _ ≠ bx; omega)).trans h.rs, heap_setCell_same _ _ 2 _ _ v h.blk, own_set h.ru h.blk (by decide) _, own_set h.rc h.blk (by decide) _, own_set h.rk h.blk (by decide) _⟩
theorem RfS.stI (h : RfS w C wr bx pa rg bu bc bk bp vu vc vk lu lc lk) (v : Value) : RfS w C (wr.setCell ⟨bx, 3, none⟩ v) bx pa rg bu v bk bp vu vc vk lu lc lk := by
  have hh := h.hbx
  exact ⟨set_low h.bel (by omega), h.hbx, (heap_setCell_other _ _ _ _ (by show _ ≠ bx; omega)).trans h.cb, (heap_setCell_other _ _ _ _ (by show _ ≠ bx; omega)).trans h.rs, heap_setCell_same _ _ 3 _ _ v h.blk, own_set h.ru h.blk (by decide) _, own_set h.rc h.blk (by decide) _, own_set h.rk h.blk (by decide) _⟩
theorem RfS.stV (h : RfS w C wr bx pa rg bu bc bk bp vu vc vk lu lc lk) (v : Value) : RfS w C (wr.setCell ⟨bx, 4, none⟩ v) bx pa rg bu bc v bp vu vc vk lu lc lk := by
  have hh := h.hbx
  exact ⟨set_low h.bel (by omega), h.hbx, (heap_setCell_other _ _ _ _ (by show _ ≠ bx; omega)).trans h.cb, (heap_setCell_other _ _ _ _ (by show _ ≠ bx; omega)).trans h.rs, heap_setCell_same _ _ 4 _ _ v h.blk, own_set h.ru h.blk (by decide) _, own_set h.rc h.blk (by decide) _, own_set h.rk h.blk (by decide) _⟩
theorem RfS.stP (h : RfS w C wr bx pa rg bu bc bk bp vu vc vk lu lc lk) (v : Value) : RfS w C (wr.setCell ⟨bx, 5, none⟩ v) bx pa rg bu bc bk v vu vc vk lu lc lk := by
  have hh := h.hbx
  exact ⟨set_low h.bel (by omega), h.hbx, (heap_setCell_other _ _ _ _ (by show _ ≠ bx; omega)).trans h.cb, (heap_setCell_other _ _ _ _ (by show _ ≠ bx; omega)).trans h.rs, heap_setCell_same _ _ 5 _ _ v h.blk, own_set h.ru h.blk (by decide) _, own_set h.rc h.blk (by decide) _, own_set h.rk h.blk (by decide) _⟩
end
/-- What is there ahead of the box. -/
structure R0S (w : World) (C : Array Value) (wr : World) : Prop where
  bel : Below w.heap.size w wr
  cb : wr.heap[w.heap.size]? = some (.cells C 33 (0, 0))
  rs : wr.heap[w.heap.size + 1]? = some (.cells #[.int .i64 0, .int .i64 0, .slice none 0 0, .slice none 0 0, .slice none 0 0, .slice none 0 0] 27 (0, 0))
theorem R0S.below {w wr w' : World} {C : Array Value} (h : R0S w C wr) (k : Below wr.heap.size wr w') : R0S w C w' :=
  ⟨h.bel.trans (k.mono h.bel.size), (k.block _ (blk_lt h.cb)).trans h.cb, (k.block _ (blk_lt h.rs)).trans h.rs⟩
theorem R0S.sz {w wr : World} {C : Array Value} (h : R0S w C wr) : w.heap.size + 2 ≤ wr.heap.size := by have := blk_lt h.rs; omega
theorem R0S.made {w wr : World} {C : Array Value} {g : Nat} {pa rg : Int} {x0 x1 x2 x3 x4 x5 : Value} (h : R0S w C wr) (hg : wr.heap[g]? = some (.cells #[x0, x1, x2, x3, x4, x5] 27 (0, 0))) (hge : w.heap.size + 2 ≤ g) :
    RfS w C ((((((wr.setCell ⟨g, 0, none⟩ (.int .i64 pa)).setCell ⟨g, 1, none⟩ (.int .i64 rg)).setCell ⟨g, 2, none⟩ (.slice none 0 0)).setCell ⟨g, 3, none⟩ (.slice none 0 0)).setCell ⟨g, 4, none⟩ (.slice none 0 0)).setCell ⟨g, 5, none⟩ (.slice none 0 0)) g pa rg (.slice none 0 0) (.slice none 0 0) (.slice none 0 0) (.slice none 0 0) (.slice none 0 0) (.slice none 0 0) (.slice none 0 0) [] [] [] :=
  ⟨set_low (set_low (set_low (set_low (set_low (set_low h.bel (by omega)) (by omega)) (by omega)) (by omega)) (by omega)) (by omega), hge, (set6_other (by omega) _ _ _ _ _ _).trans h.cb, (set6_other (by omega) _ _ _ _ _ _).trans h.rs, set6_block hg _ _ _ _ _ _, ⟨rfl, Or.inl ⟨rfl, rfl⟩⟩, ⟨rfl, Or.inl ⟨rfl, rfl⟩⟩, ⟨rfl, Or.inl ⟨rfl, rfl⟩⟩⟩
/-- One part in a block, to be laid behind a row. -/
theorem src_one {w : World} {g z : Nat} {xs : Array Value} {T : TypeId} {fr : Nat × Nat} (h : w.heap[g]? = some (.cells xs T fr)) (hz : xs.size = z) (h1 : ∀ u ∈ xs.toList, u.oneCell' = true) : Src w z (.slice (some ⟨g, 0, none⟩) 1 1) 1 xs.toList := by
  refine Or.inr ⟨⟨g, 0, none⟩, 1, rfl, by simp [hz], fun k u hu => ?_, h1⟩
  rw [addr_add, Lib.cell_of_heap h]
  simp only [Nat.zero_add]
  rw [← Array.getElem?_toList]
  exact hu
theorem many_get {a : Tr} {i : Nat} (h : i < (manyL a).length) : (manyL a)[i] = atT a i := by
  unfold manyL at h
  split at h
  · next c =>
    have e1 : manyL a = a.l := many_of c
    have e2 : atT a i = a.l[i] := by unfold atT; rw [if_pos c, List.getD_eq_getElem?_getD, List.getElem?_eq_getElem h]; rfl
    rw [e2]
    simp only [e1]
  · exact absurd h (Nat.not_lt_zero _)
theorem take_rd {α : Type} {f : Tr → α} {a : Tr} {i : Nat} (h : i < (manyL a).length) : ((manyL a).take (i + 1)).map f = ((manyL a).take i).map f ++ [f (atT a i)] := by
  rw [List.take_succ_eq_append_getElem h, List.map_append, many_get h]
  rfl

end Go.Proofs.YtcblknghkgihcaaDoor
namespace Go.Proofs.YtcblknghkgihcaaDoor
set_option maxRecDepth 100000
open Go.RowKit Crc Pg

/-- As RfS, with the row of functions that grows. -/
structure RfP (w : World) (C : Array Value) (wr : World) (bx : Nat) (pa rg : Int) (bu bc bk bp vu vc vk vp : Value) (lu : List Upp) (lc : List Ins) (lk : List Vl) (lp : List Pr) (y : Nat → Six) : Prop where
  rf : RfS w C wr bx pa rg bu bc bk bp vu vc vk lu lc lk
  pw : PW 27 wr (bx + 1) vp lp y
section
variable {w : World} {C : Array Value} {wr : World} {bx : Nat} {pa rg : Int} {bu bc bk bp vu vc vk vp : Value} {lu : List Upp} {lc : List Ins} {lk : List Vl} {lp : List Pr} {y : Nat → Six}
theorem RfP.bel (h : RfP w C wr bx pa rg bu bc bk bp vu vc vk vp lu lc lk lp y) : Below w.heap.size w wr := h.rf.bel
theorem RfP.blk (h : RfP w C wr bx pa rg bu bc bk bp vu vc vk vp lu lc lk lp y) : wr.heap[bx]? = some (.cells #[.int .i64 pa, .int .i64 rg, bu, bc, bk, bp] 27 (0, 0)) := h.rf.blk
theorem RfP.cb (h : RfP w C wr bx pa rg bu bc bk bp vu vc vk vp lu lc lk lp y) : wr.heap[w.heap.size]? = some (.cells C 33 (0, 0)) := h.rf.cb
theorem RfP.sz (h : RfP w C wr bx pa rg bu bc bk bp vu vc vk vp lu lc lk lp y) : bx + 1 ≤ wr.heap.size := blk_lt h.rf.blk
theorem RfP.below {w' : World} (h : RfP w C wr bx pa rg bu bc bk bp vu vc vk vp lu lc lk lp y) (k : Below wr.heap.size wr w') : RfP w C w' bx pa rg bu bc bk bp vu vc vk vp lu lc lk lp y :=
  ⟨h.rf.below k, h.pw.below k⟩
theorem RfP.app {w3 : World} {a' : Option Addr} {c' : Nat} {r : Pr} {x : Six} (h : RfP w C wr bx pa rg bu bc bk bp vu vc vk vp lu lc lk lp y) (hx : PRS (fun b => bx + 1 ≤ b ∧ some b ≠ vp.ownBlock) wr r x)
    (q1 : w3.ownsRow (bx + 1) 27 6 (.slice a' (lp.length + 1) c') (lp.length + 1) (cellsF lp.length 6 (sixC y) ++ [.int .i64 x.pa, .int .i64 x.rg, x.u, x.c, x.k, x.p])) (q2 : wr.grownBy w3 vp.ownBlock)
    (q3 : (Value.slice a' (lp.length + 1) c').ownBlock = vp.ownBlock ∨ (Value.slice a' (lp.length + 1) c').ownBlock = some wr.heap.size) :
    ∃ y', RfP w C w3 bx pa rg bu bc bk bp vu vc vk (.slice a' (lp.length + 1) c') lu lc lk (lp ++ [r]) y' := by
  have hs := h.pw.own
  have hh := h.rf.hbx
  have e6 : cellsF 1 6 (sixC fun _ => x) = [.int .i64 x.pa, .int .i64 x.rg, x.u, x.c, x.k, x.p] := rfl
  rw [← e6] at q1
  have hne : ∀ k, k ≤ bx → some k ≠ vp.ownBlock := fun k hk e => by have := (hs.lt k e.symm).1; omega
  refine ⟨_, ⟨?_, h.rf.hbx, (q2.block _ (blk_lt h.rf.cb) (hne _ (by omega))).trans h.rf.cb, (q2.block _ (blk_lt h.rf.rs) (hne _ (by omega))).trans h.rf.rs, (q2.block _ (blk_lt h.rf.blk) (hne _ (Nat.le_refl _))).trans h.rf.blk, h.rf.ru.kept q2 (own_ne h.rf.ru hs (by decide)), h.rf.rc.kept q2 (own_ne h.rf.rc hs (by decide)), h.rf.rk.kept q2 (own_ne h.rf.rk hs (by decide))⟩, h.pw.snoc hx q1 q2 q3⟩
  exact grown_low h.rf.bel (by omega) hs q2
theorem RfP.st (h : RfP w C wr bx pa rg bu bc bk bp vu vc vk vp lu lc lk lp y) (v : Value) : RfP w C (wr.setCell ⟨bx, 5, none⟩ v) bx pa rg bu bc bk v vu vc vk vp lu lc lk lp y := by
  refine ⟨h.rf.stP v, ?_, fun i hi => ?_⟩
  · refine h.pw.own.kept (row := some bx) ⟨rfl, rfl, rfl, by simp [World.setCell], fun k _ hk => Below.heap_setCell _ _ _ _ (fun e => hk (by simp [e]))⟩ (Or.inr (fun e => ?_))
    have := (h.pw.own.lt bx e).1
    omega
  · exact PRS.same (w' := wr.setCell ⟨bx, 5, none⟩ v) (fun k hk => heap_setCell_other _ _ _ _ (by show k ≠ bx; omega)) _ _ (h.pw.kid i hi)
end
/-- A function that was read. -/
def RdV (S : Nat → Prop) (w' : World) (r : Pr) (v : Value) : Prop :=
  ∃ (pa rg : Int) (a1 : Option Addr) (n1 c1 : Nat) (a2 : Option Addr) (n2 c2 : Nat) (a3 : Option Addr) (n3 c3 : Nat) (a4 : Option Addr) (n4 c4 : Nat), v = .agg #[.int .i64 pa, .int .i64 rg, .slice a1 n1 c1, .slice a2 n2 c2, .slice a3 n3 c3, .slice a4 n4 c4] ∧ PRS S w' r ⟨pa, rg, .slice a1 n1 c1, .slice a2 n2 c2, .slice a3 n3 c3, .slice a4 n4 c4⟩
/-- The same in a block of its own. -/
def RdG (S : Nat → Prop) (w' : World) (r : Pr) (v : Value) : Prop :=
  ∃ (g : Nat) (pa rg : Int) (a1 : Option Addr) (n1 c1 : Nat) (a2 : Option Addr) (n2 c2 : Nat) (a3 : Option Addr) (n3 c3 : Nat) (a4 : Option Addr) (n4 c4 : Nat), v = .slice (some ⟨g, 0, none⟩) 1 1 ∧ w'.heap[g]? = some (.cells #[.int .i64 pa, .int .i64 rg, .slice a1 n1 c1, .slice a2 n2 c2, .slice a3 n3 c3, .slice a4 n4 c4] 27 (0, 0)) ∧ PRS S w' r ⟨pa, rg, .slice a1 n1 c1, .slice a2 n2 c2, .slice a3 n3 c3, .slice a4 n4 c4⟩

end Go.Proofs.YtcblknghkgihcaaDoor
