/-
  Layer 15: texts as lists of bytes: places, parts. No Go in sight.
-/
import Derived.Test.YtflbolbhdiloeaaTxtMath
import Derived.Lib.Index
namespace Go.Proofs.Ytflbolbhdiloeaa.Tt
set_option maxRecDepth 100000
open Txt

theorem bs_toList (l : List UInt8) : (bs l).toList = l := by rw [Lib.toList_data, bs_list]
/-- A place, counted from the front. -/
def plc (n : Nat) (i : Int) : Int := if 0 ≤ i then i else max (i + n + 1) 0
/-- The part from a to b, places from the front. -/
def cutL (l : List UInt8) (a b : Int) : List UInt8 := if b < a then [] else (l.drop (a - 1).toNat).take (b - (a - 1)).toNat
/-- Sub. -/
def subL (l : List UInt8) (i j : Int) : List UInt8 := cutL l (max (plc l.length i) 1) (min (plc l.length j) l.length)
/-- Byte. -/
def bytZ (l : List UInt8) (i : Int) : Int := if 1 ≤ plc l.length i ∧ plc l.length i ≤ l.length then ((l.getD (plc l.length i - 1).toNat 0).toNat : Int) else 0
def bytB (l : List UInt8) (i : Int) : Bool := decide (1 ≤ plc l.length i ∧ plc l.length i ≤ l.length)
/-- The reference's At. -/
def atZ (i n low : Int) : Int := if (if i < 0 ∧ -n ≤ i then n + 1 + i else i) < low then low else (if i < 0 ∧ -n ≤ i then n + 1 + i else i)

theorem at_one (n : Nat) (i : Int) : atZ i n 1 = max (plc n i) 1 := by unfold atZ plc; repeat' split <;> omega
theorem at_zero (n : Nat) (i : Int) : atZ i n 0 = plc n i := by unfold atZ plc; repeat' split <;> omega
theorem plc_ge (n : Nat) (i : Int) : 0 ≤ plc n i := by unfold plc; split <;> omega
theorem plc_le {n : Nat} {i : Int} (hn : n ≤ 140737488351232) (hi : i ≤ 9223372036854775807) : plc n i ≤ 9223372036854775807 := by unfold plc; split <;> omega

theorem sub_len (l : List UInt8) (i j : Int) : (subL l i j).length ≤ l.length := by
  unfold subL cutL
  split
  · simp
  · rw [List.length_take, List.length_drop]; omega
theorem cut_next {l : List UInt8} {a k : Int} (h1 : 1 ≤ a) (hk : a ≤ k) (hl : k ≤ l.length) : cutL l a k = cutL l a (k - 1) ++ [l.getD (k - 1).toNat 0] := by
  have hd : ∀ m : Nat, (l.drop (a - 1).toNat).take m = if m = 0 then [] else (l.drop (a - 1).toNat).take m := by intro m; split <;> simp_all
  have e : cutL l a (k - 1) = (l.drop (a - 1).toNat).take (k - 1 - (a - 1)).toNat := by
    unfold cutL
    split
    · rw [show (k - 1 - (a - 1)).toNat = 0 by omega]; simp
    · rfl
  rw [e]
  unfold cutL
  rw [if_neg (by omega), show (k - (a - 1)).toNat = (k - 1 - (a - 1)).toNat + 1 by omega, List.take_add_one, List.getElem?_drop, show (a - 1).toNat + (k - 1 - (a - 1)).toNat = (k - 1).toNat by omega]
  congr 1
  rw [List.getElem?_eq_getElem (by omega), List.getD_eq_getElem?_getD, List.getElem?_eq_getElem (by omega)]
  rfl
theorem cut_none {l : List UInt8} {a b : Int} (h : b < a) : cutL l a b = [] := by unfold cutL; rw [if_pos h]
theorem cut_len {l : List UInt8} {a b : Int} (h1 : 1 ≤ a) (hab : a ≤ b + 1) (hb : b ≤ l.length) : ((cutL l a b).length : Int) = b + 1 - a := by
  unfold cutL
  split
  · simp; omega
  · rw [List.length_take, List.length_drop]; omega

/-- Cut, and joined. -/
theorem cut_join (l : List UInt8) (i : Nat) (hi : i ≤ l.length) : subL l 1 i ++ subL l ((i : Int) + 1) l.length = l := by
  unfold subL
  rw [show plc l.length 1 = 1 from rfl, show plc l.length (i : Int) = i by unfold plc; rw [if_pos (by omega)], show plc l.length ((i : Int) + 1) = i + 1 by unfold plc; rw [if_pos (by omega)], show plc l.length (l.length : Int) = l.length by unfold plc; rw [if_pos (by omega)]]
  unfold cutL
  by_cases c : i = 0
  · subst c
    rw [if_pos (by omega)]
    split
    · have : l = [] := List.eq_nil_of_length_eq_zero (by omega)
      subst this; rfl
    · rw [show (max ((0 : Nat) + 1 : Int) 1 - 1).toNat = 0 by omega, List.drop_zero, List.take_of_length_le (by omega)]; simp
  · rw [if_neg (by omega), show (max (1 : Int) 1 - 1).toNat = 0 by omega, show (min (i : Int) l.length - (max 1 1 - 1)).toNat = i by omega]
    split
    · rw [List.append_nil, List.drop_zero, List.take_of_length_le (by omega)]
    · rw [show (max ((i : Int) + 1) 1 - 1).toNat = i by omega, List.take_of_length_le (l := l.drop i) (by rw [List.length_drop]; omega), List.drop_zero, List.take_append_drop]

/-- Find: the place, and whether there is one. -/
def fndI (l t : List UInt8) (f : Int) : Int := Lib.index (l.drop (max (plc l.length f) 1 - 1).toNat) t
def fndB (l t : List UInt8) (f : Int) : Bool := decide (max (plc l.length f) 1 ≤ (l.length : Int) + 1 ∧ 0 ≤ fndI l t f)
def fndZ (l t : List UInt8) (f : Int) : Int := if max (plc l.length f) 1 ≤ (l.length : Int) + 1 ∧ 0 ≤ fndI l t f then max (plc l.length f) 1 + fndI l t f else 0
theorem occ_drop (l t : List UInt8) (a i : Nat) : Lib.occAt (l.drop a) t i = Lib.occAt l t (a + i) := by unfold Lib.occAt; rw [List.drop_drop]
/-- What a search step by step finds first. -/
theorem fnd_yes {l t : List UInt8} {f : Int} {o : Nat} (h1 : max (plc l.length f) 1 - 1 ≤ o) (h2 : o + t.length ≤ l.length) (h : Lib.occAt l t o = true)
    (hn : ∀ j : Nat, max (plc l.length f) 1 - 1 ≤ j → j < o → Lib.occAt l t j = false) : fndB l t f = true ∧ fndZ l t f = (o : Int) + 1 := by
  have hF : 1 ≤ max (plc l.length f) 1 := by omega
  unfold fndB fndZ fndI
  generalize max (plc l.length f) 1 = F at *
  have hi : Lib.index (l.drop (F - 1).toNat) t = ((o - (F - 1).toNat : Nat) : Int) := by
    refine Lib.index_first (by rw [List.length_drop]; omega) ?_ ?_
    · rw [occ_drop, show (F - 1).toNat + (o - (F - 1).toNat) = o by omega]; exact h
    · intro j hj
      rw [occ_drop]
      exact hn _ (by omega) (by omega)
  rw [hi]
  have hc : F ≤ (l.length : Int) + 1 ∧ (0 : Int) ≤ ((o - (F - 1).toNat : Nat) : Int) := ⟨by omega, by omega⟩
  rw [if_pos hc]
  exact ⟨decide_eq_true hc, by omega⟩
theorem fnd_no {l t : List UInt8} {f : Int} (hn : ∀ j : Nat, max (plc l.length f) 1 - 1 ≤ j → j ≤ l.length → Lib.occAt l t j = false) : fndB l t f = false ∧ fndZ l t f = 0 := by
  have hF : 1 ≤ max (plc l.length f) 1 := by omega
  unfold fndB fndZ fndI
  generalize max (plc l.length f) 1 = F at *
  have hc : ¬ (F ≤ (l.length : Int) + 1 ∧ 0 ≤ Lib.index (l.drop (F - 1).toNat) t) := by
    rintro ⟨h1, h2⟩
    have hi : Lib.index (l.drop (F - 1).toNat) t = -1 := by
      refine Lib.index_none ?_
      intro j hj
      rw [List.length_drop] at hj
      rw [occ_drop]
      exact hn _ (by omega) (by omega)
    omega
  rw [if_neg hc]
  exact ⟨decide_eq_false hc, rfl⟩
theorem occ_end {l t : List UInt8} {F x : Int} (hend : (l.length : Int) + 1 - t.length < x) (hn : ∀ j : Nat, F - 1 ≤ j → (j : Int) < x - 1 → Lib.occAt l t j = false) :
    ∀ j : Nat, F - 1 ≤ j → j ≤ l.length → Lib.occAt l t j = false := by
  intro j h1 h2
  cases c : Lib.occAt l t j with
  | false => rfl
  | true =>
    rcases Lib.occAt_room c with h | h
    · rw [hn j h1 (by omega)] at c; cases c
    · subst h
      simp at hend
      rw [hn j h1 (by omega)] at c; cases c
theorem idx_occ : ∀ (s t : List UInt8), 0 ≤ Lib.index s t → ∃ i : Nat, Lib.index s t = i ∧ i ≤ s.length ∧ Lib.occAt s t i = true
  | [], t, h => by
    cases t with
    | nil => exact ⟨0, rfl, Nat.le_refl _, rfl⟩
    | cons a r => exact absurd h (by unfold Lib.index; simp)
  | b :: l, t, h => by
    by_cases c : t.isPrefixOf (b :: l) = true
    · refine ⟨0, ?_, Nat.zero_le _, c⟩
      unfold Lib.index
      rw [if_pos c]; rfl
    · have e : Lib.index (b :: l) t = if Lib.index l t == -1 then -1 else Lib.index l t + 1 := by
        conv => lhs; unfold Lib.index
        rw [if_neg c]
      by_cases c2 : Lib.index l t = -1
      · rw [e, c2] at h
        exact absurd h (by decide)
      · have hg := Lib.index_ge l t
        obtain ⟨i, h1, h2, h3⟩ := idx_occ l t (by omega)
        refine ⟨i + 1, ?_, by simp; omega, h3⟩
        rw [e, if_neg (by simpa using c2), h1]
        omega
/-- Where it is found, it stands. -/
theorem fnd_stands {l t : List UInt8} {f : Int} (h : fndB l t f = true) : 1 ≤ fndZ l t f ∧ fndZ l t f + t.length - 1 ≤ l.length ∧ subL l (fndZ l t f) (fndZ l t f + t.length - 1) = t := by
  unfold fndB at h
  have hc := of_decide_eq_true h
  have hF : 1 ≤ max (plc l.length f) 1 := by omega
  unfold fndZ
  rw [if_pos hc]
  obtain ⟨h1, h2⟩ := hc
  unfold fndI at *
  generalize max (plc l.length f) 1 = F at *
  obtain ⟨i, e, h3, h4⟩ := idx_occ _ _ h2
  rw [e]
  rw [occ_drop] at h4
  rw [List.length_drop] at h3
  have hroom : (F - 1).toNat + i + t.length ≤ l.length := by
    rcases Lib.occAt_room h4 with h | h
    · exact h
    · subst h; simp; omega
  refine ⟨by omega, by omega, ?_⟩
  rw [Lib.occAt_iff_take _ _ _ hroom] at h4
  have h5 := eq_of_beq h4
  unfold subL
  rw [show plc l.length (F + i) = F + i by unfold plc; rw [if_pos (by omega)], show plc l.length (F + i + t.length - 1) = F + i + t.length - 1 by unfold plc; rw [if_pos (by omega)]]
  unfold cutL
  by_cases c : t = []
  · subst c
    rw [if_pos (by simp; omega)]
  · have : 0 < t.length := List.length_pos_iff.2 c
    rw [if_neg (by omega), show (max (F + i) 1 - 1).toNat = (F - 1).toNat + i by omega, show (min (F + (i : Int) + t.length - 1) l.length - (max (F + i) 1 - 1)).toNat = t.length by omega]
    exact h5

/-- a to z as A to Z. -/
def upB (c : UInt8) : UInt8 := if 97 ≤ c.toNat ∧ c.toNat ≤ 122 then UInt8.ofNat (c.toNat - 32) else c
theorem upB_yes {c : UInt8} (h : 97 ≤ c.toNat ∧ c.toNat ≤ 122) : ((upB c).toNat : Int) = c.toNat - 32 := by
  unfold upB
  rw [if_pos h, UInt8.toNat_ofNat']
  omega
theorem upB_no {c : UInt8} (h : ¬ (97 ≤ c.toNat ∧ c.toNat ≤ 122)) : upB c = c := by unfold upB; rw [if_neg h]
theorem up_next {l : List UInt8} {i : Nat} (h : i < l.length) : (l.take (i + 1)).map upB = (l.take i).map upB ++ [upB l[i]] := by
  rw [List.take_add_one, List.getElem?_eq_getElem h, List.map_append]; rfl

end Go.Proofs.Ytflbolbhdiloeaa.Tt
