/-
  Layer 7: bytes as a text.
-/
import Derived.Test.YtbkjghhghefejaaCdEncM
import Derived.Lib.Strings
namespace Go.Proofs.Ytbkjghhghefejaa
open Go.RowKit Crc

/-- Bytes as a string. -/
def bsN (l : List Nat) : ByteArray := strOfNums (l.map Int.ofNat)
theorem bsN_size (l : List Nat) : (bsN l).size = l.length := by unfold bsN; rw [strOfNums_size, List.length_map]
theorem tx_bsN {l : List Nat} (hl : Sm8 l) : tx (bsN l) = l := by
  unfold tx bsN
  rw [strOfNums_data, List.map_map, List.map_map]
  conv => rhs; rw [← List.map_id l]
  apply List.map_congr_left
  intro d hd
  have := hl d hd
  simp [Function.comp]
  omega
theorem tx_inj {s t : ByteArray} (h : tx s = tx t) : s = t := by
  unfold tx at h
  have e : s.data.toList = t.data.toList := by
    have := congrArg (List.map UInt8.ofNat) h
    rw [List.map_map, List.map_map] at this
    have f : (UInt8.ofNat ∘ UInt8.toNat) = id := by funext b; simp
    rw [f, List.map_id, List.map_id] at this
    exact this
  exact Go.WideShapes.bytes_inj e
theorem bsN_tx (s : ByteArray) : bsN (tx s) = s := tx_inj (tx_bsN (tx_sm s))
theorem bsN_inj {l m : List Nat} (hl : Sm8 l) (hm : Sm8 m) (h : bsN l = bsN m) : l = m := by rw [← tx_bsN hl, h, tx_bsN hm]
theorem bsN_eq {l m : List Nat} (hl : Sm8 l) (hm : Sm8 m) : ((bsN l).toList == (bsN m).toList) = decide (l = m) := by
  by_cases c : l = m
  · subst c; simp
  · rw [decide_eq_false c, beq_eq_false_iff_ne]
    intro e
    rw [ByteArray.toList_eq, ByteArray.toList_eq] at e
    exact c (bsN_inj hl hm (Go.WideShapes.bytes_inj e))
theorem conv_any {w : World} {v : Value} {l : List Nat} (h : BR w v l) : (convert 28 9 v).run Try.prog w = .ok (.string (bsN l)) w := by
  obtain ⟨s1, a, cap, rfl, h3, h4, h5⟩ := id h
  by_cases c : l.length = 0
  · have e : l = [] := List.eq_nil_of_length_eq_zero c
    subst e
    rcases h5 with ⟨rfl, rfl⟩ | ⟨x, rfl, _⟩
    · exact run_convert_bytes_nil w _ _ Try.underlying28 Try.underlying5 _ _ _ Try.underlying9
    · have := run_loadCells_list (P := Try.prog) w x [] (fun j u hj => by simp at hj)
      rw [run_convert_bytes_string w _ _ _ _ _ _ Try.underlying28 Try.underlying5 Try.underlying9, run_bytesToString w x _ cap [] (by simpa using this)]
      rfl
  · obtain ⟨b, o, rfl, _, hc⟩ := h.lies (by omega)
    refine run_convert_bytes_arg w _ _ Try.underlying28 Try.underlying5 b o l.length cap (l.map Int.ofNat) (by rw [List.length_map]) ?_ _ Try.underlying9
    intro i hi
    rw [hc i hi]
    congr 2
    rw [List.getD_eq_getElem?_getD, List.getD_eq_getElem?_getD, List.getElem?_map, List.getElem?_eq_getElem hi]
    rfl

/-- One cell read, or why none: 2 ErrLong, 3 ErrShort, 4 ErrForm; and what is left. -/
def decL (f : List Nat → Nat ⊕ (Tr × List Nat)) : Nat → List Nat → Nat ⊕ (List Tr × List Nat)
  | 0, l => .inr ([], l)
  | n + 1, l => match f l with
    | .inl x => .inl x
    | .inr (t, l2) => match decL f n l2 with
      | .inl x => .inl x
      | .inr (ts, l3) => .inr (t :: ts, l3)

def decT : Nat → List Nat → Nat ⊕ (Tr × List Nat)
  | _, [] => .inl 3
  | D, k :: l =>
    if k = 0 then (if l.length < 8 then .inl 3 else .inr (.mk 0 (nb (l.take 8)) ⟨#[]⟩ [], l.drop 8))
    else if k = 1 then (if l.length < 4 then .inl 3 else if l.length - 4 < nb (l.take 4) then .inl 3 else .inr (.mk 1 0 (bsN ((l.drop 4).take (nb (l.take 4)))) [], (l.drop 4).drop (nb (l.take 4))))
    else if k = 2 then (match D with
      | 0 => .inl 2
      | D + 1 => if l.length < 4 then .inl 3 else if l.length - 4 < nb (l.take 4) then .inl 3 else match decL (decT D) (nb (l.take 4)) (l.drop 4) with
        | .inl x => .inl x
        | .inr (ts, l2) => .inr (.mk 2 0 ⟨#[]⟩ ts, l2))
    else .inl 4

theorem decL_succ (f : List Nat → Nat ⊕ (Tr × List Nat)) (n : Nat) (l : List Nat) : decL f (n + 1) l = match f l with
    | .inl x => .inl x
    | .inr (t, l2) => match decL f n l2 with
      | .inl x => .inl x
      | .inr (ts, l3) => .inr (t :: ts, l3) := rfl

theorem decL_snoc (f : List Nat → Nat ⊕ (Tr × List Nat)) : ∀ (n : Nat) (l : List Nat), decL f (n + 1) l = match decL f n l with
    | .inl x => .inl x
    | .inr (ts, l2) => match f l2 with
      | .inl x => .inl x
      | .inr (t, l3) => .inr (ts ++ [t], l3)
  | 0, l => by
    simp only [decL]
    cases f l with
    | inl x => rfl
    | inr p => rfl
  | n + 1, l => by
    rw [decL_succ f (n + 1) l, decL_succ f n l]
    cases h : f l with
    | inl x => rfl
    | inr p =>
      obtain ⟨t, l2⟩ := p
      simp only
      rw [decL_snoc f n l2]
      cases decL f n l2 with
      | inl x => rfl
      | inr q =>
        obtain ⟨ts, l3⟩ := q
        simp only
        cases f l3 with
        | inl x => rfl
        | inr q => rfl

theorem decL_stop (f : List Nat → Nat ⊕ (Tr × List Nat)) (l : List Nat) (x i : Nat) (h : decL f i l = .inl x) : ∀ n, i ≤ n → decL f n l = .inl x := by
  intro n hn
  obtain ⟨d, rfl⟩ : ∃ d, n = i + d := ⟨n - i, by omega⟩
  clear hn
  induction d with
  | zero => exact h
  | succ d ih => rw [← Nat.add_assoc, decL_snoc, ih]

theorem decL_length (f : List Nat → Nat ⊕ (Tr × List Nat)) : ∀ (n : Nat) (l : List Nat) (ts : List Tr) (l2 : List Nat), decL f n l = .inr (ts, l2) → ts.length = n
  | 0, l, ts, l2, h => by simp [decL] at h; rw [h.1]; rfl
  | n + 1, l, ts, l2, h => by
    simp only [decL] at h
    cases h1 : f l with
    | inl x => rw [h1] at h; simp at h
    | inr p =>
      obtain ⟨t, l3⟩ := p
      rw [h1] at h
      simp only at h
      cases h2 : decL f n l3 with
      | inl x => rw [h2] at h; simp at h
      | inr q =>
        obtain ⟨us, l4⟩ := q
        rw [h2] at h
        simp only [Sum.inr.injEq, Prod.mk.injEq] at h
        rw [← h.1, List.length_cons, decL_length f n l3 us l4 h2]

end Go.Proofs.Ytbkjghhghefejaa
