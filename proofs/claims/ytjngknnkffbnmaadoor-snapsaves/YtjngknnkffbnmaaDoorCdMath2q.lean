/-
  Layer 7: what is read is written as it was; which trees are the same.
-/
import Derived.Test.YtjngknnkffbnmaaDoorCdMathq
namespace Go.Proofs.YtjngknnkffbnmaaDoor
set_option maxRecDepth 100000
open Go.RowKit Crc

theorem be_add (x y : Nat) : ∀ (k q : Nat), k ≤ q → be (x * 256 ^ q + y) k = be y k
  | 0, _, _ => rfl
  | k + 1, q, h => by
    simp only [be]
    rw [be_add x y k q (by omega), show (2 : Nat) ^ (8 * k) = 256 ^ k by rw [Nat.pow_mul]]
    congr 1
    obtain ⟨d, rfl⟩ : ∃ d, q = k + 1 + d := ⟨q - (k + 1), by omega⟩
    have e : x * 256 ^ (k + 1 + d) + y = y + 256 ^ k * (256 * (x * 256 ^ d)) := by
      rw [Nat.pow_add, Nat.pow_succ]
      have : x * (256 ^ k * 256 * 256 ^ d) = 256 ^ k * (256 * (x * 256 ^ d)) := by
        rw [Nat.mul_assoc (256 ^ k), Nat.mul_left_comm x, Nat.mul_left_comm x]
      omega
    rw [e, Nat.add_mul_div_left _ _ (Nat.pow_pos (by decide)), Nat.add_mul_mod_self_left]

theorem nb_cons (d : Nat) (l : List Nat) : nb (d :: l) = d * 256 ^ l.length + nb l := by
  have key : ∀ (l : List Nat) (a : Nat), l.foldl (fun n d => n * 256 + d) a = a * 256 ^ l.length + l.foldl (fun n d => n * 256 + d) 0 := by
    intro l
    induction l with
    | nil => intro a; simp
    | cons e l ih =>
      intro a
      simp only [List.foldl_cons, List.length_cons]
      rw [show 0 * 256 + e = e by omega, ih, ih e, Nat.pow_succ, Nat.add_mul, Nat.mul_assoc, Nat.mul_comm 256]
      omega
  unfold nb
  simp only [List.foldl_cons]
  rw [key]
  simp

theorem be_nb : ∀ {l : List Nat}, Sm8 l → be (nb l) l.length = l
  | [], _ => rfl
  | d :: l, h => by
    have hl : Sm8 l := fun x hx => h x (List.mem_cons_of_mem _ hx)
    have hd : d < 256 := h d List.mem_cons_self
    have hlt : nb l < 256 ^ l.length := by have := nb_lt hl l.length (Nat.le_refl _); rwa [List.take_length] at this
    rw [nb_cons, List.length_cons]
    simp only [be]
    rw [be_add d (nb l) l.length l.length (Nat.le_refl _), be_nb hl, show (2 : Nat) ^ (8 * l.length) = 256 ^ l.length by rw [Nat.pow_mul]]
    congr 1
    rw [Nat.mul_comm, Nat.mul_add_div (Nat.pow_pos (by decide)), Nat.div_eq_of_lt hlt, Nat.add_zero, Nat.mod_eq_of_lt hd]

theorem decL_back (D : Nat) (ih : ∀ l t r, Sm8 l → decT D l = .inr (t, r) → l = bT t ++ r ∧ ∀ l0 : List Nat, l0.length + (bT t).length ≤ 1048576 → encT t D l0 = .inr (l0 ++ bT t)) :
    ∀ (n : Nat) (l : List Nat) (ts : List Tr) (r : List Nat), Sm8 l → decL (decT D) n l = .inr (ts, r) → l = bL ts ++ r ∧ ∀ l0 : List Nat, l0.length + (bL ts).length ≤ 1048576 → encL ts D l0 = .inr (l0 ++ bL ts)
  | 0, l, ts, r, hs, h => by
    simp only [decL, Sum.inr.injEq, Prod.mk.injEq] at h
    obtain ⟨rfl, rfl⟩ := h
    exact ⟨by simp [bL_nil], fun l0 _ => by simp [encL_nil, bL_nil]⟩
  | n + 1, l, ts, r, hs, h => by
    rw [decL_succ] at h
    cases h1 : decT D l with
    | inl x => rw [h1] at h; cases h
    | inr p =>
      obtain ⟨t, l2⟩ := p
      rw [h1] at h
      simp only at h
      cases h2 : decL (decT D) n l2 with
      | inl x => rw [h2] at h; cases h
      | inr q =>
        obtain ⟨us, l3⟩ := q
        rw [h2] at h
        simp only [Sum.inr.injEq, Prod.mk.injEq] at h
        obtain ⟨rfl, rfl⟩ := h
        obtain ⟨e1, f1⟩ := ih l t l2 hs h1
        have hs2 : Sm8 l2 := by rw [e1] at hs; exact fun d hd => hs d (List.mem_append_right _ hd)
        obtain ⟨e2, f2⟩ := decL_back D ih n l2 us l3 hs2 h2
        refine ⟨by rw [e1, e2]; simp [bL_cons], fun l0 hl0 => ?_⟩
        simp only [bL_cons, List.length_append] at hl0
        simp only [encL_cons]
        rw [f1 l0 (by omega)]
        simp only
        rw [f2 _ (by rw [List.length_append]; omega)]
        simp [bL_cons]

/-- What is no list. -/
theorem dec_back_flat (D k : Nat) (l : List Nat) (hl : Sm8 l) (t : Tr) (r : List Nat) (k2 : ¬ k = 2) (h : decT D (k :: l) = .inr (t, r)) : k :: l = bT t ++ r ∧ ∀ l0 : List Nat, l0.length + (bT t).length ≤ 1048576 → encT t D l0 = .inr (l0 ++ bT t) := by
  unfold decT at h
  by_cases k0 : k = 0
  · rw [if_pos k0] at h
    by_cases c : l.length < 8
    · rw [if_pos c] at h; cases h
    · rw [if_neg c] at h
      simp only [Sum.inr.injEq, Prod.mk.injEq] at h
      obtain ⟨rfl, rfl⟩ := h
      have e := be_nb (hl.take 8)
      rw [show (l.take 8).length = 8 by rw [List.length_take]; omega] at e
      refine ⟨by simp only [bT_mk, if_true, e]; rw [k0]; simp, fun l0 hl0 => ?_⟩
      simp [bT_mk, be_length] at hl0
      simp only [encT_mk, bT_mk, if_true]
      rw [if_pos (by omega)]
  · rw [if_neg k0] at h
    by_cases k1 : k = 1
    · rw [if_pos k1] at h
      by_cases c : l.length < 4
      · rw [if_pos c] at h; cases h
      · rw [if_neg c] at h
        by_cases c2 : l.length - 4 < nb (l.take 4)
        · rw [if_pos c2] at h; cases h
        · rw [if_neg c2] at h
          simp only [Sum.inr.injEq, Prod.mk.injEq] at h
          obtain ⟨rfl, rfl⟩ := h
          have e := be_nb (hl.take 4)
          rw [show (l.take 4).length = 4 by rw [List.length_take]; omega] at e
          have e2 : (bsN ((l.drop 4).take (nb (l.take 4)))).size = nb (l.take 4) := by rw [bsN_size, List.length_take, List.length_drop]; omega
          have e3 := tx_bsN ((hl.drop 4).take (nb (l.take 4)))
          refine ⟨?_, fun l0 hl0 => ?_⟩
          · simp only [bT_mk, show ¬ (1 : Int) = 0 by decide, if_false, if_true, e2, e3, e]
            rw [k1, List.append_assoc, List.take_append_drop]
            simp
          · simp [bT_mk, be_length, tx_length, e2] at hl0
            simp only [encT_mk, bT_mk, show ¬ (1 : Int) = 0 by decide, if_false, if_true]
            rw [if_pos (by rw [e2]; omega)]
    · rw [if_neg k1, if_neg k2] at h
      cases h

theorem dec_back : ∀ (D : Nat) (l : List Nat) (t : Tr) (r : List Nat), Sm8 l → decT D l = .inr (t, r) → l = bT t ++ r ∧ ∀ l0 : List Nat, l0.length + (bT t).length ≤ 1048576 → encT t D l0 = .inr (l0 ++ bT t) := by
  intro D
  induction D with
  | zero =>
    intro l t r hs h
    cases l with
    | nil => simp [decT] at h
    | cons k l =>
      have hl : Sm8 l := fun x hx => hs x (List.mem_cons_of_mem _ hx)
      by_cases k2 : k = 2
      · unfold decT at h
        rw [if_neg (by omega), if_neg (by omega), if_pos k2] at h
        cases h
      · exact dec_back_flat 0 k l hl t r k2 h
  | succ D ih =>
    intro l t r hs h
    cases l with
    | nil => simp [decT] at h
    | cons k l =>
      have hl : Sm8 l := fun x hx => hs x (List.mem_cons_of_mem _ hx)
      by_cases k2 : k = 2
      · unfold decT at h
        rw [if_neg (by omega), if_neg (by omega), if_pos k2] at h
        simp only at h
        by_cases c : l.length < 4
        · rw [if_pos c] at h; cases h
        · rw [if_neg c] at h
          by_cases c2 : l.length - 4 < nb (l.take 4)
          · rw [if_pos c2] at h; cases h
          · rw [if_neg c2] at h
            cases h1 : decL (decT D) (nb (l.take 4)) (l.drop 4) with
            | inl x => rw [h1] at h; cases h
            | inr p =>
              obtain ⟨ts, l2⟩ := p
              rw [h1] at h
              simp only [Sum.inr.injEq, Prod.mk.injEq] at h
              obtain ⟨rfl, rfl⟩ := h
              obtain ⟨e1, f1⟩ := decL_back D ih _ _ _ _ (hl.drop 4) h1
              have en := decL_length _ _ _ _ _ h1
              have e := be_nb (hl.take 4)
              rw [show (l.take 4).length = 4 by rw [List.length_take]; omega] at e
              refine ⟨?_, fun l0 hl0 => ?_⟩
              · simp only [bT_mk, show ¬ (2 : Int) = 0 by decide, show ¬ (2 : Int) = 1 by decide, if_false, if_true, en, e]
                rw [k2, List.append_assoc, List.append_assoc, ← e1, List.take_append_drop]
                simp
              · simp [bT_mk, be_length] at hl0
                simp only [encT_mk, bT_mk, show ¬ (2 : Int) = 0 by decide, show ¬ (2 : Int) = 1 by decide, if_false, if_true]
                rw [if_pos (by omega), f1 _ (by simp [be_length]; omega)]
                simp [List.append_assoc]
      · exact dec_back_flat (D + 1) k l hl t r k2 h

theorem text_same (s s' : ByteArray) : (s.toList == s'.toList) = decide (s = s') := by
  by_cases c : s = s'
  · subst c; simp
  · rw [decide_eq_false c, beq_eq_false_iff_ne]
    intro e
    rw [ByteArray.toList_eq, ByteArray.toList_eq] at e
    exact c (Go.WideShapes.bytes_inj e)

theorem same_both : (∀ (t t' : Tr), sameT t t' = true ↔ cpT t = cpT t') ∧ (∀ (l l' : List Tr), sameL l l' = true ↔ cpL l = cpL l') := by
  refine Tr.ind ?_ ?_ ?_
  · intro k n s l ih0 t'
    obtain ⟨k', n', s', l'⟩ := t'
    have ih := ih0 l'
    rw [sameT_mk, cpT_mk, cpT_mk]
    by_cases c : k = k'
    · subst c
      rw [if_neg (by simp)]
      by_cases k0 : k = 0
      · simp [k0]
      · by_cases k1 : k = 1
        · simp only [k1, if_neg (show ¬ (1 : Int) = 0 by decide), if_true]
          rw [text_same]; simp
        · by_cases k2 : k = 2
          · simp only [k2, if_neg (show ¬ (2 : Int) = 0 by decide), if_neg (show ¬ (2 : Int) = 1 by decide), if_true]
            rw [ih]; simp
          · simp [k0, k1, k2]
    · rw [if_pos c]
      constructor
      · intro h; cases h
      · intro h
        exfalso
        have hk : ∀ (k : Int) (n : Nat) (s : ByteArray) (l : List Tr), ∃ n2 s2 l2, (if k = 0 then Tr.mk 0 n ⟨#[]⟩ [] else if k = 1 then .mk 1 0 s [] else if k = 2 then .mk 2 0 ⟨#[]⟩ l else .mk k 0 ⟨#[]⟩ []) = .mk k n2 s2 l2 := by
          intro k n s l
          by_cases k0 : k = 0
          · exact ⟨n, _, _, by rw [if_pos k0, k0]⟩
          · by_cases k1 : k = 1
            · exact ⟨0, s, _, by rw [if_neg k0, if_pos k1, k1]⟩
            · by_cases k2 : k = 2
              · exact ⟨0, _, l, by rw [if_neg k0, if_neg k1, if_pos k2, k2]⟩
              · exact ⟨0, _, _, by rw [if_neg k0, if_neg k1, if_neg k2]⟩
        obtain ⟨a1, a2, a3, e1⟩ := hk k n s (cpL l)
        obtain ⟨b1, b2, b3, e2⟩ := hk k' n' s' (cpL l')
        rw [e1, e2] at h
        injection h with h
        exact c h
  · intro l'
    cases l' with
    | nil => simp [sameL_nn]
    | cons u m => simp [sameL_nc, cpL_nil, cpL_cons]
  · intro a l iha ihl l'
    cases l' with
    | nil => simp [sameL_cn, cpL_nil, cpL_cons]
    | cons b m =>
      simp only [sameL_cc, cpL_cons, Bool.and_eq_true, List.cons.injEq]
      rw [iha b, ihl m]
theorem same_iff : ∀ (t t' : Tr), sameT t t' = true ↔ cpT t = cpT t' := same_both.1

theorem cp_both : (∀ t : Tr, cpT (cpT t) = cpT t) ∧ (∀ l : List Tr, cpL (cpL l) = cpL l) := by
  refine Tr.ind ?_ ?_ ?_
  · intro k n s l ih
    rw [cpT_mk]
    by_cases k0 : k = 0
    · simp [k0, cpT_mk]
    · by_cases k1 : k = 1
      · simp [k1, cpT_mk]
      · by_cases k2 : k = 2
        · simp [k2, cpT_mk, ih]
        · simp [k0, k1, k2, cpT_mk]
  · rfl
  · intro t l iht ihl
    rw [cpL_cons, cpL_cons, iht, ihl]
theorem cp_cp : ∀ t : Tr, cpT (cpT t) = cpT t := cp_both.1

theorem cpL_length (l : List Tr) : (cpL l).length = l.length := by rw [cpL_map, List.length_map]
theorem bT_both : (∀ t : Tr, bT (cpT t) = bT t) ∧ (∀ l : List Tr, bL (cpL l) = bL l) := by
  refine Tr.ind ?_ ?_ ?_
  · intro k n s l ih
    rw [cpT_mk]
    by_cases k0 : k = 0
    · simp [k0, bT_mk]
    · by_cases k1 : k = 1
      · simp [k1, bT_mk]
      · by_cases k2 : k = 2
        · simp [k2, bT_mk, ih, cpL_length]
        · simp [k0, k1, k2, bT_mk]
  · rfl
  · intro t l iht ihl
    rw [cpL_cons, bL_cons, bL_cons, iht, ihl]
theorem bT_cp : ∀ t : Tr, bT (cpT t) = bT t := bT_both.1

theorem same_cp (t : Tr) : sameT (cpT t) t = true := (same_iff _ _).mpr (cp_cp t)

theorem enc_top {t : Tr} {a : List Nat} (h : encT t 64 [] = .inr a) : a = bT t ∧ a.length ≤ 1048576 ∧ 1 ≤ a.length := by
  obtain ⟨e, h2, h3⟩ := encT_bytes t 64 [] a h
  simp at e
  subst e
  exact ⟨rfl, h2, h3⟩

theorem law_back {t : Tr} {a : List Nat} (h : encT t 64 [] = .inr a) (hn : NT t) : decD a = .inr (cpT t) := by
  obtain ⟨rfl, h2, _⟩ := enc_top h
  unfold decD
  have := dec_enc t 64 [] _ [] h hn
  rw [List.append_nil] at this
  rw [if_neg (by omega), this]
  simp

theorem law_begins {t t' : Tr} {a b : List Nat} (h : encT t 64 [] = .inr a) (h' : encT t' 64 [] = .inr b) (hn : NT t) (hn' : NT t') : decide (b.take a.length = a) = sameT t t' := by
  obtain ⟨rfl, _, _⟩ := enc_top h
  obtain ⟨rfl, _, _⟩ := enc_top h'
  have q1 := dec_enc t' 64 [] _ [] h' hn'
  rw [List.append_nil] at q1
  by_cases c : (bT t').take (bT t).length = bT t
  · rw [decide_eq_true c]
    have e : bT t' = bT t ++ (bT t').drop (bT t).length := by
      conv => lhs; rw [← List.take_append_drop (bT t).length (bT t'), c]
    have q2 := dec_enc t 64 [] _ ((bT t').drop (bT t).length) h hn
    rw [← e, q1] at q2
    simp only [Sum.inr.injEq, Prod.mk.injEq] at q2
    exact ((same_iff _ _).mpr q2.1.symm).symm
  · rw [decide_eq_false c]
    cases hs : sameT t t' with
    | false => rfl
    | true =>
      exfalso
      have e : bT t = bT t' := by rw [← bT_cp t, (same_iff _ _).mp hs, bT_cp]
      apply c
      rw [e, List.take_length]

theorem law_cut {t : Tr} {a : List Nat} (h : encT t 64 [] = .inr a) (hn : NT t) (i : Nat) (hi : i < a.length) : decD (a.take i) = .inl 3 := by
  have h0 := h
  obtain ⟨rfl, h2, _⟩ := enc_top h
  unfold decD
  rw [if_neg (by rw [List.length_take]; omega), dec_cut t 64 [] _ i h hn hi]

theorem law_more {t : Tr} {a : List Nat} (h : encT t 64 [] = .inr a) (hn : NT t) (x : Nat) : decD (a ++ [x]) = if a.length = 1048576 then .inl 2 else .inl 4 := by
  obtain ⟨rfl, h2, _⟩ := enc_top h
  unfold decD
  rw [dec_enc t 64 [] _ [x] h hn]
  by_cases c : (bT t).length = 1048576
  · rw [if_pos c, if_pos (by simp; omega)]
  · rw [if_neg c, if_neg (by simp; omega)]
    simp

theorem law_reads {l : List Nat} {t : Tr} (hs : Sm8 l) (h : decD l = .inr t) : encT t 64 [] = .inr l := by
  unfold decD at h
  by_cases c : 1048576 < l.length
  · rw [if_pos c] at h; cases h
  · rw [if_neg c] at h
    cases h1 : decT 64 l with
    | inl x => rw [h1] at h; cases h
    | inr p =>
      obtain ⟨t2, r⟩ := p
      rw [h1] at h
      simp only at h
      by_cases c2 : r.length = 0
      · rw [if_pos c2] at h
        injection h with h
        subst h
        obtain ⟨e, f⟩ := dec_back 64 l t2 r hs h1
        have e2 : r = [] := List.eq_nil_of_length_eq_zero c2
        rw [e2, List.append_nil] at e
        rw [f [] (by rw [← e]; simp; omega), ← e]
        simp
      · rw [if_neg c2] at h; cases h

theorem enc_err_both : (∀ (t : Tr) (D : Nat) (l : List Nat) (y : Nat), encT t D l = .inl y → y = 1 ∨ y = 2) ∧ (∀ (ts : List Tr) (D : Nat) (l : List Nat) (y : Nat), encL ts D l = .inl y → y = 1 ∨ y = 2) := by
  refine Tr.ind ?_ ?_ ?_
  · intro k n s ts ih D l y h
    rw [encT_mk] at h
    by_cases k0 : k = 0
    · rw [if_pos k0] at h
      split at h
      · cases h
      · injection h with h; omega
    · rw [if_neg k0] at h
      by_cases k1 : k = 1
      · rw [if_pos k1] at h
        split at h
        · cases h
        · injection h with h; omega
      · rw [if_neg k1] at h
        by_cases k2 : k = 2
        · rw [if_pos k2] at h
          cases D with
          | zero => injection h with h; omega
          | succ D =>
            simp only at h
            by_cases c : l.length + 5 ≤ 1048576
            · rw [if_pos c] at h; exact ih D _ y h
            · rw [if_neg c] at h; injection h with h; omega
        · rw [if_neg k2] at h; injection h with h; omega
  · intro D l y h
    simp [encL_nil] at h
  · intro t ts iht ihs D l y h
    simp only [encL_cons] at h
    cases h1 : encT t D l with
    | inl x => rw [h1] at h; injection h with h; subst h; exact iht D l x h1
    | inr m => rw [h1] at h; exact ihs D m y h
theorem enc_err : ∀ (t : Tr) (D : Nat) (l : List Nat) (y : Nat), encT t D l = .inl y → y = 1 ∨ y = 2 := enc_err_both.1

end Go.Proofs.YtjngknnkffbnmaaDoor
