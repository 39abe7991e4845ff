/-
  Layer 7: what is written is read as it, and the other way; no beginning; no part.
-/
import Derived.Test.YtjngknnkffbnmaaDoorCdLivesq
namespace Go.Proofs.YtjngknnkffbnmaaDoor
set_option maxRecDepth 100000
open Go.RowKit Crc

/-- The bytes of a tree. -/
def bT : Tr → List Nat
  | .mk k n s ts => if k = 0 then [0] ++ be n 8 else if k = 1 then [1] ++ be s.size 4 ++ tx s else if k = 2 then [2] ++ be ts.length 4 ++ (ts.map bT).flatten else []
def bL (ts : List Tr) : List Nat := (ts.map bT).flatten
theorem bT_mk (k : Int) (n : Nat) (s : ByteArray) (ts : List Tr) : bT (.mk k n s ts) = if k = 0 then [0] ++ be n 8 else if k = 1 then [1] ++ be s.size 4 ++ tx s else if k = 2 then [2] ++ be ts.length 4 ++ bL ts else [] := by rw [bT]; rfl
theorem bL_nil : bL [] = [] := rfl
theorem bL_cons (t : Tr) (ts : List Tr) : bL (t :: ts) = bT t ++ bL ts := rfl

/-- The numbers of a tree fit. -/
def NT : Tr → Prop
  | .mk _ n _ ts => n < 18446744073709551616 ∧ ∀ t ∈ ts, NT t
def NL (ts : List Tr) : Prop := ∀ t ∈ ts, NT t
theorem NT_mk (k : Int) (n : Nat) (s : ByteArray) (ts : List Tr) : NT (.mk k n s ts) = (n < 18446744073709551616 ∧ NL ts) := by rw [NT]; rfl
theorem NL_cons {t : Tr} {ts : List Tr} (h : NL (t :: ts)) : NT t ∧ NL ts := ⟨h t List.mem_cons_self, fun u hu => h u (List.mem_cons_of_mem _ hu)⟩

theorem NL_of {ts : List Tr} (h : ∀ i (h : i < ts.length), NT ts[i]) : NL ts := by
  intro t ht
  obtain ⟨i, hi, e⟩ := List.getElem_of_mem ht
  rw [← e]
  exact h i hi

theorem CR.nt {w : World} {t : Tr} {v : Value} (h : CR w t v) : NT t := by
  induction h using CR.ind with
  | mk k n s ts a cap ks ns ss us hk hn hs hl hc h0 hx hr ih =>
    rw [NT_mk]
    exact ⟨hn, NL_of ih⟩

theorem be_sm (n : Nat) : ∀ k, Sm8 (be n k)
  | 0 => by intro d hd; simp [be] at hd
  | k + 1 => by
    intro d hd
    simp only [be, List.mem_cons] at hd
    rcases hd with rfl | hd
    · exact Nat.mod_lt _ (by decide)
    · exact be_sm n k d hd

theorem nb_be (n : Nat) : ∀ k, nb (be n k) = n % 256 ^ k := by
  intro k
  have key : ∀ k a, (be n k).foldl (fun n d => n * 256 + d) a = a * 256 ^ k + n % 256 ^ k := by
    intro k
    induction k with
    | zero => intro a; simp [be, Nat.mod_one]
    | succ k ih =>
      intro a
      simp only [be, List.foldl_cons]
      rw [ih, Nat.pow_succ, show (2 : Nat) ^ (8 * k) = 256 ^ k by rw [Nat.pow_mul]]
      have h1 : n % (256 ^ k * 256) = n / 256 ^ k % 256 * 256 ^ k + n % 256 ^ k := by
        rw [Nat.mod_mul, Nat.mul_comm (256 ^ k)]; omega
      rw [h1, Nat.add_mul, Nat.mul_assoc, Nat.mul_comm 256 (256 ^ k)]
      omega
  have := key k 0
  unfold nb
  rw [this]; simp

theorem enc_bytes : (∀ (t : Tr) (D : Nat) (l m : List Nat), encT t D l = .inr m → m = l ++ bT t ∧ m.length ≤ 1048576 ∧ 1 ≤ (bT t).length) ∧
    (∀ (ts : List Tr) (D : Nat) (l m : List Nat), l.length ≤ 1048576 → encL ts D l = .inr m → m = l ++ bL ts ∧ m.length ≤ 1048576 ∧ ts.length ≤ (bL ts).length) := by
  refine Tr.ind ?_ ?_ ?_
  · intro k n s ts ih D l m h
    rw [encT_mk] at h
    rw [bT_mk]
    by_cases k0 : k = 0
    · rw [if_pos k0] at h ⊢
      by_cases c : l.length + 9 ≤ 1048576
      · rw [if_pos c] at h; injection h with h; exact ⟨h.symm, by rw [← h]; simp [be_length]; omega, by simp⟩
      · rw [if_neg c] at h; cases h
    · rw [if_neg k0] at h ⊢
      by_cases k1 : k = 1
      · rw [if_pos k1] at h ⊢
        by_cases c : l.length + 5 + s.size ≤ 1048576
        · rw [if_pos c] at h; injection h with h; exact ⟨h.symm, by rw [← h]; simp [be_length, tx_length]; omega, by simp⟩
        · rw [if_neg c] at h; cases h
      · rw [if_neg k1] at h ⊢
        by_cases k2 : k = 2
        · rw [if_pos k2] at h ⊢
          cases D with
          | zero => cases h
          | succ D =>
            simp only at h
            by_cases c : l.length + 5 ≤ 1048576
            · rw [if_pos c] at h
              obtain ⟨e, hb, _⟩ := ih D _ m (by simp [be_length]; omega) h
              exact ⟨by rw [e]; simp [List.append_assoc], hb, by simp⟩
            · rw [if_neg c] at h; cases h
        · rw [if_neg k2] at h; cases h
  · intro D l m hl h
    simp [encL_nil] at h
    subst h
    simp [bL_nil, hl]
  · intro t ts iht ihs D l m hl h
    simp only [encL_cons] at h
    cases h1 : encT t D l with
    | inl x => rw [h1] at h; cases h
    | inr m1 =>
      rw [h1] at h
      simp only at h
      obtain ⟨e1, h2, h3⟩ := iht D l m1 h1
      obtain ⟨e4, h5, h6⟩ := ihs D m1 m h2 h
      refine ⟨by rw [e4, e1]; simp [bL_cons], h5, ?_⟩
      simp only [bL_cons, List.length_append, List.length_cons]
      omega
theorem encT_bytes : ∀ (t : Tr) (D : Nat) (l m : List Nat), encT t D l = .inr m → m = l ++ bT t ∧ m.length ≤ 1048576 ∧ 1 ≤ (bT t).length := enc_bytes.1
theorem encL_bytes : ∀ (ts : List Tr) (D : Nat) (l m : List Nat), l.length ≤ 1048576 → encL ts D l = .inr m → m = l ++ bL ts ∧ m.length ≤ 1048576 ∧ ts.length ≤ (bL ts).length := enc_bytes.2

theorem take_app (a b : List Nat) (n : Nat) (h : a.length = n) : (a ++ b).take n = a := by rw [← h]; exact List.take_left
theorem drop_app (a b : List Nat) (n : Nat) (h : a.length = n) : (a ++ b).drop n = b := by rw [← h]; exact List.drop_left

theorem dec_enc_both : (∀ (t : Tr) (D : Nat) (l m r : List Nat), encT t D l = .inr m → NT t → decT D (bT t ++ r) = .inr (cpT t, r)) ∧
    (∀ (ts : List Tr) (D : Nat) (l m r : List Nat), l.length ≤ 1048576 → encL ts D l = .inr m → NL ts → decL (decT D) ts.length (bL ts ++ r) = .inr (cpL ts, r)) := by
  refine Tr.ind ?_ ?_ ?_
  · intro k n s ts ih D l m r h hn
    rw [NT_mk] at hn
    rw [encT_mk] at h
    rw [bT_mk, cpT_mk]
    by_cases k0 : k = 0
    · rw [if_pos k0] at h
      rw [if_pos k0, if_pos k0]
      simp only [List.cons_append, List.nil_append]
      unfold decT
      rw [if_pos rfl, if_neg (by simp [be_length]), take_app _ _ 8 (be_length n 8), drop_app _ _ 8 (be_length n 8), nb_be, Nat.mod_eq_of_lt hn.1]
    · rw [if_neg k0] at h
      rw [if_neg k0, if_neg k0]
      by_cases k1 : k = 1
      · rw [if_pos k1] at h
        rw [if_pos k1, if_pos k1]
        by_cases c : l.length + 5 + s.size ≤ 1048576
        · simp only [List.cons_append, List.nil_append, List.append_assoc]
          unfold decT
          have e : nb (be s.size 4) = s.size := by rw [nb_be, Nat.mod_eq_of_lt (by omega)]
          rw [if_neg (by decide), if_pos rfl, if_neg (by simp [be_length]), take_app _ _ 4 (be_length _ 4), drop_app _ _ 4 (be_length _ 4), e, if_neg (by simp [be_length, tx_length]), take_app _ _ _ (tx_length s), drop_app _ _ _ (tx_length s), bsN_tx]
        · rw [if_neg c] at h; cases h
      · rw [if_neg k1] at h
        rw [if_neg k1, if_neg k1]
        by_cases k2 : k = 2
        · rw [if_pos k2] at h
          rw [if_pos k2, if_pos k2]
          cases D with
          | zero => cases h
          | succ D =>
            simp only at h
            by_cases c : l.length + 5 ≤ 1048576
            · rw [if_pos c] at h
              obtain ⟨e1, e2, e3⟩ := encL_bytes ts D _ m (by simp [be_length]; omega) h
              have hdl := ih D _ m r (by simp [be_length]; omega) h hn.2
              have hlen : ts.length ≤ 1048576 := by rw [e1] at e2; simp at e2; omega
              have e : nb (be ts.length 4) = ts.length := by rw [nb_be, Nat.mod_eq_of_lt (by omega)]
              simp only [List.cons_append, List.nil_append, List.append_assoc]
              unfold decT
              rw [if_neg (by decide), if_neg (by decide), if_pos rfl]
              simp only
              rw [if_neg (by simp [be_length]), take_app _ _ 4 (be_length _ 4), drop_app _ _ 4 (be_length _ 4), e, if_neg (by simp [be_length]; omega), hdl]
            · rw [if_neg c] at h; cases h
        · rw [if_neg k2] at h; cases h
  · intro D l m r hl h hn
    simp [bL_nil, cpL_nil, decL]
  · intro t ts iht ihs D l m r hl h hn
    simp only [encL_cons] at h
    cases h1 : encT t D l with
    | inl x => rw [h1] at h; cases h
    | inr m1 =>
      rw [h1] at h
      simp only at h
      have hn2 := NL_cons hn
      have q1 := iht D l m1 (bL ts ++ r) h1 hn2.1
      have q2 := ihs D m1 m r (encT_bytes t D l m1 h1).2.1 h hn2.2
      simp only [bL_cons, cpL_cons, List.length_cons, List.append_assoc]
      rw [decL_succ, q1]
      simp only
      rw [q2]
theorem dec_enc : ∀ (t : Tr) (D : Nat) (l m r : List Nat), encT t D l = .inr m → NT t → decT D (bT t ++ r) = .inr (cpT t, r) := dec_enc_both.1

theorem dec_cut_both : (∀ (t : Tr) (D : Nat) (l m : List Nat) (i : Nat), encT t D l = .inr m → NT t → i < (bT t).length → decT D ((bT t).take i) = .inl 3) ∧
    (∀ (ts : List Tr) (D : Nat) (l m : List Nat) (i : Nat), l.length ≤ 1048576 → encL ts D l = .inr m → NL ts → i < (bL ts).length → decL (decT D) ts.length ((bL ts).take i) = .inl 3) := by
  refine Tr.ind ?_ ?_ ?_
  · intro k n s ts ih D l m i h hn hi
    cases i with
    | zero => simp [decT]
    | succ i =>
    rw [NT_mk] at hn
    rw [encT_mk] at h
    rw [bT_mk] at hi ⊢
    by_cases k0 : k = 0
    · rw [if_pos k0] at hi ⊢
      simp only [List.cons_append, List.nil_append, List.take_succ_cons]
      unfold decT
      simp [be_length] at hi
      rw [if_pos rfl, if_pos (by simp [be_length]; omega)]
    · rw [if_neg k0] at h hi ⊢
      by_cases k1 : k = 1
      · rw [if_pos k1] at h hi ⊢
        by_cases c : l.length + 5 + s.size ≤ 1048576
        · simp only [List.cons_append, List.nil_append, List.take_succ_cons]
          have e : nb (be s.size 4) = s.size := by rw [nb_be, Nat.mod_eq_of_lt (by omega)]
          simp [be_length, tx_length] at hi
          unfold decT
          rw [if_neg (by decide), if_pos rfl]
          by_cases c4 : i < 4
          · rw [if_pos (by simp [be_length]; omega)]
          · rw [if_neg (by simp [be_length, tx_length]; omega), List.take_take, Nat.min_eq_left (by omega), take_app _ _ 4 (be_length _ 4), e, if_pos (by simp [be_length, tx_length]; omega)]
        · rw [if_neg c] at h; cases h
      · rw [if_neg k1] at h hi ⊢
        by_cases k2 : k = 2
        · rw [if_pos k2] at h hi ⊢
          cases D with
          | zero => cases h
          | succ D =>
            simp only at h
            by_cases c : l.length + 5 ≤ 1048576
            · rw [if_pos c] at h
              obtain ⟨e1, e2, e3⟩ := encL_bytes ts D _ m (by simp [be_length]; omega) h
              have hlen : ts.length ≤ 1048576 := by rw [e1] at e2; simp at e2; omega
              have e : nb (be ts.length 4) = ts.length := by rw [nb_be, Nat.mod_eq_of_lt (by omega)]
              simp only [List.cons_append, List.nil_append, List.take_succ_cons]
              simp [be_length] at hi
              unfold decT
              rw [if_neg (by decide), if_neg (by decide), if_pos rfl]
              simp only
              by_cases c4 : i < 4
              · rw [if_pos (by simp [be_length]; omega)]
              · rw [if_neg (by simp [be_length]; omega), List.take_take, Nat.min_eq_left (by omega), take_app _ _ 4 (be_length _ 4), e]
                by_cases c5 : i - 4 < ts.length
                · rw [if_pos (by simp [be_length]; omega)]
                · have hd := ih D _ m (i - 4) (by simp [be_length]; omega) h hn.2 (by omega)
                  have e6 : ((be ts.length 4 ++ bL ts).take i).drop 4 = (bL ts).take (i - 4) := by
                    rw [List.drop_take, drop_app _ _ 4 (be_length _ 4)]
                  rw [if_neg (by simp [be_length]; omega), e6, hd]
            · rw [if_neg c] at h; cases h
        · rw [if_neg k2] at h; cases h
  · intro D l m i hl h hn hi
    simp [bL_nil] at hi
  · intro t ts iht ihs D l m i hl h hn hi
    simp only [encL_cons] at h
    cases h1 : encT t D l with
    | inl x => rw [h1] at h; cases h
    | inr m1 =>
      rw [h1] at h
      simp only at h
      have hn2 := NL_cons hn
      simp only [bL_cons, List.length_append] at hi
      simp only [bL_cons, List.length_cons]
      rw [decL_succ]
      by_cases c : i < (bT t).length
      · rw [List.take_append_of_le_length (by omega), iht D l m1 i h1 hn2.1 c]
      · have e : (bT t ++ bL ts).take i = bT t ++ (bL ts).take (i - (bT t).length) := by
          rw [List.take_append, List.take_of_length_le (by omega)]
        rw [e, dec_enc t D l m1 _ h1 hn2.1]
        simp only
        rw [ihs D m1 m (i - (bT t).length) (encT_bytes t D l m1 h1).2.1 h hn2.2 (by omega)]
theorem dec_cut : ∀ (t : Tr) (D : Nat) (l m : List Nat) (i : Nat), encT t D l = .inr m → NT t → i < (bT t).length → decT D ((bT t).take i) = .inl 3 := dec_cut_both.1

end Go.Proofs.YtjngknnkffbnmaaDoor
