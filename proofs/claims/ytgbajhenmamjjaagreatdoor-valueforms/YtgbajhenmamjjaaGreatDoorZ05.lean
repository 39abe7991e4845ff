/-
  ValMath, PtMath, Dig, DigWalk, DigSum, DigBit
-/
import Derived.Laws.BitsAllLaws
import Derived.Test.YtgbajhenmamjjaaGreatDoorRows
import Derived.WalkKit
import Derived.WalkSpells
import Derived.WalkLawsBesides
import Derived.Deep.Light
import Derived.Test.YtgbajhenmamjjaaGreatDoorZ04

/-
  Layer 8: plain mathematics of values: keys, and which values are the same.
-/
namespace Go.Proofs.YtgbajhenmamjjaaGreatDoor
set_option maxRecDepth 100000
open Go.RowKit Flo

/-- Whether a value has a key, and its number there. -/
def kok (K N : Int) : Bool := !decide (nK K = 0) && !(decide (K = 3) && nanB N)
def kN (K N : Int) : Int := if mag (nN K N) = 0 then 0 else nN K N
/-- A value's key, or the zero value. -/
def yK (K N : Int) : Int := if kok K N then nK K else 0
def yN (K N : Int) : Int := if kok K N then kN K N else 0
def yS (K N : Int) (S : ByteArray) : ByteArray := if kok K N then nS K S else ⟨#[]⟩
def yO (K N O : Int) : Int := if kok K N then nO K O else 0

theorem nK_nK (K : Int) : nK (nK K) = nK K := by
  by_cases h : 0 ≤ K ∧ K ≤ 8
  · have e : nK K = K := if_pos h
    rw [e, e]
  · have e : nK K = 0 := if_neg h
    rw [e]; rfl
theorem nK_3 (K : Int) : nK K = 3 ↔ K = 3 := by unfold nK; split <;> omega
theorem nK_0 (K : Int) : nK K = 0 ↔ (K ≤ 0 ∨ 9 ≤ K) := by unfold nK; split <;> omega
theorem nK_bd (K : Int) : 0 ≤ nK K ∧ nK K ≤ 8 := by unfold nK; split <;> omega
theorem nK_of {K : Int} (h : nK K ≠ 0) : nK K = K := by unfold nK at *; split <;> simp_all
theorem canon_canon (N : Int) : canonZ (canonZ N) = canonZ N := by
  unfold canonZ
  cases h : nanB N
  · simp [h]
  · have : nanB 9221120237041090560 = true := by decide
    simp [this]
theorem nan_canon (N : Int) : nanB (canonZ N) = nanB N := by
  unfold canonZ
  cases h : nanB N
  · simp [h]
  · have : nanB 9221120237041090560 = true := by decide
    simp [this]
theorem nN_nN (K N : Int) : nN (nK K) (nN K N) = nN K N := by
  unfold nN
  by_cases h : K = 3
  · subst h; rw [if_pos rfl, if_pos (by rfl), canon_canon]
  · rw [if_neg h, if_neg (by rw [nK_3]; exact h)]
theorem nS_nS (K : Int) (S : ByteArray) : nS (nK K) (nS K S) = nS K S := by
  unfold nS
  by_cases h : K = 4
  · subst h; rw [if_pos rfl, if_pos (by rfl)]
  · rw [if_neg h]; split <;> rfl
theorem nO_nO (K O : Int) : nO (nK K) (nO K O) = nO K O := by
  unfold nO
  by_cases h : 5 ≤ K ∧ K ≤ 8
  · rw [if_pos h, if_pos (by unfold nK; split <;> omega)]
  · rw [if_neg h]; split <;> rfl
theorem nil_form {K : Int} (N : Int) (S : ByteArray) (O : Int) (h : nK K = 0) : nN K N = 0 ∧ nS K S = ⟨#[]⟩ ∧ nO K O = 0 := by
  rw [nK_0] at h
  unfold nN nS nO
  exact ⟨if_neg (by omega), if_neg (by omega), if_neg (by omega)⟩
theorem kN_plain {K : Int} (N : Int) (h : K ≠ 3) : kN K N = 0 ∧ nN K N = 0 := by
  have : nN K N = 0 := by unfold nN; exact if_neg h
  exact ⟨by unfold kN; rw [this]; rfl, this⟩
theorem kok_plain {K : Int} (N : Int) (h : K ≠ 3) : kok K N = true ↔ nK K ≠ 0 := by
  unfold kok; simp [h]
theorem kok_3 (N : Int) : kok 3 N = !nanB N := by unfold kok; simp [show nK 3 = 3 from rfl]
theorem kN_3 {N : Int} (h : nanB N = false) : kN 3 N = if mag N = 0 then 0 else N := by
  have : nN 3 N = N := by unfold nN canonZ; rw [if_pos rfl, h]; rfl
  unfold kN; rw [this]
/-- Numbers that are equal are those with the same key. -/
theorem equal_key {N M : Int} (hN : U64 N) (hM : U64 M) : equalB (canonZ N) (canonZ M) = true ↔ (nanB N = false ∧ nanB M = false ∧ (if mag N = 0 then 0 else N) = (if mag M = 0 then 0 else M)) := by
  unfold equalB
  rw [nan_canon, nan_canon]
  cases hn : nanB N <;> cases hm : nanB M <;> simp
  have e1 : canonZ N = N := by unfold canonZ; rw [hn]; rfl
  have e2 : canonZ M = M := by unfold canonZ; rw [hm]; rfl
  rw [e1, e2]
  obtain ⟨a1, a2⟩ := hN
  obtain ⟨b1, b2⟩ := hM
  unfold sv mag
  constructor
  · intro h
    split at h <;> split at h <;> split <;> split <;> omega
  · intro h
    split at h <;> split at h <;> split <;> split <;> omega
/-- Two values are the same just where they have the same key, or are both Nil. -/
theorem same_key {K N : Int} {S : ByteArray} {O K' N' : Int} {S' : ByteArray} {O' : Int} (hN : U64 N) (hN' : U64 N') :
    sameB K N S O K' N' S' O' = true ↔ ((kok K N = true ∧ kok K' N' = true ∧ nK K = nK K' ∧ kN K N = kN K' N' ∧ nS K S = nS K' S' ∧ nO K O = nO K' O') ∨ (nK K = 0 ∧ nK K' = 0)) := by
  unfold sameB sameV
  by_cases c : K = 3 ∧ K' = 3
  · obtain ⟨rfl, rfl⟩ := c
    rw [if_pos ⟨rfl, rfl⟩, show nN 3 N = canonZ N from rfl, show nN 3 N' = canonZ N' from rfl, equal_key hN hN', kok_3, kok_3]
    constructor
    · rintro ⟨h1, h2, h3⟩
      left
      rw [h1, h2, kN_3 h1, kN_3 h2]
      exact ⟨rfl, rfl, rfl, h3, rfl, rfl⟩
    · rintro (⟨h1, h2, _, h3, _, _⟩ | ⟨h, _⟩)
      · have g1 : nanB N = false := by simpa using h1
        have g2 : nanB N' = false := by simpa using h2
        rw [kN_3 g1, kN_3 g2] at h3
        exact ⟨g1, g2, h3⟩
      · exact absurd h (by decide)
  · rw [if_neg (by rw [nK_3, nK_3]; exact c), decide_eq_true_iff]
    by_cases c1 : K = 3
    · have c2 : K' ≠ 3 := fun h => c ⟨c1, h⟩
      have h3 : nK K = 3 := (nK_3 K).2 c1
      have h4 : nK K' ≠ 3 := fun h => c2 ((nK_3 K').1 h)
      constructor
      · rintro ⟨h, _⟩; omega
      · rintro (⟨_, _, h, _⟩ | ⟨h, _⟩) <;> omega
    · by_cases c2 : K' = 3
      · have h3 : nK K' = 3 := (nK_3 K').2 c2
        have h4 : nK K ≠ 3 := fun h => c1 ((nK_3 K).1 h)
        constructor
        · rintro ⟨h, _⟩; omega
        · rintro (⟨_, _, h, _⟩ | ⟨_, h⟩) <;> omega
      · obtain ⟨k1, k2⟩ := kN_plain N c1
        obtain ⟨k3, k4⟩ := kN_plain N' c2
        rw [k1, k2, k3, k4, kok_plain N c1, kok_plain N' c2]
        constructor
        · rintro ⟨h1, _, h2, h3⟩
          by_cases z : nK K = 0
          · right; exact ⟨z, by omega⟩
          · left; exact ⟨z, by omega, h1, rfl, h2, h3⟩
        · rintro (⟨_, _, h1, _, h2, h3⟩ | ⟨h1, h2⟩)
          · exact ⟨h1, rfl, h2, h3⟩
          · obtain ⟨_, a2, a3⟩ := nil_form N S O h1
            obtain ⟨_, b2, b3⟩ := nil_form N' S' O' h2
            exact ⟨by omega, rfl, by rw [a2, b2], by rw [a3, b3]⟩
theorem kok_nil {K N : Int} (h : kok K N = true) : nK K ≠ 0 := by
  unfold kok at h; simp at h; exact h.1
theorem same_symm {K N : Int} {S : ByteArray} {O K' N' : Int} {S' : ByteArray} {O' : Int} (hN : U64 N) (hN' : U64 N') : sameB K' N' S' O' K N S O = sameB K N S O K' N' S' O' := by
  rw [Bool.eq_iff_iff, same_key hN hN', same_key hN' hN]
  constructor
  · rintro (⟨a, b, c, d, e, f⟩ | ⟨a, b⟩)
    · exact Or.inl ⟨b, a, c.symm, d.symm, e.symm, f.symm⟩
    · exact Or.inr ⟨b, a⟩
  · rintro (⟨a, b, c, d, e, f⟩ | ⟨a, b⟩)
    · exact Or.inl ⟨b, a, c.symm, d.symm, e.symm, f.symm⟩
    · exact Or.inr ⟨b, a⟩
theorem same_trans {K N : Int} {S : ByteArray} {O K' N' : Int} {S' : ByteArray} {O' K2 N2 : Int} {S2 : ByteArray} {O2 : Int} (hN : U64 N) (hN' : U64 N') (hN2 : U64 N2) (h1 : sameB K N S O K' N' S' O' = true) (h2 : sameB K' N' S' O' K2 N2 S2 O2 = true) : sameB K N S O K2 N2 S2 O2 = true := by
  rw [same_key hN hN'] at h1
  rw [same_key hN' hN2] at h2
  rw [same_key hN hN2]
  rcases h1 with ⟨a, b, c, d, e, f⟩ | ⟨a, b⟩
  · rcases h2 with ⟨a', b', c', d', e', f'⟩ | ⟨a', b'⟩
    · exact Or.inl ⟨a, b', c.trans c', d.trans d', e.trans e', f.trans f'⟩
    · exact absurd a' (kok_nil b)
  · rcases h2 with ⟨a', b', c', d', e', f'⟩ | ⟨a', b'⟩
    · exact absurd b (kok_nil a')
    · exact Or.inr ⟨a, b'⟩
theorem kN_u64 {K N : Int} (h : U64 N) : U64 (kN K N) := by
  unfold kN; split
  · exact ⟨by decide, by decide⟩
  · exact nN_u64 h
/-- Keys of keys. -/
theorem key_key {K N : Int} (S : ByteArray) (O : Int) (h : kok K N = true) : kok (nK K) (kN K N) = true ∧ nK (nK K) = nK K ∧ kN (nK K) (kN K N) = kN K N ∧ nS (nK K) (nS K S) = nS K S ∧ nO (nK K) (nO K O) = nO K O := by
  refine ⟨?_, nK_nK K, ?_, nS_nS K S, nO_nO K O⟩
  · by_cases c : K = 3
    · subst c
      rw [kok_3] at h
      have g : nanB N = false := by simpa using h
      rw [show nK 3 = 3 from rfl, kok_3, kN_3 g]
      split
      · decide
      · simpa using g
    · rw [kok_plain _ (by rw [Ne, nK_3]; exact c), nK_nK]
      exact kok_nil h
  · by_cases c : K = 3
    · subst c
      rw [kok_3] at h
      have g : nanB N = false := by simpa using h
      rw [show nK 3 = 3 from rfl, kN_3 g]
      split
      · decide
      · next z => rw [kN_3 g, if_neg z]
    · rw [(kN_plain N c).1]
      exact (kN_plain 0 (by rw [Ne, nK_3]; exact c)).1
/-- The plain form again. -/
theorem kok_norm (K N : Int) : kok (nK K) (nN K N) = kok K N := by
  by_cases c : K = 3
  · subst c
    rw [show nK 3 = 3 from rfl, show nN 3 N = canonZ N from rfl, kok_3, kok_3, nan_canon]
  · rw [Bool.eq_iff_iff, kok_plain _ (by rw [Ne, nK_3]; exact c), kok_plain _ c, nK_nK]
theorem kN_norm (K N : Int) : kN (nK K) (nN K N) = kN K N := by unfold kN; rw [nN_nN]

end Go.Proofs.YtgbajhenmamjjaaGreatDoor

/-
  Plain mathematics of parts of 32 bits. No Go in sight.
-/
namespace Go.Proofs.YtgbajhenmamjjaaGreatDoor.Pt
set_option maxRecDepth 100000

/-- What parts stand for, the lowest first. -/
def pv : List Nat → Nat
  | [] => 0
  | d :: r => d + 4294967296 * pv r
def Sm (ds : List Nat) : Prop := ∀ d ∈ ds, d < 4294967296
/-- No nought at the top. -/
def Tr (ds : List Nat) : Prop := ds.length = 0 ∨ 4294967296 ^ (ds.length - 1) ≤ pv ds
/-- How many bits a number has. -/
def bl (n : Nat) : Nat := if n = 0 then 0 else n.log2 + 1

theorem rpos (k : Nat) : 0 < 4294967296 ^ k := Nat.pow_pos (by decide)
theorem pow32 (k : Nat) : 4294967296 ^ k = 2 ^ (32 * k) := by rw [Nat.pow_mul]
theorem pv_append : ∀ (xs ys : List Nat), pv (xs ++ ys) = pv xs + 4294967296 ^ xs.length * pv ys := by
  intro xs ys
  induction xs with
  | nil => simp [pv]
  | cons d r ih => rw [List.cons_append, pv, pv, ih, List.length_cons, Nat.pow_succ', Nat.mul_add, Nat.mul_assoc, Nat.add_assoc]
theorem pv_snoc (xs : List Nat) (d : Nat) : pv (xs ++ [d]) = pv xs + 4294967296 ^ xs.length * d := by
  rw [pv_append]; simp [pv]
theorem pv_lt : ∀ (ds : List Nat), Sm ds → pv ds < 4294967296 ^ ds.length := by
  intro ds
  induction ds with
  | nil => intro _; simp [pv]
  | cons d r ih =>
    intro hs
    have hd : d < 4294967296 := hs d (by simp)
    have := ih (fun x hx => hs x (by simp [hx]))
    rw [List.length_cons, Nat.pow_succ']
    unfold pv
    omega
theorem sm_take {ds : List Nat} (k : Nat) (hs : Sm ds) : Sm (ds.take k) := fun x hx => hs x (List.mem_of_mem_take hx)
theorem sm_snoc {ds : List Nat} {d : Nat} (hs : Sm ds) (hd : d < 4294967296) : Sm (ds ++ [d]) := by
  intro x hx
  rcases List.mem_append.1 hx with h | h
  · exact hs x h
  · simp at h; omega
theorem sm_set {ds : List Nat} {k d : Nat} (hs : Sm ds) (hd : d < 4294967296) : Sm (ds.set k d) := by
  intro x hx
  rcases List.mem_or_eq_of_mem_set hx with h | h
  · exact hs x h
  · omega
theorem sm_getD {ds : List Nat} (k : Nat) (hs : Sm ds) : ds.getD k 0 < 4294967296 := by
  rw [List.getD_eq_getElem?_getD]
  rcases Nat.lt_or_ge k ds.length with h | h
  · rw [List.getElem?_eq_getElem h]; exact hs _ (List.getElem_mem h)
  · rw [List.getElem?_eq_none h]; decide
theorem pv_take_succ : ∀ (ds : List Nat) (k : Nat), pv (ds.take (k + 1)) = pv (ds.take k) + 4294967296 ^ k * ds.getD k 0 := by
  intro ds
  induction ds with
  | nil => intro k; simp [pv]
  | cons d r ih =>
    intro k
    cases k with
    | zero => simp [pv]
    | succ k => rw [List.take_succ_cons, List.take_succ_cons, pv, pv, ih, List.getD_cons_succ, Nat.mul_add, Nat.pow_succ', Nat.mul_assoc, Nat.add_assoc]
theorem pv_set_take : ∀ (rs : List Nat) (k y : Nat), k < rs.length → pv ((rs.set k y).take (k + 1)) = pv (rs.take k) + 4294967296 ^ k * y := by
  intro rs
  induction rs with
  | nil => intro k y h; simp at h
  | cons d r ih =>
    intro k y h
    cases k with
    | zero => simp [pv]
    | succ k =>
      rw [List.set_cons_succ, List.take_succ_cons, List.take_succ_cons, pv, pv, ih k y (by simpa using h), Nat.mul_add, Nat.pow_succ', Nat.mul_assoc, Nat.add_assoc]
theorem pget_set {rs : List Nat} {k j y : Nat} (h : k ≠ j) : (rs.set k y).getD j 0 = rs.getD j 0 := by
  rw [List.getD_eq_getElem?_getD, List.getD_eq_getElem?_getD, List.getElem?_set_ne h]

/-- A step of the product. -/
theorem times_step {rs ds : List Nat} {k by' more cc : Nat} (hk : k < rs.length) (h : pv (rs.take k) + 4294967296 ^ k * cc = pv (ds.take k) * by' + more) :
    pv ((rs.set k ((cc + ds.getD k 0 * by') % 4294967296)).take (k + 1)) + 4294967296 ^ (k + 1) * ((cc + ds.getD k 0 * by') / 4294967296) = pv (ds.take (k + 1)) * by' + more := by
  rw [pv_set_take _ _ _ hk, pv_take_succ ds k, Nat.pow_succ, Nat.mul_assoc, Nat.add_assoc, ← Nat.mul_add, Nat.mod_add_div, Nat.mul_add, ← Nat.add_assoc, h, Nat.add_mul, ← Nat.mul_assoc]
  omega
theorem times_cc {cc d by' : Nat} (h1 : cc < 4294967296) (h2 : d < 4294967296) (h3 : by' < 4294967296) : d * by' ≤ 18446744065119617025 ∧ (cc + d * by') / 4294967296 < 4294967296 := by
  have h : d * by' ≤ 4294967295 * 4294967295 := Nat.mul_le_mul (by omega) (by omega)
  exact ⟨h, by omega⟩
theorem tr_times {ds rs : List Nat} {by' more : Nat} (hl : rs.length = ds.length) (ht : Tr ds) (hb : 1 ≤ by') (h : pv rs = pv ds * by' + more) : Tr rs := by
  unfold Tr
  rcases ht with h0 | h0
  · exact Or.inl (by omega)
  · refine Or.inr ?_
    rw [hl, h]
    have := Nat.le_mul_of_pos_right (pv ds) hb
    omega
theorem tr_snoc {rs : List Nat} {cc : Nat} (hc : cc ≠ 0) : Tr (rs ++ [cc]) := by
  refine Or.inr ?_
  rw [pv_snoc, List.length_append, List.length_singleton, Nat.add_sub_cancel]
  have := Nat.le_mul_of_pos_right (4294967296 ^ rs.length) (Nat.pos_of_ne_zero hc)
  omega
theorem take_all {ds : List Nat} {k : Nat} (h : k = ds.length) : ds.take k = ds := by subst h; simp

/-- A step of the difference. -/
theorem minus_step {rs ds ms : List Nat} {k bw df b2 : Nat} (hk : k < rs.length) (h : pv (rs.take k) + pv (ms.take k) = pv (ds.take k) + 4294967296 ^ k * bw) (hd : df + ms.getD k 0 + bw = ds.getD k 0 + 4294967296 * b2) :
    pv ((rs.set k df).take (k + 1)) + pv (ms.take (k + 1)) = pv (ds.take (k + 1)) + 4294967296 ^ (k + 1) * b2 := by
  rw [pv_set_take _ _ _ hk, pv_take_succ ds k, pv_take_succ ms k, Nat.pow_succ, Nat.mul_assoc]
  have e : 4294967296 ^ k * (df + ms.getD k 0 + bw) = 4294967296 ^ k * (ds.getD k 0 + 4294967296 * b2) := by rw [hd]
  rw [Nat.mul_add, Nat.mul_add, Nat.mul_add] at e
  omega
theorem len_le {ds ms : List Nat} (hm : Tr ms) (hs : Sm ds) (h : pv ms ≤ pv ds) : ms.length ≤ ds.length := by
  rcases hm with h0 | h0
  · omega
  · have := pv_lt ds hs
    have h1 : 4294967296 ^ (ms.length - 1) < 4294967296 ^ ds.length := by omega
    have := (Nat.pow_lt_pow_iff_right (by decide : 1 < 4294967296)).1 h1
    omega
theorem pm_end {rs ds ms : List Nat} {bw : Nat} (hl : rs.length = ds.length) (hr : Sm rs) (hs : Sm ds) (hm : Tr ms) (h : pv ms ≤ pv ds) (he : pv (rs.take ds.length) + pv (ms.take ds.length) = pv (ds.take ds.length) + 4294967296 ^ ds.length * bw) :
    pv rs = pv ds - pv ms := by
  have hle := len_le hm hs h
  rw [take_all hl.symm, take_all rfl, List.take_of_length_le hle] at he
  have h1 := pv_lt rs hr
  rw [hl] at h1
  rcases Nat.eq_zero_or_pos bw with c | c
  · subst c; omega
  · have := Nat.le_mul_of_pos_right (4294967296 ^ ds.length) c
    omega

/-- Trimming. -/
theorem trim_step {ds : List Nat} {k : Nat} (h : pv (ds.take (k + 1)) = pv ds) (hz : ds.getD k 0 = 0) : pv (ds.take k) = pv ds := by
  rw [pv_take_succ, hz] at h; omega
theorem trim_end {ds : List Nat} {k : Nat} (hk : k + 1 ≤ ds.length) (hz : ds.getD k 0 ≠ 0) : Tr (ds.take (k + 1)) := by
  refine Or.inr ?_
  rw [pv_take_succ, List.length_take, Nat.min_eq_left hk, Nat.add_sub_cancel]
  have := Nat.le_mul_of_pos_right (4294967296 ^ k) (Nat.pos_of_ne_zero hz)
  omega

/-- Comparing. -/
theorem pv_split (ds : List Nat) (k : Nat) (hk : k ≤ ds.length) : pv ds = pv (ds.take k) + 4294967296 ^ k * pv (ds.drop k) := by
  have h := pv_append (ds.take k) (ds.drop k)
  rw [List.take_append_drop, List.length_take, Nat.min_eq_left hk] at h
  exact h
theorem cmp_len {ds ms : List Nat} (hs : Sm ds) (hm : Tr ms) (h : ds.length < ms.length) : pv ds < pv ms := by
  rcases hm with h0 | h0
  · omega
  · have h1 := pv_lt ds hs
    have := Nat.pow_le_pow_right (show 0 < 4294967296 by decide) (show ds.length ≤ ms.length - 1 by omega)
    omega
theorem cmp_at {ds ms : List Nat} {k : Nat} (hs : Sm ds) (hk : k < ds.length) (hl : ds.length = ms.length) (hd : pv (ds.drop (k + 1)) = pv (ms.drop (k + 1))) (h : ds.getD k 0 < ms.getD k 0) : pv ds < pv ms := by
  rw [pv_split ds (k + 1) hk, pv_split ms (k + 1) (by omega), hd, pv_take_succ, pv_take_succ]
  have h1 := pv_lt (ds.take k) (sm_take k hs)
  rw [List.length_take, Nat.min_eq_left (by omega)] at h1
  have h2 := Nat.mul_le_mul_left (4294967296 ^ k) (show ds.getD k 0 + 1 ≤ ms.getD k 0 from h)
  rw [Nat.mul_add] at h2
  omega
theorem drop_succ (ds : List Nat) (k : Nat) : pv (ds.drop k) = ds.getD k 0 + 4294967296 * pv (ds.drop (k + 1)) := by
  induction ds generalizing k with
  | nil => simp [pv]
  | cons d r ih =>
    cases k with
    | zero => simp [pv]
    | succ k => rw [List.drop_succ_cons, List.drop_succ_cons, List.getD_cons_succ]; exact ih k

/-- Bits. -/
theorem bl_of {n e : Nat} (h1 : 2 ^ e ≤ n) (h2 : n < 2 ^ (e + 1)) : bl n = e + 1 := by
  have h0 : n ≠ 0 := by have := Nat.two_pow_pos e; omega
  unfold bl
  rw [if_neg h0]
  have a := (Nat.le_log2 h0).2 h1
  have b := (Nat.log2_lt h0).2 h2
  omega
theorem bl_lt (n : Nat) : n < 2 ^ bl n := by
  unfold bl
  split
  · rename_i h; subst h; simp
  · exact Nat.lt_log2_self
theorem bl_ge {n : Nat} (h : n ≠ 0) : 2 ^ (bl n - 1) ≤ n := by
  unfold bl
  rw [if_neg h, Nat.add_sub_cancel]
  exact Nat.log2_self_le h
theorem bl_le {n k : Nat} (h : n < 2 ^ k) : bl n ≤ k := by
  unfold bl
  split
  · omega
  · rename_i h0
    have := (Nat.log2_lt h0).2 h
    omega
theorem bl_parts {ds : List Nat} {l : Nat} (hs : Sm ds) (hl : ds.length = l + 1) (ht : Tr ds) : ds.getD l 0 ≠ 0 ∧ bl (pv ds) = 32 * l + bl (ds.getD l 0) := by
  have hv : pv ds = pv (ds.take l) + 4294967296 ^ l * ds.getD l 0 := by
    rw [← pv_take_succ, List.take_of_length_le (by omega)]
  have h1 := pv_lt (ds.take l) (sm_take l hs)
  rw [List.length_take, Nat.min_eq_left (by omega)] at h1
  rcases ht with h0 | h0
  · omega
  · rw [hl, Nat.add_sub_cancel] at h0
    have hz : ds.getD l 0 ≠ 0 := by
      intro c
      rw [c, Nat.mul_zero] at hv
      omega
    refine ⟨hz, ?_⟩
    have b1 := bl_ge hz
    have b2 := bl_lt (ds.getD l 0)
    have b3 : 1 ≤ bl (ds.getD l 0) := by unfold bl; rw [if_neg hz]; omega
    obtain ⟨e, he⟩ : ∃ e, bl (ds.getD l 0) = e + 1 := ⟨bl (ds.getD l 0) - 1, by omega⟩
    rw [he] at b1 b2 ⊢
    rw [Nat.add_sub_cancel] at b1
    rw [← Nat.add_assoc]
    refine bl_of ?_ ?_
    · rw [hv, Nat.pow_add, ← pow32]
      have := Nat.mul_le_mul_left (4294967296 ^ l) b1
      omega
    · rw [hv, Nat.add_assoc, Nat.pow_add, ← pow32]
      have := Nat.mul_le_mul_left (4294967296 ^ l) (show ds.getD l 0 + 1 ≤ 2 ^ (e + 1) from b2)
      rw [Nat.mul_add] at this
      omega
theorem len_bound {ds : List Nat} {K : Nat} (ht : Tr ds) (h : pv ds < 2 ^ K) : ds.length ≤ K + 1 := by
  rcases ht with h0 | h0
  · omega
  · have h1 : 2 ^ (32 * (ds.length - 1)) < 2 ^ K := by rw [← pow32]; omega
    have := (Nat.pow_lt_pow_iff_right (by decide : 1 < 2)).1 h1
    omega

/-- The borrow, by its bits. -/
theorem nat_borrow {x y b : Nat} (hx : x < 4294967296) (hy : y < 4294967296) (hb : b ≤ 1) :
    ((x + 8589934592 - y - b) % 4294967296) + y + b = x + 4294967296 * (if x < y + b then 1 else 0) := by
  split <;> omega

end Go.Proofs.YtgbajhenmamjjaaGreatDoor.Pt

/-
  Plain mathematics of digits of 16 bits. No Go in sight.
-/
namespace Go.Proofs.YtgbajhenmamjjaaGreatDoor.Dg
set_option maxRecDepth 100000

/-- What digits stand for, the lowest first. -/
def val : List Nat → Nat
  | [] => 0
  | d :: r => d + 65536 * val r
def dig (n i : Nat) : Nat := n / 65536 ^ i % 65536
/-- How many digits a number has. -/
def dlen (n : Nat) : Nat := if n = 0 then 0 else n.log2 / 16 + 1
def Small16 (ds : List Nat) : Prop := ∀ d ∈ ds, d < 65536

theorem dig_lt (n i : Nat) : dig n i < 65536 := Nat.mod_lt _ (by decide)
theorem dig_zero (i : Nat) : dig 0 i = 0 := by unfold dig; simp
theorem pow16 (k : Nat) : 65536 ^ k = 2 ^ (16 * k) := by rw [Nat.pow_mul]

theorem val_dig : ∀ (ds : List Nat) (i : Nat), Small16 ds → ds.getD i 0 = dig (val ds) i := by
  intro ds
  induction ds with
  | nil => intro i _; simp [val, dig_zero]
  | cons d r ih =>
    intro i hs
    have hd : d < 65536 := hs d (by simp)
    cases i with
    | zero => simp only [List.getD_cons_zero, val, dig, Nat.pow_zero, Nat.div_one]; omega
    | succ i =>
      rw [List.getD_cons_succ, ih i (fun x hx => hs x (by simp [hx]))]
      show dig (val r) i = dig (d + 65536 * val r) (i + 1)
      unfold dig
      rw [Nat.pow_succ', ← Nat.div_div_eq_div_mul, show (d + 65536 * val r) / 65536 = val r by omega]
theorem val_getElem {ds : List Nat} {i : Nat} (hs : Small16 ds) (h : i < ds.length) : ds[i] = dig (val ds) i := by
  rw [← val_dig ds i hs, List.getD_eq_getElem?_getD, List.getElem?_eq_getElem h]; rfl
theorem val_lt : ∀ (ds : List Nat), Small16 ds → val ds < 65536 ^ ds.length := by
  intro ds
  induction ds with
  | nil => intro _; simp [val]
  | cons d r ih =>
    intro hs
    have hd : d < 65536 := hs d (by simp)
    have := ih (fun x hx => hs x (by simp [hx]))
    rw [List.length_cons, Nat.pow_succ']
    unfold val
    omega
theorem val_append : ∀ (xs ys : List Nat), val (xs ++ ys) = val xs + 65536 ^ xs.length * val ys := by
  intro xs ys
  induction xs with
  | nil => simp [val]
  | cons d r ih =>
    rw [List.cons_append, val, val, ih, List.length_cons, Nat.pow_succ', Nat.mul_add, Nat.mul_assoc, Nat.add_assoc]
theorem val_snoc (xs : List Nat) (d : Nat) : val (xs ++ [d]) = val xs + 65536 ^ xs.length * d := by
  rw [val_append]; simp [val]
theorem val_take (ds : List Nat) (k : Nat) (hs : Small16 ds) (hk : k ≤ ds.length) : val (ds.take k) = val ds % 65536 ^ k := by
  have h := val_append (ds.take k) (ds.drop k)
  rw [List.take_append_drop, List.length_take, Nat.min_eq_left hk] at h
  have hl := val_lt (ds.take k) (fun x hx => hs x (List.mem_of_mem_take hx))
  rw [List.length_take, Nat.min_eq_left hk] at hl
  rw [h, Nat.add_mul_mod_self_left, Nat.mod_eq_of_lt hl]
theorem small_take {ds : List Nat} (k : Nat) (hs : Small16 ds) : Small16 (ds.take k) := fun x hx => hs x (List.mem_of_mem_take hx)
theorem small_snoc {ds : List Nat} {d : Nat} (hs : Small16 ds) (hd : d < 65536) : Small16 (ds ++ [d]) := by
  intro x hx
  rcases List.mem_append.1 hx with h | h
  · exact hs x h
  · simp at h; omega
theorem val_replicate (k : Nat) : val (List.replicate k 0) = 0 := by
  induction k with
  | zero => rfl
  | succ k ih => rw [List.replicate_succ, val, ih]
theorem small_replicate (k : Nat) : Small16 (List.replicate k 0) := by
  intro x hx
  rw [List.eq_of_mem_replicate hx]; decide

/-! Digits by their number. -/
theorem dig_step (n i : Nat) : n % 65536 ^ (i + 1) = n % 65536 ^ i + 65536 ^ i * dig n i := by
  unfold dig
  rw [Nat.pow_succ, Nat.mod_mul]
theorem dig_ge {n i : Nat} (h : n < 65536 ^ i) : dig n i = 0 := by
  unfold dig; rw [Nat.div_eq_of_lt h]
theorem lt_of_dig {n i : Nat} (h : n < 65536 ^ (i + 1)) (h0 : dig n i = 0) : n < 65536 ^ i := by
  have := dig_step n i
  rw [h0, Nat.mod_eq_of_lt h] at this
  rw [this]
  exact Nat.mod_lt _ (Nat.pow_pos (by decide))
theorem ge_of_dig {n i : Nat} (h0 : dig n i ≠ 0) : 65536 ^ i ≤ n := by
  rcases Nat.lt_or_ge n (65536 ^ i) with h | h
  · exact absurd (dig_ge h) h0
  · exact h

theorem dlen_lt (n : Nat) : n < 65536 ^ dlen n := by
  unfold dlen
  split
  · rename_i h; subst h; simp
  · rename_i h
    have := Nat.lt_log2_self (n := n)
    rw [pow16]
    exact Nat.lt_of_lt_of_le this (Nat.pow_le_pow_right (by decide) (by omega))
theorem dlen_ge {n k : Nat} (h : 65536 ^ k ≤ n) : k < dlen n := by
  have hn : n ≠ 0 := by have : 0 < 65536 ^ k := Nat.pow_pos (by decide); omega
  unfold dlen
  rw [if_neg hn]
  rw [pow16] at h
  have := (Nat.le_log2 hn).2 h
  omega
theorem dlen_le {n k : Nat} (h : n < 65536 ^ k) : dlen n ≤ k := by
  unfold dlen
  split
  · omega
  · rename_i hn
    rw [pow16] at h
    have := (Nat.log2_lt hn).2 h
    omega
theorem dlen_eq {n k : Nat} (h : n < 65536 ^ k) (h2 : k = 0 ∨ dig n (k - 1) ≠ 0) : k = dlen n := by
  have h1 := dlen_le h
  rcases h2 with h2 | h2
  · omega
  · rcases Nat.eq_zero_or_pos k with k0 | k0
    · omega
    · have := dlen_ge (ge_of_dig h2); omega
theorem dlen_mono {n m : Nat} (h : n ≤ m) : dlen n ≤ dlen m := dlen_le (Nat.lt_of_le_of_lt h (dlen_lt m))
theorem dlen_zero : dlen 0 = 0 := rfl

end Go.Proofs.YtgbajhenmamjjaaGreatDoor.Dg

/-
  Digits in memory, and the walks of the reference's smallest functions over them: at, most, Trim.
-/
namespace Go.Proofs.YtgbajhenmamjjaaGreatDoor
set_option maxRecDepth 100000
open Go.RowKit Dg

theorem infoU : (Tryz.prog.info? 22).map (fun i => (i.zero, i.size, i.bytes)) = some (some (.int .u64 0), 1, 8) := by kernel_rfl

def cells (ds : List Nat) : List Value := ds.map fun (d : Nat) => Value.int .u64 (d : Int)
/-- The slice v holds digits of the number n, l of them. -/
def D (w : World) (v : Value) (n l : Nat) : Prop :=
  ∃ (ds : List Nat) (g cap : Nat), v = .slice (some ⟨g, 0, none⟩) l cap ∧ ds.length = l ∧ Small16 ds ∧ val ds = n ∧ w.ownsRow 0 22 1 v l (cells ds)

theorem ownsRow_below {w w' : World} {B e s n : Nat} {v : Value} {xs : List Value} (h : w.ownsRow 0 e s v n xs) (hb : Below B w w') (hB : w.heap.size ≤ B) : w'.ownsRow 0 e s v n xs := by
  refine ⟨h.1, ?_⟩
  rcases h.2 with hn | ⟨g, cap, cur, rfl, h0, hg, rest⟩
  · exact .inl hn
  · refine .inr ⟨g, cap, cur, rfl, h0, ?_, rest⟩
    rw [hb.block g (Nat.lt_of_lt_of_le (Array.getElem?_eq_some_iff.1 hg).1 hB)]
    exact hg
theorem D.below {w w' : World} {v : Value} {n l : Nat} (h : D w v n l) (hb : Below w.heap.size w w') : D w' v n l := by
  obtain ⟨ds, g, cap, h1, h2, h3, h4, h5⟩ := h
  exact ⟨ds, g, cap, h1, h2, h3, h4, ownsRow_below h5 hb (Nat.le_refl _)⟩
theorem D.lt {w : World} {v : Value} {n l : Nat} (h : D w v n l) : n < 65536 ^ l := by
  obtain ⟨ds, g, cap, h1, h2, h3, h4, h5⟩ := h
  rw [← h4, ← h2]; exact val_lt ds h3
/-- What a walk wants to know of it. -/
theorem D.shape {w : World} {v : Value} {n l : Nat} (h : D w v n l) : ∃ g cap, v = .slice (some ⟨g, 0, none⟩) l cap ∧ g < w.heap.size ∧ l ≤ cap ∧ cap ≤ maxLen ∧ ∀ i, i < l → w.cell? ⟨g, i, none⟩ = some (.int .u64 (dig n i : Nat)) := by
  obtain ⟨ds, g, cap, rfl, h2, h3, h4, h5⟩ := h
  have hb := h5.lt g rfl
  refine ⟨g, cap, rfl, hb.2, ?_, ?_, ?_⟩
  · rcases h5.2 with ⟨k, _⟩ | ⟨g', cap', cur, e, _, _, r1, r2, _⟩
    · simp at k
    · simp at e; omega
  · rcases h5.2 with ⟨k, _⟩ | ⟨g', cap', cur, e, _, _, r1, r2, _⟩
    · simp at k
    · simp at e; rw [e.2]; exact r2
  · intro i hi
    have hi2 : i < ds.length := by omega
    rw [h5.cellAt i (by omega), cells, List.getElem?_map, List.getElem?_eq_getElem hi2, val_getElem h3 hi2, h4]
    rfl

theorem at_any (v : Value) (n l : Nat) (i : Int) (w : World) (hD : D w v n l) (h0 : 0 ≤ i) :
    Calls Tryz.prog 86 #[v, .int .i64 i] w fun e w' => e = .returned (.int .u64 (dig n i.toNat : Nat)) ∧ w' = w := by
  obtain ⟨g, cap, rfl, hg, hlc, hcm, hcell⟩ := hD.shape
  have hlt := hD.lt
  unfold maxLen at hcm
  obtain ⟨k, rfl⟩ := Int.eq_ofNat_of_zero_le h0
  rw [Int.toNat_natCast]
  by_cases c : k < l
  · have hc := hcell k c
    clear hcell hlt
    generalize dig n k = d at *
    go_enter Tryz.func86, Tryz.ntmps86
    go_wp2
    go_ret
    exact ⟨rfl, rfl⟩
  · have hz : dig n k = 0 := dig_ge (Nat.lt_of_lt_of_le hlt (Nat.pow_le_pow_right (by decide) (by omega)))
    rw [hz]
    clear hcell hlt hz
    go_enter Tryz.func86, Tryz.ntmps86
    go_wp2
    go_ret
    exact ⟨rfl, rfl⟩

theorem most_any (v u : Value) (n l m k : Nat) (w : World) (hD : D w v n l) (hE : D w u m k) :
    Calls Tryz.prog 85 #[v, u] w fun e w' => e = .returned (.int .i64 (max l k : Nat)) ∧ w' = w := by
  obtain ⟨g, cap, rfl, -, -, -, -⟩ := hD.shape
  obtain ⟨g', cap', rfl, -, -, -, -⟩ := hE.shape
  clear hD hE
  by_cases c : k < l
  · rw [Nat.max_eq_left (by omega)]
    go_enter Tryz.func85, Tryz.ntmps85
    go_wp2
    go_ret
    exact ⟨rfl, rfl⟩
  · rw [Nat.max_eq_right (by omega)]
    go_enter Tryz.func85, Tryz.ntmps85
    go_wp2
    go_ret
    exact ⟨rfl, rfl⟩

/-- The slice of no digits. -/
theorem D_empty (w : World) : D (w.alloc (.cells #[] 22)) (.slice (some ⟨w.heap.size, 0, none⟩) 0 0) 0 0 :=
  ⟨[], w.heap.size, 0, rfl, rfl, by intro x hx; simp at hx, rfl, World.ownsRow_made w #[] 0 (Nat.zero_le _) (by decide) rfl⟩

theorem cells_take (ds : List Nat) (k : Nat) : cells (ds.take k) = (cells ds).take k := by unfold cells; rw [List.map_take]
theorem cells_length (ds : List Nat) : (cells ds).length = ds.length := by unfold cells; simp
theorem cells_one (ds : List Nat) : ∀ u ∈ cells ds, u.oneCell' = true := by
  intro u hu
  unfold cells at hu
  obtain ⟨d, _, rfl⟩ := List.mem_map.1 hu
  rfl
/-- A made row, seen as digits. -/
theorem D.of_own {w : World} {v : Value} {ds : List Nat} {l : Nat} (h : w.ownsRow 0 22 1 v l (cells ds)) (hn : v ≠ .slice none 0 0) (hs : Small16 ds) : D w v (val ds) l := by
  have hl : ds.length = l := by have := h.1; rw [cells_length] at this; omega
  rcases h.2 with ⟨k, _⟩ | ⟨g, cap, cur, e, _⟩
  · exact absurd k hn
  · exact ⟨ds, g, cap, e, hl, hs, rfl, h⟩

theorem news_of_own {w : World} {g l cap k : Nat} {ds : List Nat} (h : w.ownsRow 0 22 1 (.slice (some ⟨g, 0, none⟩) l cap) l (cells ds)) (o : Obj) :
    ∀ j u, (cells (ds.take k))[j]? = some u → (w.alloc o).cell? ((⟨g, 0, none⟩ : Addr).add j) = some u := by
  intro j u hu
  refine (h.alloc o).cells (g := g) rfl j u ?_
  rw [cells_take, List.getElem?_take] at hu
  split at hu
  · exact hu
  · cases hu

theorem D.of_own_pos {w : World} {v : Value} {ds : List Nat} {l : Nat} (h : w.ownsRow 0 22 1 v l (cells ds)) (hn : 0 < l) (hs : Small16 ds) : D w v (val ds) l := by
  refine D.of_own h ?_ hs
  intro e
  rcases h.2 with ⟨_, k⟩ | ⟨g, cap, cur, e', _⟩
  · omega
  · rw [e] at e'; cases e'
/-- Behind an append onto a slice that was just made. -/
theorem below_fresh {w w1 : World} {o : Obj} {n c : Nat} (h : (w.alloc o).grownBy w1 (Value.ownBlock (.slice (some ⟨w.heap.size, 0, none⟩) n c))) : Below w.heap.size w w1 :=
  ((Below.refl w.heap.size w).alloc (Nat.le_refl _) o).grown h (by simp) (by intro k hk; simp [Value.ownBlock] at hk; omega)
theorem trim_close {w w1 : World} {v' : Value} {ds : List Nat} {n k : Nat} {o : Obj} (hown : w1.ownsRow 0 22 1 v' (k + 1) (cells (ds.take (k + 1))))
    (hgrow : (w.alloc o).grownBy w1 (Value.ownBlock (.slice (some ⟨w.heap.size, 0, none⟩) 0 0))) (hs : Small16 (ds.take (k + 1))) (hv : val (ds.take (k + 1)) = n ∧ k + 1 = dlen n) :
    D w1 v' n (dlen n) ∧ Below w.heap.size w w1 := by
  have hd := D.of_own_pos hown (by omega) hs
  rw [hv.1, hv.2] at hd
  exact ⟨hd, below_fresh hgrow⟩

set_option maxHeartbeats 400000 in
theorem trim_any (v : Value) (n l : Nat) (w : World) (hD : D w v n l) (hl : l ≤ 1073741824) :
    Calls Tryz.prog 87 #[v] w fun e w' => ∃ v', e = .returned v' ∧ D w' v' n (dlen n) ∧ Below w.heap.size w w' := by
  have hsh := hD.shape
  have hlt := hD.lt
  obtain ⟨ds, g, cap, rfl, hlen, hsm, hval, hown⟩ := hD
  obtain ⟨g', cap', hv', hg, hlc, hcm, hcell⟩ := hsh
  obtain ⟨rfl, rfl⟩ : g = g' ∧ cap = cap' := by simpa using hv'
  clear hv'
  unfold maxLen at hcm
  obtain ⟨i0, hi, hz0, hz1, hz2⟩ := info_parts infoU
  go_enter Tryz.func87, Tryz.ntmps87
  go_wp2
  go_loop [3] (fun t => ∃ k : Nat, k ≤ l ∧ t = .int .i64 k ∧ n < 65536 ^ k) (fun t => (intOf t).toNat)
  case atStart => exact ⟨l, Nat.le_refl _, rfl, hlt⟩
  case round =>
    obtain ⟨k, hk, rfl, hn⟩ := hrel
    cases k with
    | zero =>
      have hz : n = 0 := by simpa using hn
      clear hcell
      go_wp2
      go_ret
      refine ⟨_, rfl, ?_, (Below.refl _ _).alloc (Nat.le_refl _) _⟩
      exact D_empty w
    | succ k =>
      have hc := hcell k (by omega)
      clear hcell
      by_cases c : dig n k = 0
      · rw [c] at hc
        go_wp2
        go_round
        case rel => exact ⟨k, by omega, by go_num, lt_of_dig hn c⟩
        case measure => simp [intOf]
      · have hcz : (((dig n k : Nat) : Int) == 0) = false := by rw [beq_eq_false_iff_ne]; omega
        have hds : (cells (ds.take (k + 1))).length = (k + 1) * 1 := by rw [cells_length, List.length_take]; omega
        have HN : Hid (∀ j u, (cells (ds.take (k + 1)))[j]? = some u → (w.alloc (.cells #[] 22)).cell? ((⟨g, 0, none⟩ : Addr).add j) = some u) := news_of_own hown _
        have hm : (w.alloc (.cells #[] 22)).ownsRow 0 22 1 (.slice (some ⟨w.heap.size, 0, none⟩) 0 0) 0 [] := World.ownsRow_made w #[] 0 (Nat.zero_le _) (by decide) rfl
        have h1 := cells_one (ds.take (k + 1))
        have hv : val (ds.take (k + 1)) = n := by rw [val_take ds (k + 1) hsm (by omega), hval, Nat.mod_eq_of_lt hn]
        have hlast : k + 1 = dlen n := dlen_eq hn (Or.inr (by simpa using c))
        have HV : Hid (val (ds.take (k + 1)) = n ∧ k + 1 = dlen n) := ⟨hv, hlast⟩
        have hs := small_take (k + 1) hsm
        clear hv hlast
        go_wp2_with (at_builtin; refine wpList_append_own _ rfl _ _ 67 rfl 0 22 i0 (.int .u64 0) 1 8 Tryz.underlying67 hi hz0 hz1 hz2 rfl (by decide) _ 0 [] rfl hm ⟨g, 0, none⟩ (k + 1) cap (cells (ds.take (k + 1))) rfl hds HN.out h1 (by unfold maxLen; omega) (by omega) (by simp) ?_)
        intro v' w1 hown' hgrow _
        have R := trim_close hown' hgrow hs HV.out
        clear hown' hgrow
        go_wp2
        go_ret
        exact ⟨_, rfl, R⟩

end Go.Proofs.YtgbajhenmamjjaaGreatDoor

/-
  The walks of the reference's Digits and Sum.
-/
namespace Go.Proofs.YtgbajhenmamjjaaGreatDoor
set_option maxRecDepth 100000
open Go.RowKit Dg

theorem and16 (x : Nat) (h : x < 18446744073709551616) : bits .and .u64 (x : Int) 65535 = ((x % 65536 : Nat) : Int) := by
  rw [u64_and _ _ (Int.natCast_nonneg _) (by omega) (by decide) (by decide), Int.toNat_natCast, show (65535 : Int).toNat = 2 ^ 16 - 1 from by decide, Nat.and_two_pow_sub_one_eq_mod]

theorem val_four (a b c d : Nat) : val [a, b, c, d] = a + 65536 * (b + 65536 * (c + 65536 * d)) := by simp [val]

theorem digits_any (n : Nat) (w : World) (h : n < 18446744073709551616) :
    Calls Tryz.prog 79 #[.int .u64 n] w fun e w' => ∃ v', e = .returned v' ∧ D w' v' n 4 ∧ Below w.heap.size w w' := by
  obtain ⟨a, ha⟩ : ∃ a, a = n % 65536 := ⟨_, rfl⟩
  obtain ⟨b, hb⟩ : ∃ a, a = n / 65536 % 65536 := ⟨_, rfl⟩
  obtain ⟨c, hc⟩ : ∃ a, a = n / 4294967296 % 65536 := ⟨_, rfl⟩
  obtain ⟨d, hd⟩ : ∃ a, a = n / 281474976710656 := ⟨_, rfl⟩
  have h1 : bits .and .u64 (n : Int) 65535 = (a : Int) := by rw [and16 n h, ha]
  have h2 : bits .and .u64 ((n : Int) / 65536) 65535 = (b : Int) := by
    have := and16 (n / 65536) (by omega)
    rw [hb, ← this]; rfl
  have h3 : bits .and .u64 ((n : Int) / 4294967296) 65535 = (c : Int) := by
    have := and16 (n / 4294967296) (by omega)
    rw [hc, ← this]; rfl
  have h4 : (n : Int) / 281474976710656 = (d : Int) := by rw [hd]; rfl
  have R : D (w.alloc (.cells #[.int .u64 a, .int .u64 b, .int .u64 c, .int .u64 d] 22)) (.slice (some ⟨w.heap.size, 0, none⟩) 4 4) n 4 := by
    refine ⟨[a, b, c, d], w.heap.size, 4, rfl, rfl, ?_, ?_, World.ownsRow_lit w #[.int .u64 a, .int .u64 b, .int .u64 c, .int .u64 d] 4 (Nat.zero_le _) (by decide) rfl⟩
    · intro x hx
      simp at hx
      omega
    · rw [val_four]; omega
  clear ha hb hc hd
  go_enter Tryz.func79, Tryz.ntmps79
  go_wp2
  go_ret
  exact ⟨_, rfl, R, (Below.refl _ _).alloc (Nat.le_refl _) _⟩

theorem ownsRow_base {w : World} {B e s n : Nat} {v : Value} {xs : List Value} (h : w.ownsRow B e s v n xs) : w.ownsRow 0 e s v n xs := by
  refine ⟨h.1, ?_⟩
  rcases h.2 with hn | ⟨g, cap, cur, rfl, h0, rest⟩
  · exact .inl hn
  · exact .inr ⟨g, cap, cur, rfl, Nat.zero_le _, rest⟩
theorem cells_snoc (ds : List Nat) (d : Nat) : cells ds ++ [.int .u64 (d : Int)] = cells (ds ++ [d]) := by unfold cells; simp
/-- One new cell, where an append lays it. -/
theorem one_new (w : World) (u : Value) (t : TypeId) : ∀ j x, [u][j]? = some x → (w.alloc (.cells #[u] t)).cell? ((⟨w.heap.size, 0, none⟩ : Addr).add j) = some x := by
  intro j x hj
  match j, hj with
  | 0, hj => simp at hj; subst hj; simp [Addr.add]

/-- What a round of Sum does to what was gathered. -/
theorem sum_step {w wr w1 : World} {v v' : Value} {os : List Nat} {k d : Nat} {B : Nat} (hown : wr.ownsRow B 22 1 v k (cells os)) (hb : Below B w wr) (hB : B ≤ wr.heap.size) {o : Obj}
    (hown' : w1.ownsRow B 22 1 v' (k + 1) (cells os ++ [.int .u64 (d : Int)])) (hgrow : (wr.alloc o).grownBy w1 v.ownBlock) :
    w1.ownsRow B 22 1 v' (k + 1) (cells (os ++ [d])) ∧ Below B w w1 ∧ B ≤ w1.heap.size := by
  rw [cells_snoc] at hown'
  refine ⟨hown', (hb.alloc hB o).grown hgrow (by simp; omega) (fun g hg => (hown.lt g hg).1), ?_⟩
  have := hgrow.size
  simp at this
  omega
theorem sum_math {n m k c p q : Nat} {os : List Nat} (hp : p = dig n k) (hq : q = dig m k) (hl : os.length = k) (h : val os + 65536 ^ k * c = n % 65536 ^ k + m % 65536 ^ k) :
    val (os ++ [(p + q + c) % 65536]) + 65536 ^ (k + 1) * ((p + q + c) / 65536) = n % 65536 ^ (k + 1) + m % 65536 ^ (k + 1) := by
  rw [val_snoc, hl, dig_step n k, dig_step m k, ← hp, ← hq, Nat.pow_succ]
  have e : 65536 ^ k * ((p + q + c) % 65536) + 65536 ^ k * 65536 * ((p + q + c) / 65536) = 65536 ^ k * p + 65536 ^ k * q + 65536 ^ k * c := by
    rw [Nat.mul_assoc, ← Nat.mul_add, ← Nat.mul_add, ← Nat.mul_add, Nat.mod_add_div]
  omega

theorem sum_end {w : World} {v : Value} {os : List Nat} {n m j c L : Nat} (h : w.ownsRow 0 22 1 v (j + 1) (cells (os ++ [c]))) (hs : Small16 os) (hc : c ≤ 1) (hl : os.length = j) (hj : j = L)
    (hn : n < 65536 ^ L) (hm : m < 65536 ^ L) (hv : val os + 65536 ^ j * c = n % 65536 ^ j + m % 65536 ^ j) : D w v (n + m) (j + 1) := by
  have hd := D.of_own_pos h (by omega) (small_snoc hs (by omega))
  rw [val_snoc, hl, hv, hj, Nat.mod_eq_of_lt hn, Nat.mod_eq_of_lt hm] at hd
  rw [hj]
  exact hd

set_option maxHeartbeats 1000000 in
theorem sum_any (v u : Value) (n l m k : Nat) (w : World) (hD : D w v n l) (hE : D w u m k) (hl : l ≤ 536870912) (hk : k ≤ 536870912) :
    Calls Tryz.prog 51 #[v, u] w fun e w' => ∃ v', e = .returned v' ∧ D w' v' (n + m) (dlen (n + m)) ∧ Below w.heap.size w w' := by
  obtain ⟨i0, hi, hz0, hz1, hz2⟩ := info_parts infoU
  obtain ⟨L, hL⟩ : ∃ L, L = max l k := ⟨_, rfl⟩
  have hL1 : L ≤ 536870912 := by omega
  have hn : n < 65536 ^ L := Nat.lt_of_lt_of_le hD.lt (Nat.pow_le_pow_right (by decide) (by omega))
  have hm : m < 65536 ^ L := Nat.lt_of_lt_of_le hE.lt (Nat.pow_le_pow_right (by decide) (by omega))
  have HL : Hid (max l k = L) := hL.symm
  clear hL
  obtain ⟨B, hB⟩ : ∃ B, B = w.heap.size := ⟨_, rfl⟩
  go_enter Tryz.func51, Tryz.ntmps51
  go_wp2
  go_loopw [5, 6, 7] (fun o c i wr => ∃ (j cc : Nat) (os : List Nat), j ≤ L ∧ i = .int .i64 j ∧ c = .int .u64 cc ∧ cc ≤ 1 ∧ os.length = j ∧ Small16 os ∧ val os + 65536 ^ j * cc = n % 65536 ^ j + m % 65536 ^ j ∧
      wr.ownsRow w.heap.size 22 1 o j (cells os) ∧ Below w.heap.size w wr ∧ w.heap.size ≤ wr.heap.size ∧ D wr v n l ∧ D wr u m k) (fun _ _ i _ => L - (intOf i).toNat)
  case atStart =>
    exact ⟨0, 0, [], Nat.zero_le _, rfl, rfl, by omega, rfl, by intro x hx; simp at hx, by simp [val, Nat.mod_one], World.ownsRow_made w #[] 0 (Nat.le_refl _) (by decide) rfl, (Below.refl _ _).alloc (Nat.le_refl _) _, by simp, hD.below ((Below.refl _ _).alloc (Nat.le_refl _) _), hE.below ((Below.refl _ _).alloc (Nat.le_refl _) _)⟩
  case round =>
    obtain ⟨j, cc, os, hj, rfl, rfl, hc1, hlen, hsm, hval, hown, hbel, hsz, hDr, hEr⟩ := hrel
    have HV : Hid (val os + 65536 ^ j * cc = n % 65536 ^ j + m % 65536 ^ j) := hval
    clear hval
    by_cases hlt : j < L
    · obtain ⟨p, hp⟩ : ∃ p, p = dig n j := ⟨_, rfl⟩
      obtain ⟨q, hq⟩ : ∃ q, q = dig m j := ⟨_, rfl⟩
      have p1 : p < 65536 := by rw [hp]; exact dig_lt _ _
      have q1 : q < 65536 := by rw [hq]; exact dig_lt _ _
      obtain ⟨d, hd⟩ : ∃ d, d = (p + q + cc) % 65536 := ⟨_, rfl⟩
      obtain ⟨f, hf⟩ : ∃ f, f = (p + q + cc) / 65536 := ⟨_, rfl⟩
      have t1 : bits .and .u64 ((p : Int) + (q : Int) + (cc : Int)) 65535 = (d : Int) := by
        have := and16 (p + q + cc) (by omega)
        rw [hd, ← this]; simp
      have t2 : ((p : Int) + (q : Int) + (cc : Int)) / 65536 = (f : Int) := by rw [hf]; simp
      have hM := sum_math hp hq hlen HV.out
      rw [← hd, ← hf] at hM
      have HM : Hid (val (os ++ [d]) + 65536 ^ (j + 1) * f = n % 65536 ^ (j + 1) + m % 65536 ^ (j + 1)) := hM
      have d1 : d < 65536 := by omega
      have f1 : f ≤ 1 := by omega
      have H1 : Hid (∀ w, D w v n l → Calls Tryz.prog 86 #[v, .int .i64 j] w fun e w' => e = .returned (.int .u64 p) ∧ w' = w) := by
        intro w h
        have := at_any v n l j w h (by omega)
        rw [Int.toNat_natCast, ← hp] at this
        exact this
      have H2 : Hid (∀ w, D w u m k → Calls Tryz.prog 86 #[u, .int .i64 j] w fun e w' => e = .returned (.int .u64 q) ∧ w' = w) := by
        intro w h
        have := at_any u m k j w h (by omega)
        rw [Int.toNat_natCast, ← hq] at this
        exact this
      have hs2 := small_snoc hsm d1
      clear hp hq hd hf hM
      go_wp2_with fail
      refine (most_any _ _ n l m k _ hDr hEr).mono ?_
      rintro e w' ⟨rfl, rfl⟩
      rw [HL.out]
      go_wp2_with fail
      refine (H1.out _ hDr).mono ?_
      rintro e w' ⟨rfl, rfl⟩
      go_wp2_with fail
      refine (H2.out _ hEr).mono ?_
      rintro e w' ⟨rfl, rfl⟩
      go_wp2_with (at_builtin; refine wpList_append_own _ rfl _ _ 67 rfl w.heap.size 22 i0 (.int .u64 0) 1 8 Tryz.underlying67 hi hz0 hz1 hz2 rfl (by decide) _ j (cells os) rfl (hown.alloc _) ⟨w'.heap.size, 0, none⟩ 1 1 [.int .u64 (d : Int)] rfl rfl (one_new _ _ _) (by intro x hx; simp at hx; subst hx; rfl) (by unfold maxLen; omega) (by omega) (by simp; omega) ?_)
      intro v' w1 hown' hgrow _
      have R := sum_step hown hbel hsz hown' hgrow
      have hD1 := hD.below R.2.1
      have hE1 := hE.below R.2.1
      clear hown' hgrow hown hbel hsz
      go_wp2
      go_roundw
      case rel => exact ⟨j + 1, f, os ++ [d], by omega, by go_num, rfl, f1, by simp [hlen], hs2, HM.out, R.1, R.2.1, R.2.2, hD1, hE1⟩
      case measure => simp [intOf]; omega
    · have HJ : Hid (j = L) := by show j = L; omega
      go_wp2_with fail
      refine (most_any _ _ n l m k _ hDr hEr).mono ?_
      rintro e w' ⟨rfl, rfl⟩
      rw [HL.out]
      go_wp2_with (at_builtin; refine wpList_append_own _ rfl _ _ 67 rfl w.heap.size 22 i0 (.int .u64 0) 1 8 Tryz.underlying67 hi hz0 hz1 hz2 rfl (by decide) _ j (cells os) rfl (hown.alloc _) ⟨w'.heap.size, 0, none⟩ 1 1 [.int .u64 (cc : Int)] rfl rfl (one_new _ _ _) (by intro x hx; simp at hx; subst hx; rfl) (by unfold maxLen; omega) (by omega) (by simp; omega) ?_)
      intro v' w1 hown' hgrow _
      have R := sum_step hown hbel hsz hown' hgrow
      have hd : D w1 v' (n + m) (j + 1) := sum_end (ownsRow_base R.1) hsm hc1 hlen HJ.out hn hm HV.out
      have hb := R.2.1
      clear hown' hgrow hown hbel hsz R
      go_wp2_with fail
      refine (trim_any _ (n + m) (j + 1) _ hd (by omega)).mono ?_
      rintro e w2 ⟨v2, rfl, hd2, hb2⟩
      go_wp2
      go_ret
      exact ⟨_, rfl, hd2, hb.trans (hb2.mono hb.size)⟩

end Go.Proofs.YtgbajhenmamjjaaGreatDoor

/-
  The walks of the reference's Bit, Len, Small, Sign and Infinite.
-/
namespace Go.Proofs.YtgbajhenmamjjaaGreatDoor
set_option maxRecDepth 100000
open Go.RowKit Dg

/-- How many bits a number has. -/
def blen (n : Nat) : Nat := if n = 0 then 0 else n.log2 + 1

theorem bit_dig (n q r : Nat) (hr : r < 16) : dig n q / 2 ^ r % 2 = n / 2 ^ (16 * q + r) % 2 := by
  unfold dig
  rw [pow16, Nat.pow_add, ← Nat.div_div_eq_div_mul]
  generalize n / 2 ^ (16 * q) = x
  have e : 65536 = 2 ^ r * 2 ^ (16 - r) := by rw [← Nat.pow_add, show r + (16 - r) = 16 by omega]
  rw [e, Nat.mod_mul_right_div_self]
  have d : 2 ∣ 2 ^ (16 - r) := by
    rw [show 16 - r = (15 - r) + 1 by omega, Nat.pow_succ]; exact Nat.dvd_mul_left _ _
  exact Nat.mod_mod_of_dvd _ d

theorem and1 (x : Nat) (h : x < 18446744073709551616) : bits .and .u64 (x : Int) 1 = ((x % 2 : Nat) : Int) := by
  rw [u64_and _ _ (Int.natCast_nonneg _) (by omega) (by decide) (by decide), Int.toNat_natCast, show (1 : Int).toNat = 1 from rfl, nat_mask1]

set_option maxHeartbeats 400000 in
theorem bit_walk (v : Value) (n l i : Nat) (w : World) (hD : D w v n l) (h : i ≤ 1099511627776) (q r x d : Nat) (hq : (i : Int) / 16 = (q : Int)) (hr : (i : Int) % 16 = (r : Int)) (_hr2 : r < 16)
    (ha : ∀ w, D w v n l → Calls Tryz.prog 86 #[v, .int .i64 q] w fun e w' => e = .returned (.int .u64 d) ∧ w' = w)
    (_hd : d < 65536) (hx : bits .and .u64 ((d : Int) / 2 ^ r) 1 = (x : Int)) :
    Calls Tryz.prog 56 #[v, .int .i64 i] w fun e w' => e = .returned (.int .u64 x) ∧ w' = w := by
  have HA : Hid (∀ w, D w v n l → Calls Tryz.prog 86 #[v, .int .i64 q] w fun e w' => e = .returned (.int .u64 d) ∧ w' = w) := ha
  clear ha
  go_enter Tryz.func56, Tryz.ntmps56
  go_wp2_with (go_at_call 86; refine (HA.out _ hD).mono ?_; rintro e w' ⟨rfl, rfl⟩)
  go_ret
  exact ⟨rfl, rfl⟩

theorem bit_any (v : Value) (n l : Nat) (i : Int) (w : World) (hD : D w v n l) (h0 : 0 ≤ i) (h : i ≤ 1099511627776) :
    Calls Tryz.prog 56 #[v, .int .i64 i] w fun e w' => e = .returned (.int .u64 (n / 2 ^ i.toNat % 2 : Nat)) ∧ w' = w := by
  obtain ⟨k, rfl⟩ := Int.eq_ofNat_of_zero_le h0
  rw [Int.toNat_natCast]
  have hd := dig_lt n (k / 16)
  refine bit_walk v n l k w hD (by omega) (k / 16) (k % 16) _ (dig n (k / 16)) (by omega) (by omega) (by omega) ?_ hd ?_
  · intro w h
    have := at_any v n l ((k / 16 : Nat) : Int) w h (by omega)
    rw [Int.toNat_natCast] at this
    exact this
  · have hle : dig n (k / 16) / 2 ^ (k % 16) ≤ dig n (k / 16) := Nat.div_le_self _ _
    have := and1 (dig n (k / 16) / 2 ^ (k % 16)) (by omega)
    rw [bit_dig n (k / 16) (k % 16) (by omega), Nat.div_add_mod] at this
    rw [← this, Int.natCast_ediv, Int.natCast_pow]
    rfl

theorem blen_lt (n : Nat) : n < 2 ^ blen n := by
  unfold blen; split
  · rename_i h; subst h; simp
  · exact Nat.lt_log2_self
theorem blen_eq {n k : Nat} (h : n < 2 ^ k) (h2 : k = 0 ∨ n / 2 ^ (k - 1) % 2 = 1) : k = blen n := by
  unfold blen
  rcases Nat.eq_zero_or_pos k with k0 | k0
  · subst k0
    have : n = 0 := by simpa using h
    rw [if_pos this]
  · rcases h2 with h2 | h2
    · omega
    · have hge : 2 ^ (k - 1) ≤ n := by
        rcases Nat.lt_or_ge n (2 ^ (k - 1)) with hh | hh
        · rw [Nat.div_eq_of_lt hh] at h2; omega
        · exact hh
      have hn : n ≠ 0 := by have := Nat.two_pow_pos (k - 1); omega
      rw [if_neg hn]
      have := (Nat.log2_eq_iff hn).2 ⟨hge, by rw [show k - 1 + 1 = k by omega]; exact h⟩
      omega
theorem lt_of_bit {n k : Nat} (h : n < 2 ^ (k + 1)) (h2 : n / 2 ^ k % 2 = 0) : n < 2 ^ k := by
  have hq : n / 2 ^ k < 2 := (Nat.div_lt_iff_lt_mul (Nat.two_pow_pos k)).2 (by rw [← Nat.pow_succ']; exact h)
  rcases Nat.lt_or_ge n (2 ^ k) with hh | hh
  · exact hh
  · have := (Nat.le_div_iff_mul_le (Nat.two_pow_pos k)).2 (show 1 * 2 ^ k ≤ n by omega)
    generalize n / 2 ^ k = z at *
    omega

set_option maxHeartbeats 400000 in
theorem len_any (v : Value) (n l : Nat) (w : World) (hD : D w v n l) (hl : l ≤ 1073741824) :
    Calls Tryz.prog 80 #[v] w fun e w' => e = .returned (.int .i64 (blen n : Nat)) ∧ w' = w := by
  have hlt := hD.lt
  rw [pow16] at hlt
  have hD0 := hD
  obtain ⟨g, cap, rfl, -, -, -, -⟩ := hD.shape
  go_enter Tryz.func80, Tryz.ntmps80
  go_wp2
  go_loop [3] (fun t => ∃ k : Nat, k ≤ 16 * l ∧ t = .int .i64 k ∧ n < 2 ^ k) (fun t => (intOf t).toNat)
  case atStart => exact ⟨16 * l, Nat.le_refl _, by simp, hlt⟩
  case round =>
    obtain ⟨k, hk, rfl, hn⟩ := hrel
    cases k with
    | zero =>
      have H : Hid (0 = blen n) := blen_eq hn (Or.inl rfl)
      go_wp2
      go_ret
      exact ⟨by rw [← H.out]; rfl, rfl⟩
    | succ k =>
      have hb := fun w h => bit_any (.slice (some ⟨g, 0, none⟩) l cap) n l k w h (by omega) (by omega)
      rw [Int.toNat_natCast] at hb
      obtain ⟨b, hbb⟩ : ∃ b, b = n / 2 ^ k % 2 := ⟨_, rfl⟩
      rw [← hbb] at hb
      have HB : Hid (∀ w, D w (.slice (some ⟨g, 0, none⟩) l cap) n l → Calls Tryz.prog 56 #[.slice (some ⟨g, 0, none⟩) l cap, .int .i64 k] w fun e w' => e = .returned (.int .u64 b) ∧ w' = w) := hb
      clear hb
      by_cases c : b = 0
      · have H : Hid (n < 2 ^ k) := lt_of_bit hn (by omega)
        clear hbb
        subst c
        go_wp2_with (go_at_call 56; refine (HB.out _ hD0).mono ?_; rintro e w' ⟨rfl, rfl⟩)
        go_round
        case rel => exact ⟨k, by omega, by go_num, H.out⟩
        case measure => simp [intOf]
      · have H : Hid (k + 1 = blen n) := blen_eq hn (Or.inr (by rw [Nat.add_sub_cancel]; omega))
        have cz : ((b : Int) == 0) = false := by rw [beq_eq_false_iff_ne]; omega
        clear hbb
        go_wp2_with (go_at_call 56; refine (HB.out _ hD0).mono ?_; rintro e w' ⟨rfl, rfl⟩)
        go_ret
        exact ⟨by rw [← H.out]; rfl, rfl⟩

theorem join4 (n : Nat) (h : n < 18446744073709551616) : ((dig n 0 ||| dig n 1 * 65536) ||| dig n 2 * 4294967296) ||| dig n 3 * 281474976710656 = n := by
  have d0 := dig_lt n 0
  have d1 := dig_lt n 1
  have d2 := dig_lt n 2
  have d3 := dig_lt n 3
  rw [Nat.or_comm (dig n 0), nat_join 16 (dig n 1 * 65536) (dig n 0) (by omega) (by omega)]
  rw [Nat.or_comm _ (dig n 2 * 4294967296), nat_join 32 (dig n 2 * 4294967296) _ (by omega) (by omega)]
  rw [Nat.or_comm _ (dig n 3 * 281474976710656), nat_join 48 (dig n 3 * 281474976710656) _ (by omega) (by omega)]
  unfold dig
  simp only [Nat.pow_zero, Nat.div_one, Nat.pow_one]
  omega

set_option maxHeartbeats 400000 in
theorem small_walk (v : Value) (n l a b c d r1 r2 r3 : Nat) (w : World) (hD : D w v n l) (_ha : a < 65536) (hb : b < 65536) (hc : c < 65536) (hd : d < 65536)
    (h0 : ∀ (i : Int) (x : Nat) w, (i = 0 ∧ x = a) ∨ (i = 1 ∧ x = b) ∨ (i = 2 ∧ x = c) ∨ (i = 3 ∧ x = d) → D w v n l → Calls Tryz.prog 86 #[v, .int .i64 i] w fun e w' => e = .returned (.int .u64 x) ∧ w' = w)
    (e1 : bits .or .u64 (a : Int) ((b : Int) * 65536) = (r1 : Int)) (e2 : bits .or .u64 (r1 : Int) ((c : Int) * 4294967296) = (r2 : Int)) (e3 : bits .or .u64 (r2 : Int) ((d : Int) * 281474976710656) = (r3 : Int)) :
    Calls Tryz.prog 91 #[v] w fun e w' => e = .returned (.int .u64 r3) ∧ w' = w := by
  have H0 : Hid (∀ (i : Int) (x : Nat) w, (i = 0 ∧ x = a) ∨ (i = 1 ∧ x = b) ∨ (i = 2 ∧ x = c) ∨ (i = 3 ∧ x = d) → D w v n l → Calls Tryz.prog 86 #[v, .int .i64 i] w fun e w' => e = .returned (.int .u64 x) ∧ w' = w) := h0
  clear h0
  go_enter Tryz.func91, Tryz.ntmps91
  go_wp2_with fail
  refine (H0.out 0 a _ (by simp) hD).mono ?_
  rintro e w' ⟨rfl, rfl⟩
  go_wp2_with fail
  refine (H0.out 1 b _ (by simp) hD).mono ?_
  rintro e w' ⟨rfl, rfl⟩
  go_wp2_with fail
  refine (H0.out 2 c _ (by simp) hD).mono ?_
  rintro e w' ⟨rfl, rfl⟩
  go_wp2_with fail
  refine (H0.out 3 d _ (by simp) hD).mono ?_
  rintro e w' ⟨rfl, rfl⟩
  go_wp2_with fail
  go_ret
  exact ⟨rfl, rfl⟩

theorem or_nat (a b : Nat) (ha : a < 18446744073709551616) (hb : b < 18446744073709551616) (B : Int) (e : B = (b : Int)) : bits .or .u64 (a : Int) B = ((a ||| b : Nat) : Int) := by
  subst e
  exact u64_or_nat a b ha hb

theorem small_any (v : Value) (n l : Nat) (w : World) (hD : D w v n l) (h : n < 18446744073709551616) :
    Calls Tryz.prog 91 #[v] w fun e w' => e = .returned (.int .u64 n) ∧ w' = w := by
  have d0 := dig_lt n 0
  have d1 := dig_lt n 1
  have d2 := dig_lt n 2
  have d3 := dig_lt n 3
  have l1 : dig n 0 ||| dig n 1 * 65536 < 18446744073709551616 := Nat.or_lt_two_pow (n := 64) (by omega) (by omega)
  have l2 : dig n 0 ||| dig n 1 * 65536 ||| dig n 2 * 4294967296 < 18446744073709551616 := Nat.or_lt_two_pow (n := 64) l1 (by omega)
  have e := small_walk v n l (dig n 0) (dig n 1) (dig n 2) (dig n 3) _ _ _ w hD d0 d1 d2 d3 ?_ (or_nat _ _ (by omega) (by omega) _ (by omega)) (or_nat _ _ l1 (show dig n 2 * 4294967296 < 18446744073709551616 by omega) _ (by omega)) (or_nat _ _ l2 (show dig n 3 * 281474976710656 < 18446744073709551616 by omega) _ (by omega))
  · rw [join4 n h] at e
    exact e
  · intro i x w hi hd
    have := at_any v n l i w hd (by omega)
    rcases hi with ⟨rfl, rfl⟩ | ⟨rfl, rfl⟩ | ⟨rfl, rfl⟩ | ⟨rfl, rfl⟩ <;> exact this

theorem refSign_any (neg : Bool) (w : World) : Calls Tryz.prog 106 #[.bool neg] w fun e w' => e = .returned (.int .u64 (if neg then 9223372036854775808 else 0)) ∧ w' = w := by
  cases neg
  all_goals
    go_enter Tryz.func106, Tryz.ntmps106
    go_wp2
    go_ret
    exact ⟨rfl, rfl⟩
theorem refInf_any (neg : Bool) (w : World) : Calls Tryz.prog 89 #[.bool neg] w fun e w' => e = .returned (.int .u64 (if neg then 18442240474082181120 else 9218868437227405312)) ∧ w' = w := by
  have e1 : bits .or .u64 9223372036854775808 9218868437227405312 = 18442240474082181120 := by decide +kernel
  have e2 : bits .or .u64 0 9218868437227405312 = 9218868437227405312 := by decide +kernel
  cases neg
  · go_enter Tryz.func89, Tryz.ntmps89
    go_wp2_with (go_at_call 106; refine (refSign_any false _).mono ?_; rintro e w' ⟨rfl, rfl⟩)
    go_ret
    exact ⟨rfl, rfl⟩
  · go_enter Tryz.func89, Tryz.ntmps89
    go_wp2_with (go_at_call 106; refine (refSign_any true _).mono ?_; rintro e w' ⟨rfl, rfl⟩)
    go_ret
    exact ⟨rfl, rfl⟩

end Go.Proofs.YtgbajhenmamjjaaGreatDoor
