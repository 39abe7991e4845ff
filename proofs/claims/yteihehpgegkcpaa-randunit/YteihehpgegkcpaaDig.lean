/-
  Plain mathematics of digits of 16 bits. No Go in sight.
-/
import Derived.Laws.BitsAllLaws
namespace Go.Proofs.Yteihehpgegkcpaa.Dg

/-- What digits stand for, the lowest first. -/
def val : List Nat → Nat
  | [] => 0
  | d :: r => d + 65536 * val r
def dig (n i : Nat) : Nat := n / 65536 ^ i % 65536
/-- How many digits a number has. -/
def dlen (n : Nat) : Nat := if n = 0 then 0 else n.log2 / 16 + 1
def Small16 (ds : List Nat) : Prop := ∀ d ∈ ds, d < 65536

theorem dig_lt (n i : Nat) : dig n i < 65536 := Nat.mod_lt _ (by decide)
theorem dig_zero (i : Nat) : dig 0 i = 0 := by unfold dig; simp
theorem pow16 (k : Nat) : 65536 ^ k = 2 ^ (16 * k) := by rw [Nat.pow_mul]

theorem val_dig : ∀ (ds : List Nat) (i : Nat), Small16 ds → ds.getD i 0 = dig (val ds) i := by
  intro ds
  induction ds with
  | nil => intro i _; simp [val, dig_zero]
  | cons d r ih =>
    intro i hs
    have hd : d < 65536 := hs d (by simp)
    cases i with
    | zero => simp only [List.getD_cons_zero, val, dig, Nat.pow_zero, Nat.div_one]; omega
    | succ i =>
      rw [List.getD_cons_succ, ih i (fun x hx => hs x (by simp [hx]))]
      show dig (val r) i = dig (d + 65536 * val r) (i + 1)
      unfold dig
      rw [Nat.pow_succ', ← Nat.div_div_eq_div_mul, show (d + 65536 * val r) / 65536 = val r by omega]
theorem val_getElem {ds : List Nat} {i : Nat} (hs : Small16 ds) (h : i < ds.length) : ds[i] = dig (val ds) i := by
  rw [← val_dig ds i hs, List.getD_eq_getElem?_getD, List.getElem?_eq_getElem h]; rfl
theorem val_lt : ∀ (ds : List Nat), Small16 ds → val ds < 65536 ^ ds.length := by
  intro ds
  induction ds with
  | nil => intro _; simp [val]
  | cons d r ih =>
    intro hs
    have hd : d < 65536 := hs d (by simp)
    have := ih (fun x hx => hs x (by simp [hx]))
    rw [List.length_cons, Nat.pow_succ']
    unfold val
    omega
theorem val_append : ∀ (xs ys : List Nat), val (xs ++ ys) = val xs + 65536 ^ xs.length * val ys := by
  intro xs ys
  induction xs with
  | nil => simp [val]
  | cons d r ih =>
    rw [List.cons_append, val, val, ih, List.length_cons, Nat.pow_succ', Nat.mul_add, Nat.mul_assoc, Nat.add_assoc]
theorem val_snoc (xs : List Nat) (d : Nat) : val (xs ++ [d]) = val xs + 65536 ^ xs.length * d := by
  rw [val_append]; simp [val]
theorem val_take (ds : List Nat) (k : Nat) (hs : Small16 ds) (hk : k ≤ ds.length) : val (ds.take k) = val ds % 65536 ^ k := by
  have h := val_append (ds.take k) (ds.drop k)
  rw [List.take_append_drop, List.length_take, Nat.min_eq_left hk] at h
  have hl := val_lt (ds.take k) (fun x hx => hs x (List.mem_of_mem_take hx))
  rw [List.length_take, Nat.min_eq_left hk] at hl
  rw [h, Nat.add_mul_mod_self_left, Nat.mod_eq_of_lt hl]
theorem small_take {ds : List Nat} (k : Nat) (hs : Small16 ds) : Small16 (ds.take k) := fun x hx => hs x (List.mem_of_mem_take hx)
theorem small_snoc {ds : List Nat} {d : Nat} (hs : Small16 ds) (hd : d < 65536) : Small16 (ds ++ [d]) := by
  intro x hx
  rcases List.mem_append.1 hx with h | h
  · exact hs x h
  · simp at h; omega
theorem val_replicate (k : Nat) : val (List.replicate k 0) = 0 := by
  induction k with
  | zero => rfl
  | succ k ih => rw [List.replicate_succ, val, ih]
theorem small_replicate (k : Nat) : Small16 (List.replicate k 0) := by
  intro x hx
  rw [List.eq_of_mem_replicate hx]; decide

/-! Digits by their number. -/
theorem dig_step (n i : Nat) : n % 65536 ^ (i + 1) = n % 65536 ^ i + 65536 ^ i * dig n i := by
  unfold dig
  rw [Nat.pow_succ, Nat.mod_mul]
theorem dig_ge {n i : Nat} (h : n < 65536 ^ i) : dig n i = 0 := by
  unfold dig; rw [Nat.div_eq_of_lt h]
theorem lt_of_dig {n i : Nat} (h : n < 65536 ^ (i + 1)) (h0 : dig n i = 0) : n < 65536 ^ i := by
  have := dig_step n i
  rw [h0, Nat.mod_eq_of_lt h] at this
  rw [this]
  exact Nat.mod_lt _ (Nat.pow_pos (by decide))
theorem ge_of_dig {n i : Nat} (h0 : dig n i ≠ 0) : 65536 ^ i ≤ n := by
  rcases Nat.lt_or_ge n (65536 ^ i) with h | h
  · exact absurd (dig_ge h) h0
  · exact h

theorem dlen_lt (n : Nat) : n < 65536 ^ dlen n := by
  unfold dlen
  split
  · rename_i h; subst h; simp
  · rename_i h
    have := Nat.lt_log2_self (n := n)
    rw [pow16]
    exact Nat.lt_of_lt_of_le this (Nat.pow_le_pow_right (by decide) (by omega))
theorem dlen_ge {n k : Nat} (h : 65536 ^ k ≤ n) : k < dlen n := by
  have hn : n ≠ 0 := by have : 0 < 65536 ^ k := Nat.pow_pos (by decide); omega
  unfold dlen
  rw [if_neg hn]
  rw [pow16] at h
  have := (Nat.le_log2 hn).2 h
  omega
theorem dlen_le {n k : Nat} (h : n < 65536 ^ k) : dlen n ≤ k := by
  unfold dlen
  split
  · omega
  · rename_i hn
    rw [pow16] at h
    have := (Nat.log2_lt hn).2 h
    omega
theorem dlen_eq {n k : Nat} (h : n < 65536 ^ k) (h2 : k = 0 ∨ dig n (k - 1) ≠ 0) : k = dlen n := by
  have h1 := dlen_le h
  rcases h2 with h2 | h2
  · omega
  · rcases Nat.eq_zero_or_pos k with k0 | k0
    · omega
    · have := dlen_ge (ge_of_dig h2); omega
theorem dlen_mono {n m : Nat} (h : n ≤ m) : dlen n ≤ dlen m := dlen_le (Nat.lt_of_le_of_lt h (dlen_lt m))
theorem dlen_zero : dlen 0 = 0 := rfl

end Go.Proofs.Yteihehpgegkcpaa.Dg
