/-
  What one turned bit does to the sum of a frame, and what three, or some within 32, come to.
-/
import Derived.Test.YtjngknnkffbnmaaDoorFrTurn
import Derived.Test.YtjngknnkffbnmaaDoorGF1
namespace Go.Proofs.YtjngknnkffbnmaaDoor
set_option maxRecDepth 100000
open Crc
namespace Crc

theorem crcL_off (A B : Nat) : ∀ (l : List Nat), crcL (A ^^^ B) l = crcL A l ^^^ fsn (8 * l.length) B
  | [] => rfl
  | x :: l => by
    have e : crcB (A ^^^ B) x = crcB A x ^^^ fsn 8 B := by
      have := crcB_xor A B x 0
      rw [Nat.xor_zero] at this
      rw [this]; unfold crcB; rw [Nat.xor_zero]
    show crcL (crcB (A ^^^ B) x) l = crcL (crcB A x) l ^^^ _
    rw [e, crcL_off _ _ l, ← fsn_add, List.length_cons, Nat.mul_succ, Nat.add_comm 8]
theorem crcL_set (e : Nat) : ∀ (l : List Nat) (c j : Nat), j < l.length → crcL c (l.set j (l.getD j 0 ^^^ e)) = crcL c l ^^^ fsn (8 * (l.length - j)) e
  | [], _, _, h => by simp at h
  | x :: l, c, 0, _ => by
    have h1 : crcB c (x ^^^ e) = crcB c x ^^^ fsn 8 e := by
      have := crcB_xor c 0 x e
      rw [Nat.xor_zero] at this
      rw [this]; unfold crcB; rw [Nat.zero_xor]
    show crcL (crcB c (x ^^^ e)) l = crcL (crcB c x) l ^^^ _
    rw [h1, crcL_off, ← fsn_add, Nat.sub_zero, List.length_cons, Nat.mul_succ, Nat.add_comm 8]
  | x :: l, c, j + 1, h => by
    have := crcL_set e l (crcB c x) j (by simpa using h)
    rw [show (x :: l).length - (j + 1) = l.length - j by simp, show (x :: l).getD (j + 1) 0 = l.getD j 0 by simp]
    exact this
theorem sumN_set (t l : List Nat) (e j : Nat) (h : j < l.length) : sumN (t ++ l.set j (l.getD j 0 ^^^ e)) = sumN (t ++ l) ^^^ fsn (8 * (l.length - j)) e := by
  unfold sumN
  rw [crcL_append, crcL_append, crcL_set e l _ j h]
  ac_rfl
theorem pw_bit : ∀ b, b < 32 → pw (31 - b) = 2 ^ b := by decide
end Crc

def flp (l : List Nat) (k : Nat) : List Nat := l.set (4 + k / 8) (l.getD (4 + k / 8) 0 ^^^ 2 ^ (k % 8))
/-- What the sum that is reckoned and the one that is written are apart. -/
def dfc (l : List Nat) : Nat := sumN (l.take 4 ++ l.drop 8) ^^^ w4 (l.drop 4)
def ex (n k : Nat) : Nat := if k < 32 then 31 - (8 * (3 - k / 8) + k % 8) else 31 + 8 * n - (k - 32)
theorem flp_length (l : List Nat) (k : Nat) : (flp l k).length = l.length := by unfold flp; simp
theorem flp_take (l : List Nat) (k : Nat) : (flp l k).take 4 = l.take 4 := by
  unfold flp
  rw [List.take_set_of_le (by omega)]
theorem flp_sm {l : List Nat} (h : Sm8 l) (k : Nat) : Sm8 (flp l k) := by
  intro d hd
  unfold flp at hd
  rcases List.mem_or_eq_of_mem_set hd with e | e
  · exact h d e
  · rw [e]
    exact Nat.xor_lt_two_pow (n := 8) (h.getD _) (Nat.pow_lt_pow_right (by omega) (by omega))
def sh8 (x : Nat) : Nat := 256 * x
theorem sh8_xor (x y : Nat) : sh8 (x ^^^ y) = sh8 x ^^^ sh8 y := by
  have := Nat.shiftLeft_xor_distrib (a := x) (b := y) (i := 8)
  unfold sh8
  rw [Nat.shiftLeft_eq, Nat.shiftLeft_eq, Nat.shiftLeft_eq] at this
  rw [Nat.mul_comm, this, Nat.mul_comm x, Nat.mul_comm y]
theorem sh8_pow (a : Nat) : sh8 (2 ^ a) = 2 ^ (a + 8) := by unfold sh8; rw [Nat.pow_add, Nat.mul_comm]
theorem w4_xor {l : List Nat} (h : Sm8 l) : w4 l = l.getD 3 0 ^^^ sh8 (l.getD 2 0 ^^^ sh8 (l.getD 1 0 ^^^ sh8 (l.getD 0 0))) := by
  have e : ∀ a b : Nat, a < 256 → a ^^^ sh8 b = a + 256 * b := fun a b ha => xor_add (k := 8) b ha
  rw [e _ _ (h.getD 1), e _ _ (h.getD 2), e _ _ (h.getD 3)]
  unfold w4
  omega
theorem push0 (f : Nat → Nat) (hf : ∀ x y, f (x ^^^ y) = f x ^^^ f y) (a b c d e : Nat) : d ^^^ f (c ^^^ f (b ^^^ f (a ^^^ e))) = d ^^^ f (c ^^^ f (b ^^^ f a)) ^^^ f (f (f e)) := by
  simp only [hf]; ac_rfl
theorem push1 (f : Nat → Nat) (hf : ∀ x y, f (x ^^^ y) = f x ^^^ f y) (a b c d e : Nat) : d ^^^ f (c ^^^ f (b ^^^ e ^^^ f a)) = d ^^^ f (c ^^^ f (b ^^^ f a)) ^^^ f (f e) := by
  simp only [hf]; ac_rfl
theorem push2 (f : Nat → Nat) (hf : ∀ x y, f (x ^^^ y) = f x ^^^ f y) (a b c d e : Nat) : d ^^^ f (c ^^^ e ^^^ f (b ^^^ f a)) = d ^^^ f (c ^^^ f (b ^^^ f a)) ^^^ f e := by
  simp only [hf]; ac_rfl
theorem set_getD {l : List Nat} {q x i : Nat} (hq : q < l.length) : (l.set q x).getD i 0 = if q = i then x else l.getD i 0 := by
  rw [List.getD_eq_getElem?_getD, List.getElem?_set, List.getD_eq_getElem?_getD]
  by_cases e : q = i
  · rw [if_pos e, if_pos (by omega), if_pos e]; rfl
  · rw [if_neg e, if_neg e]
theorem w4_set {l : List Nat} (h : Sm8 l) (q b : Nat) (hq : q < 4) (hl : 4 ≤ l.length) (hb : b < 8) : w4 (l.set q (l.getD q 0 ^^^ 2 ^ b)) = w4 l ^^^ 2 ^ (8 * (3 - q) + b) := by
  have hs : Sm8 (l.set q (l.getD q 0 ^^^ 2 ^ b)) := by
    intro d hd
    rcases List.mem_or_eq_of_mem_set hd with e | e
    · exact h d e
    · rw [e]
      exact Nat.xor_lt_two_pow (n := 8) (h.getD _) (Nat.pow_lt_pow_right (by omega) (by omega))
  have s1 := sh8_pow b
  have s2 := sh8_pow (b + 8)
  have s3 := sh8_pow (b + 8 + 8)
  rw [w4_xor h, w4_xor hs, set_getD (by omega), set_getD (by omega), set_getD (by omega), set_getD (by omega)]
  have : q = 0 ∨ q = 1 ∨ q = 2 ∨ q = 3 := by omega
  rcases this with rfl | rfl | rfl | rfl
  · rw [show 8 * (3 - 0) + b = b + 8 + 8 + 8 by omega, if_pos rfl, if_neg (show ¬ 0 = 1 by omega), if_neg (show ¬ 0 = 2 by omega), if_neg (show ¬ 0 = 3 by omega), push0 _ sh8_xor, s1, s2, s3]
  · rw [show 8 * (3 - 1) + b = b + 8 + 8 by omega, if_pos rfl, if_neg (show ¬ 1 = 0 by omega), if_neg (show ¬ 1 = 2 by omega), if_neg (show ¬ 1 = 3 by omega), push1 _ sh8_xor, s1, s2]
  · rw [show 8 * (3 - 2) + b = b + 8 by omega, if_pos rfl, if_neg (show ¬ 2 = 0 by omega), if_neg (show ¬ 2 = 1 by omega), if_neg (show ¬ 2 = 3 by omega), push2 _ sh8_xor, s1]
  · rw [show 8 * (3 - 3) + b = b by omega, if_pos rfl, if_neg (show ¬ 3 = 0 by omega), if_neg (show ¬ 3 = 1 by omega), if_neg (show ¬ 3 = 2 by omega)]
    ac_rfl

theorem flp_dfc {l : List Nat} (h : Sm8 l) {n k : Nat} (hn : l.length = 8 + n) (hk : k < 8 * (n + 4)) : dfc (flp l k) = dfc l ^^^ pw (ex n k) := by
  unfold dfc ex
  rw [flp_take]
  by_cases c : k < 32
  · have e8 : (flp l k).drop 8 = l.drop 8 := by unfold flp; rw [List.drop_set_of_lt (by omega)]
    have e4 : (flp l k).drop 4 = (l.drop 4).set (k / 8) ((l.drop 4).getD (k / 8) 0 ^^^ 2 ^ (k % 8)) := by
      unfold flp
      rw [List.drop_set, if_neg (by omega), show 4 + k / 8 - 4 = k / 8 by omega]
      congr 2
      rw [List.getD_eq_getElem?_getD, List.getD_eq_getElem?_getD, List.getElem?_drop]
    rw [e8, e4, if_pos c, w4_set (h.drop 4) _ _ (by omega) (by rw [List.length_drop]; omega) (by omega), pw_bit _ (by omega), Nat.xor_assoc]
  · have e4 : w4 ((flp l k).drop 4) = w4 (l.drop 4) := by
      have g : ∀ i, i < 4 → ((flp l k).drop 4).getD i 0 = (l.drop 4).getD i 0 := by
        intro i hi
        unfold flp
        rw [List.drop_set, if_neg (by omega), List.getD_eq_getElem?_getD, List.getElem?_set, if_neg (by omega), List.getD_eq_getElem?_getD]
      unfold w4
      rw [g 0 (by omega), g 1 (by omega), g 2 (by omega), g 3 (by omega)]
    have e8 : (flp l k).drop 8 = (l.drop 8).set (k / 8 - 4) ((l.drop 8).getD (k / 8 - 4) 0 ^^^ 2 ^ (k % 8)) := by
      unfold flp
      rw [List.drop_set, if_neg (by omega), show 4 + k / 8 - 8 = k / 8 - 4 by omega]
      congr 2
      rw [List.getD_eq_getElem?_getD, List.getD_eq_getElem?_getD, List.getElem?_drop, show 8 + (k / 8 - 4) = 4 + k / 8 by omega]
    rw [e4, e8, if_neg c, sumN_set _ _ _ _ (by rw [List.length_drop]; omega), ← pw_bit (k % 8) (by omega), ← pw_add]
    rw [List.length_drop, show 31 - k % 8 + 8 * (l.length - 8 - (k / 8 - 4)) = 31 + 8 * n - (k - 32) by omega]
    ac_rfl

/-- A frame, its first four bytes as they were, with n bytes framed. -/
def Fm (l : List Nat) (n : Nat) (b : List Nat) : Prop := Sm8 l ∧ l.length = 8 + n ∧ l.take 4 = be4 n ∧ n ≤ 64 ∧ b.length = n
theorem frm_fm {b : List Nat} (hb : Sm8 b) (hn : b.length ≤ 64) : Fm (frm b) b.length b := by
  refine ⟨frm_sm hb, frm_length b, ?_, hn, rfl⟩
  unfold frm be4
  simp
theorem frm_dfc {b : List Nat} (hb : Sm8 b) : dfc (frm b) = 0 := by
  unfold dfc
  have e4 : (frm b).take 4 = be4 b.length := by unfold frm be4; simp
  have e8 : (frm b).drop 8 = b := by unfold frm be4; simp
  have e5 : (frm b).drop 4 = be4 (sumN (be4 b.length ++ b)) ++ b := by unfold frm be4; simp
  rw [e4, e8, e5, w4_be4 (sumN_lt ((be4_sm _).append hb)), Nat.xor_self]
theorem Fm.flp {l : List Nat} {n : Nat} {b : List Nat} (h : Fm l n b) (k : Nat) : Fm (flp l k) n b :=
  ⟨flp_sm h.1 k, by rw [flp_length]; exact h.2.1, by rw [flp_take]; exact h.2.2.1, h.2.2.2⟩
/-- First's answer. -/
theorem Fm.err {l : List Nat} {n : Nat} {b : List Nat} (h : Fm l n b) : frsE l = if dfc l = 0 then 0 else 4 := by
  obtain ⟨h1, h2, h3, h4, _⟩ := h
  have hw : w4 l = n := by
    have e : w4 l = w4 (l.take 4 ++ []) := by
      rw [List.append_nil]
      unfold w4
      have g : ∀ i, i < 4 → (l.take 4).getD i 0 = l.getD i 0 := fun i hi => by rw [List.getD_eq_getElem?_getD, List.getD_eq_getElem?_getD, List.getElem?_take_of_lt hi]
      rw [g 0 (by omega), g 1 (by omega), g 2 (by omega), g 3 (by omega)]
    rw [e, h3, w4_be4 (by omega)]
  have hd : frsD l = l.drop 8 := by
    unfold frsD
    rw [hw, List.take_of_length_le (by rw [List.length_drop]; omega)]
  unfold frsE
  rw [if_neg (by omega), if_neg (by omega), if_neg (by omega), hd]
  unfold dfc
  by_cases c : sumN (l.take 4 ++ l.drop 8) = w4 (l.drop 4)
  · rw [if_neg (by simpa using c), c, Nat.xor_self, if_pos rfl]
  · rw [if_pos c, if_neg (fun e => c (xor_zero_eq e))]
theorem ex_lt {n : Nat} (k : Nat) (hn : n ≤ 64) : ex n k < 544 := by unfold ex; split <;> omega
/-- Three bits. -/
theorem three_told {b : List Nat} (hb : Sm8 b) (hn : b.length ≤ 64) {k0 k1 k2 : Nat} (h0 : k0 < 8 * (b.length + 4)) (h1 : k1 < 8 * (b.length + 4)) (h2 : k2 < 8 * (b.length + 4)) :
    frsE (flp (flp (flp (frm b) k0) k1) k2) = 4 ∧ flp (flp (flp (frm b) k0) k1) k2 ≠ frm b := by
  have f0 := frm_fm hb hn
  have f1 := f0.flp k0
  have f2 := f1.flp k1
  have f3 := f2.flp k2
  have d : dfc (flp (flp (flp (frm b) k0) k1) k2) ≠ 0 := by
    rw [flp_dfc f2.1 f2.2.1 h2, flp_dfc f1.1 f1.2.1 h1, flp_dfc f0.1 f0.2.1 h0, frm_dfc hb, Nat.zero_xor]
    exact pw_any (ex_lt _ hn) (ex_lt _ hn) (ex_lt _ hn)
  refine ⟨by rw [f3.err, if_neg d], fun e => d ?_⟩
  rw [e, frm_dfc hb]
/-- What is told of bits within 32, as the law turns them one by one. -/
def Wn (b : List Nat) (p bits i : Nat) (l : List Nat) : Prop := Fm l b.length b ∧ dfc l = fsn (8 * b.length - p) (bits % 2 ^ i) ∧ (bits % 2 ^ i = 0 → l = frm b)
theorem Wn.start {b : List Nat} (hb : Sm8 b) (hn : b.length ≤ 64) (p bits : Nat) : Wn b p bits 0 (frm b) :=
  ⟨frm_fm hb hn, by rw [frm_dfc hb, Nat.pow_zero, Nat.mod_one, fsn_nil], fun _ => rfl⟩
theorem Wn.zero {b l : List Nat} {p bits i : Nat} (h : Wn b p bits i l) (hb : bits / 2 ^ i % 2 = 0) : Wn b p bits (i + 1) l := by
  have e : bits % 2 ^ (i + 1) = bits % 2 ^ i := by rw [Nat.mod_pow_succ, hb]; omega
  obtain ⟨h1, h2, h3⟩ := h
  exact ⟨h1, by rw [e]; exact h2, by rw [e]; exact h3⟩
theorem Wn.one {b l : List Nat} {p bits i : Nat} (h : Wn b p bits i l) (hb : bits / 2 ^ i % 2 = 1) (hi : i < 32) (hp : p + i < 8 * b.length) : Wn b p bits (i + 1) (flp l (32 + p + i)) := by
  have e : bits % 2 ^ (i + 1) = bits % 2 ^ i ^^^ 2 ^ i := by
    rw [Nat.mod_pow_succ, hb]
    exact (xor_add 1 (Nat.mod_lt _ (Nat.two_pow_pos i))).symm.trans (by rw [Nat.mul_one])
  have e2 : bits % 2 ^ (i + 1) ≠ 0 := by
    rw [Nat.mod_pow_succ, hb]
    have := Nat.two_pow_pos i
    omega
  obtain ⟨h1, h2, h3⟩ := h
  refine ⟨h1.flp _, ?_, fun c => absurd c e2⟩
  rw [flp_dfc h1.1 h1.2.1 (by omega), h2, e, fsn_xor]
  congr 1
  unfold ex
  rw [if_neg (by omega), ← pw_bit i hi, ← pw_add]
  congr 1
  omega
theorem Wn.told {b l : List Nat} {p bits i : Nat} (hb : Sm8 b) (h : Wn b p bits i l) (hl : bits < 4294967296) : (frsE l = 4 ↔ l ≠ frm b) := by
  rw [h.1.err]
  by_cases c : bits % 2 ^ i = 0
  · have e := h.2.2 c
    rw [e, frm_dfc hb]; simp
  · have d : dfc l ≠ 0 := by
      rw [h.2.1]
      intro z
      exact c (fsn_zero (Nat.lt_of_le_of_lt (Nat.mod_le _ _) hl) z)
    rw [if_neg d]
    refine ⟨fun _ e => d (by rw [e, frm_dfc hb]), fun _ => rfl⟩

end Go.Proofs.YtjngknnkffbnmaaDoor
