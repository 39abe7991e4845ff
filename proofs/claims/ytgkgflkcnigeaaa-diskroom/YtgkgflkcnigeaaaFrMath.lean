/-
  The sum of bytes as a function of lists of numbers, and what turned bits do to it.
-/
import Derived.Test.YtgkgflkcnigeaaaRows
import Derived.KernelRfl
namespace Go.Proofs.Ytgkgflkcnigeaaa.Crc
set_option maxRecDepth 100000

/-- One bit leaves the register. -/
def fs (c : Nat) : Nat := c / 2 ^^^ (if c % 2 = 1 then 3988292384 else 0)
def fsn : Nat → Nat → Nat
  | 0, c => c
  | n + 1, c => fsn n (fs c)
def crcB (c d : Nat) : Nat := fsn 8 (c ^^^ d)
def crcL (c : Nat) (l : List Nat) : Nat := l.foldl crcB c
def sumN (l : List Nat) : Nat := crcL 4294967295 l ^^^ 4294967295

theorem xor_half (a b : Nat) : (a ^^^ b) / 2 = a / 2 ^^^ b / 2 := by
  have := Nat.shiftRight_xor_distrib (a := a) (b := b) (i := 1)
  simpa [Nat.shiftRight_eq_div_pow] using this
theorem xor_odd (a b : Nat) : (a ^^^ b) % 2 = (a + b) % 2 := by
  have h := @Nat.xor_mod_two_pow a b 1
  rw [Nat.pow_one] at h
  rw [h]
  rcases Nat.mod_two_eq_zero_or_one a with h | h <;> rcases Nat.mod_two_eq_zero_or_one b with k | k <;> rw [h, k, Nat.add_mod, h, k] <;> decide
theorem fs_xor (a b : Nat) : fs (a ^^^ b) = fs a ^^^ fs b := by
  unfold fs
  rw [xor_half, xor_odd]
  rcases Nat.mod_two_eq_zero_or_one a with h | h <;> rcases Nat.mod_two_eq_zero_or_one b with k | k
  · rw [if_neg (by omega), if_neg (by omega), if_neg (by omega)]; simp
  · rw [if_pos (by omega), if_neg (by omega), if_pos (by omega)]; simp [Nat.xor_assoc]
  · rw [if_pos (by omega), if_pos (by omega), if_neg (by omega)]; simp only [Nat.xor_zero]; ac_rfl
  · rw [if_neg (by omega), if_pos (by omega), if_pos (by omega)]
    have : a / 2 ^^^ 3988292384 ^^^ (b / 2 ^^^ 3988292384) = a / 2 ^^^ b / 2 ^^^ (3988292384 ^^^ 3988292384) := by ac_rfl
    rw [this, Nat.xor_self]
theorem fs_even (m : Nat) : fs (2 * m) = m := by
  unfold fs
  rw [if_neg (by omega), Nat.xor_zero]; omega
theorem fs_lt {c : Nat} (h : c < 4294967296) : fs c < 4294967296 := by
  unfold fs
  have h1 : c / 2 < 2 ^ 32 := by omega
  have h2 : (if c % 2 = 1 then 3988292384 else 0) < 2 ^ 32 := by split <;> decide
  exact Nat.xor_lt_two_pow h1 h2
theorem xor_zero_eq {a b : Nat} (h : a ^^^ b = 0) : a = b := by
  have : a ^^^ b ^^^ b = 0 ^^^ b := by rw [h]
  rw [Nat.xor_assoc, Nat.xor_self, Nat.xor_zero, Nat.zero_xor] at this
  exact this
theorem fs_zero {c : Nat} (h : c < 4294967296) (hf : fs c = 0) : c = 0 := by
  unfold fs at hf
  have := xor_zero_eq hf
  split at this <;> omega
theorem fsn_xor (n a b : Nat) : fsn n (a ^^^ b) = fsn n a ^^^ fsn n b := by
  induction n generalizing a b with
  | zero => rfl
  | succ n ih => show fsn n (fs (a ^^^ b)) = _; rw [fs_xor, ih]; rfl
theorem fsn_lt (n : Nat) {c : Nat} (h : c < 4294967296) : fsn n c < 4294967296 := by
  induction n generalizing c with
  | zero => exact h
  | succ n ih => exact ih (fs_lt h)
theorem fsn_zero {n c : Nat} (h : c < 4294967296) (hf : fsn n c = 0) : c = 0 := by
  induction n generalizing c with
  | zero => exact hf
  | succ n ih => exact fs_zero h (ih (fs_lt h) hf)
theorem fsn_nil (n : Nat) : fsn n 0 = 0 := by
  induction n with
  | zero => rfl
  | succ n ih => show fsn n (fs 0) = 0; rw [show fs 0 = 0 from rfl, ih]
theorem fsn_add (m n c : Nat) : fsn (m + n) c = fsn n (fsn m c) := by
  induction m generalizing c with
  | zero => rw [Nat.zero_add]; rfl
  | succ m ih => rw [Nat.succ_add]; show fsn (m + n) (fs c) = _; rw [ih]; rfl
theorem fsn_succ (n c : Nat) : fsn (n + 1) c = fs (fsn n c) := fsn_add n 1 c
theorem fsn_pow (n m : Nat) : fsn n (2 ^ n * m) = m := by
  induction n generalizing m with
  | zero => show 2 ^ 0 * m = m; omega
  | succ n ih =>
    show fsn n (fs _) = m
    rw [Nat.pow_succ, show 2 ^ n * 2 * m = 2 * (2 ^ n * m) by ac_rfl, fs_even, ih]
theorem xor_add {k r : Nat} (m : Nat) (h : r < 2 ^ k) : r ^^^ 2 ^ k * m = r + 2 ^ k * m := by
  have e1 : (r ^^^ 2 ^ k * m) % 2 ^ k = r := by
    rw [Nat.xor_mod_two_pow, Nat.mod_eq_of_lt h, Nat.mul_mod_right, Nat.xor_zero]
  have e2 : (r ^^^ 2 ^ k * m) / 2 ^ k = m := by
    have := Nat.shiftRight_xor_distrib (a := r) (b := 2 ^ k * m) (i := k)
    rw [Nat.shiftRight_eq_div_pow, Nat.shiftRight_eq_div_pow, Nat.shiftRight_eq_div_pow, Nat.div_eq_of_lt h, Nat.zero_xor, Nat.mul_div_cancel_left _ (Nat.two_pow_pos k)] at this
    exact this
  have := Nat.div_add_mod (r ^^^ 2 ^ k * m) (2 ^ k)
  rw [e1, e2] at this
  omega

def tab : List Nat := [0, 498536548, 997073096, 651767980, 1994146192, 1802195444, 1303535960, 1342533948, 3988292384, 4027552580, 3604390888, 3412177804, 2607071920, 2262029012, 2685067896, 3183342108]
theorem tab_fs : ∀ r, r < 16 → fsn 4 r = tab.getD r 0 := by decide
theorem tab_lt : ∀ r, r < 16 → tab.getD r 0 < 4294967296 := by decide
theorem fsn_four (c : Nat) : fsn 4 c = c / 16 ^^^ tab.getD (c % 16) 0 := by
  have e : c = c % 2 ^ 4 ^^^ 2 ^ 4 * (c / 2 ^ 4) := by rw [xor_add _ (Nat.mod_lt _ (by decide))]; exact (Nat.mod_add_div _ _).symm
  conv => lhs; rw [e, fsn_xor, fsn_pow, tab_fs _ (Nat.mod_lt _ (by decide)), Nat.xor_comm]
theorem crcB_fast {c d c1 c2 c3 : Nat} (h1 : c1 = c ^^^ d) (h2 : c2 = c1 / 16 ^^^ tab.getD (c1 % 16) 0) (h3 : c3 = c2 / 16 ^^^ tab.getD (c2 % 16) 0) : c3 = crcB c d := by
  rw [h3, ← fsn_four, h2, ← fsn_four, h1, ← fsn_add]; rfl
theorem crcB_lt {c d : Nat} (h : c < 4294967296) (hd : d < 256) : crcB c d < 4294967296 := fsn_lt _ (Nat.xor_lt_two_pow (n := 32) h (by omega))
theorem crcL_lt {c : Nat} (h : c < 4294967296) {l : List Nat} (hl : ∀ d ∈ l, d < 256) : crcL c l < 4294967296 := by
  induction l generalizing c with
  | nil => exact h
  | cons d l ih => exact ih (crcB_lt h (hl d (by simp))) (fun e he => hl e (by simp [he]))
/-- What a bit does that is put in, as the document says it. -/
theorem bit_in {c b : Nat} (hb : b < 2) : fs (c ^^^ b) = c / 2 ^^^ (if c % 2 ≠ b then 3988292384 else 0) := by
  unfold fs
  rw [xor_half, xor_odd, show b / 2 = 0 by omega, Nat.xor_zero]
  by_cases h : c % 2 ≠ b
  · rw [if_pos h, if_pos (by omega)]
  · rw [if_neg h, if_neg (by omega)]
theorem bit_step {c d k : Nat} : fs (fsn k (c ^^^ d % 2 ^ k) ^^^ d / 2 ^ k % 2) = fsn (k + 1) (c ^^^ d % 2 ^ (k + 1)) := by
  rw [fsn_succ]
  conv => lhs; rw [← fsn_pow k (d / 2 ^ k % 2), ← fsn_xor, Nat.xor_assoc, xor_add _ (Nat.mod_lt _ (Nat.two_pow_pos k))]
  rw [← Nat.mod_pow_succ]

theorem crcL_cons (c d : Nat) (l : List Nat) : crcL c (d :: l) = crcL (crcB c d) l := rfl
theorem crcL_append (c : Nat) (l m : List Nat) : crcL c (l ++ m) = crcL (crcL c l) m := List.foldl_append
theorem crcL_take {c k : Nat} {l : List Nat} (h : k < l.length) : crcL c (l.take (k + 1)) = crcB (crcL c (l.take k)) (l.getD k 0) := by
  rw [List.take_add_one, List.getElem?_eq_getElem h, crcL_append, List.getD_eq_getElem?_getD, List.getElem?_eq_getElem h]; rfl
theorem crcB_xor (a b c d : Nat) : crcB (a ^^^ b) (c ^^^ d) = crcB a c ^^^ crcB b d := by
  unfold crcB
  rw [← fsn_xor, show a ^^^ b ^^^ (c ^^^ d) = a ^^^ c ^^^ (b ^^^ d) by ac_rfl]
/-- Lists put together bit by bit. -/
def xorL (l m : List Nat) : List Nat := List.zipWith (· ^^^ ·) l m
theorem crcL_xor : ∀ (l m : List Nat) (a b : Nat), l.length = m.length → crcL (a ^^^ b) (xorL l m) = crcL a l ^^^ crcL b m
  | [], [], _, _, _ => rfl
  | c :: l, d :: m, a, b, h => by
    show crcL (crcB (a ^^^ b) (c ^^^ d)) (xorL l m) = _
    rw [crcB_xor, crcL_xor l m _ _ (by simpa using h)]; rfl
theorem sumN_lt {l : List Nat} (hl : ∀ d ∈ l, d < 256) : sumN l < 4294967296 := Nat.xor_lt_two_pow (n := 32) (crcL_lt (by decide) hl) (by decide)
/-- Three texts put together, bit by bit. -/
def xor3 (a b c : List Nat) (n : Nat) : List Nat := (List.range n).map fun i => a.getD i 0 ^^^ b.getD i 0 ^^^ c.getD i 0
theorem xor3_succ (a b c : List Nat) (n : Nat) : xor3 a b c (n + 1) = xor3 a b c n ++ [a.getD n 0 ^^^ b.getD n 0 ^^^ c.getD n 0] := by
  unfold xor3; rw [List.range_succ, List.map_append]; rfl
theorem xor3_length (a b c : List Nat) (n : Nat) : (xor3 a b c n).length = n := by unfold xor3; simp
theorem xor3_crc (a b c : List Nat) : ∀ n, n ≤ a.length → n ≤ b.length → n ≤ c.length → crcL 4294967295 (xor3 a b c n) = crcL 4294967295 (a.take n) ^^^ crcL 4294967295 (b.take n) ^^^ crcL 4294967295 (c.take n)
  | 0, _, _, _ => by
    show 4294967295 = 4294967295 ^^^ 4294967295 ^^^ 4294967295
    rw [Nat.xor_self, Nat.zero_xor]
  | n + 1, ha, hb, hc => by
    rw [xor3_succ, crcL_append, crcL_take (by omega), crcL_take (by omega), crcL_take (by omega), xor3_crc a b c n (by omega) (by omega) (by omega), ← crcB_xor, ← crcB_xor]; rfl
theorem xor3_sum {a b c : List Nat} {n : Nat} (ha : n ≤ a.length) (hb : n ≤ b.length) (hc : n ≤ c.length) : sumN (a.take n) ^^^ sumN (b.take n) ^^^ sumN (c.take n) = sumN (xor3 a b c n) := by
  unfold sumN
  rw [xor3_crc a b c n ha hb hc]
  generalize crcL 4294967295 (a.take n) = A
  generalize crcL 4294967295 (b.take n) = B
  generalize crcL 4294967295 (c.take n) = C
  have : A ^^^ 4294967295 ^^^ (B ^^^ 4294967295) ^^^ (C ^^^ 4294967295) = A ^^^ B ^^^ C ^^^ (4294967295 ^^^ (4294967295 ^^^ 4294967295)) := by ac_rfl
  rw [this, Nat.xor_self, Nat.xor_zero]
theorem sum_lives : sumN [49, 50, 51, 52, 53, 54, 55, 56, 57] = 3421780262 := by kernel_rfl

end Go.Proofs.Ytgkgflkcnigeaaa.Crc
