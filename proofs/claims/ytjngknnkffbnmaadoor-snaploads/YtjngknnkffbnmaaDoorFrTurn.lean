/-
  What turned bits do to a sum: powers of the register's step.
-/
import Derived.Test.YtjngknnkffbnmaaDoorFrMath
namespace Go.Proofs.YtjngknnkffbnmaaDoor.Crc
set_option maxRecDepth 100000

/-- The register behind e steps from its highest bit. -/
def pw (e : Nat) : Nat := fsn e 2147483648
theorem pw_lt (e : Nat) : pw e < 4294967296 := fsn_lt e (by decide)
theorem pw_add (a b : Nat) : pw (a + b) = fsn b (pw a) := fsn_add a b _
theorem pw_pos (e : Nat) : pw e ≠ 0 := fun h => by have := fsn_zero (c := 2147483648) (by decide) h; omega
theorem fsn_inj {n a b : Nat} (ha : a < 4294967296) (hb : b < 4294967296) (h : fsn n a = fsn n b) : a = b := by
  apply xor_zero_eq
  apply fsn_zero (n := n) (Nat.xor_lt_two_pow (n := 32) ha hb)
  rw [fsn_xor, h, Nat.xor_self]
/-- The first n powers behind c. -/
def pws : Nat → Nat → List Nat
  | 0, _ => []
  | n + 1, c => c :: pws n (fs c)
theorem pws_get (n c : Nat) : ∀ i, i < n → (pws n c)[i]? = some (fsn i c) := by
  induction n generalizing c with
  | zero => intro i h; omega
  | succ n ih =>
    intro i h
    cases i with
    | zero => rfl
    | succ i => exact ih (fs c) i (by omega)
/-- Whether x is none of them. -/
def noneOf (x : Nat) : List Nat → Bool
  | [] => true
  | y :: r => !(Nat.beq x y) && noneOf x r
theorem noneOf_get {x : Nat} : ∀ {l : List Nat}, noneOf x l = true → ∀ (i y : Nat), l[i]? = some y → x ≠ y
  | [], _, i, y, h => by simp at h
  | z :: r, h, i, y, hy => by
    simp only [noneOf, Bool.and_eq_true, Bool.not_eq_true'] at h
    cases i with
    | zero =>
      simp at hy
      subst hy
      intro e
      have := h.1
      rw [e, Nat.beq_refl] at this
      cases this
    | succ i => exact noneOf_get h.2 i y (by simpa using hy)
/-- No two powers, and no power with the first one, make another one or the first one. -/
def checkAll (l : List Nat) : List Nat → Bool
  | [] => true
  | y :: r => noneOf (2147483648 ^^^ y) l && checkAll l r
theorem checkAll_get {l : List Nat} : ∀ {m : List Nat}, checkAll l m = true → ∀ (i y : Nat), m[i]? = some y → noneOf (2147483648 ^^^ y) l = true
  | [], _, i, y, h => by simp at h
  | z :: r, h, i, y, hy => by
    simp only [checkAll, Bool.and_eq_true] at h
    cases i with
    | zero => simp at hy; subst hy; exact h.1
    | succ i => exact checkAll_get h.2 i y (by simpa using hy)
set_option maxRecDepth 100000 in
theorem check_544 : checkAll (pws 544 2147483648) ((pws 544 2147483648).drop 1) = true := by kernel_rfl
theorem pw_two {a b : Nat} (ha : 0 < a) (ha2 : a < 544) (hb : b < 544) : 2147483648 ^^^ pw a ≠ pw b := by
  have h1 : ((pws 544 2147483648).drop 1)[a - 1]? = some (pw a) := by
    rw [List.getElem?_drop, show 1 + (a - 1) = a by omega]; exact pws_get 544 _ a ha2
  exact noneOf_get (checkAll_get check_544 _ _ h1) b _ (pws_get 544 _ b hb)
/-- Three that are all different do not cancel. -/
theorem pw_three {a b c : Nat} (hab : a < b) (hbc : b < c) (hc : c < 544) : pw a ^^^ pw b ^^^ pw c ≠ 0 := by
  intro h
  have e1 : pw b = fsn a (pw (b - a)) := by rw [← pw_add, show b - a + a = b by omega]
  have e2 : pw c = fsn a (pw (c - a)) := by rw [← pw_add, show c - a + a = c by omega]
  have e0 : pw a = fsn a 2147483648 := rfl
  rw [e0, e1, e2, ← fsn_xor, ← fsn_xor] at h
  have := fsn_zero (Nat.xor_lt_two_pow (n := 32) (Nat.xor_lt_two_pow (n := 32) (by decide) (pw_lt _)) (pw_lt _)) h
  exact pw_two (a := b - a) (b := c - a) (by omega) (by omega) (by omega) (xor_zero_eq this)

/-- Any three, alike or not, do not cancel. -/
theorem pw_any {a b c : Nat} (ha : a < 544) (hb : b < 544) (hc : c < 544) : pw a ^^^ pw b ^^^ pw c ≠ 0 := by
  by_cases e1 : a = b
  · subst e1; rw [Nat.xor_self, Nat.zero_xor]; exact pw_pos c
  · by_cases e2 : b = c
    · subst e2; rw [Nat.xor_assoc, Nat.xor_self, Nat.xor_zero]; exact pw_pos a
    · by_cases e3 : a = c
      · subst e3
        rw [Nat.xor_comm (pw a) (pw b), Nat.xor_assoc, Nat.xor_self, Nat.xor_zero]; exact pw_pos b
      · have s1 : pw a ^^^ pw b ^^^ pw c = pw a ^^^ pw c ^^^ pw b := by ac_rfl
        have s2 : pw a ^^^ pw b ^^^ pw c = pw b ^^^ pw a ^^^ pw c := by ac_rfl
        have s3 : pw a ^^^ pw b ^^^ pw c = pw b ^^^ pw c ^^^ pw a := by ac_rfl
        have s4 : pw a ^^^ pw b ^^^ pw c = pw c ^^^ pw a ^^^ pw b := by ac_rfl
        have s5 : pw a ^^^ pw b ^^^ pw c = pw c ^^^ pw b ^^^ pw a := by ac_rfl
        rcases Nat.lt_or_gt_of_ne e1 with h1 | h1 <;> rcases Nat.lt_or_gt_of_ne e2 with h2 | h2 <;> rcases Nat.lt_or_gt_of_ne e3 with h3 | h3
        · exact pw_three h1 h2 hc
        · omega
        · rw [s1]; exact pw_three h3 h2 hb
        · rw [s4]; exact pw_three h3 h1 hb
        · rw [s2]; exact pw_three h1 h3 hc
        · rw [s3]; exact pw_three h2 h3 ha
        · omega
        · rw [s5]; exact pw_three h2 h1 ha

end Go.Proofs.YtjngknnkffbnmaaDoor.Crc
