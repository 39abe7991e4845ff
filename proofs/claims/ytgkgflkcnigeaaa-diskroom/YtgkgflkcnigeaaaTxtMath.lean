/-
  Plain mathematics of texts as lists of bytes: digits, and what a numeral says. No Go in sight.
-/
import Derived.Lib.Strings
namespace Go.Proofs.Ytgkgflkcnigeaaa.Txt
set_option maxRecDepth 100000

def bs (l : List UInt8) : ByteArray := ⟨l.toArray⟩
theorem bs_size (l : List UInt8) : (bs l).size = l.length := by unfold bs; simp [ByteArray.size]
theorem bs_list (l : List UInt8) : (bs l).data.toList = l := by unfold bs; simp
theorem bs_data (s : ByteArray) : bs s.data.toList = s := Lib.mk_data s
theorem bs_get (l : List UInt8) (k : Nat) (h : k < (bs l).size) : (bs l)[k] = l[k]'(by rw [bs_size] at h; exact h) := by
  simp [bs, ByteArray.getElem_eq_getElem_data]
theorem bs_inj {a b : List UInt8} : bs a = bs b ↔ a = b := by
  constructor
  · intro h; rw [← bs_list a, ← bs_list b, h]
  · intro h; rw [h]
theorem bs_extract (l : List UInt8) (a b : Nat) : (bs l).extract a b = bs ((l.drop a).take (b - a)) := by
  rw [Lib.extract_eq, bs_list]; rfl
theorem bs_append (a b : List UInt8) : bs a ++ bs b = bs (a ++ b) := by
  unfold bs
  apply ByteArray.ext
  simp

def isD (c : UInt8) : Bool := decide (48 ≤ c.toNat ∧ c.toNat ≤ 57)
/-- What digits say. -/
def dv : List UInt8 → Nat → Nat
  | [], n => n
  | c :: r, n => dv r (n * 10 + (c.toNat - 48))
theorem dv_snoc (l : List UInt8) (c : UInt8) (n : Nat) : dv (l ++ [c]) n = dv l n * 10 + (c.toNat - 48) := by
  induction l generalizing n with
  | nil => rfl
  | cons a r ih => exact ih _
theorem dv_append (l r : List UInt8) (n : Nat) : dv (l ++ r) n = dv r (dv l n) := by
  induction l generalizing n with
  | nil => rfl
  | cons a t ih => exact ih _
def AllD (l : List UInt8) : Prop := ∀ c ∈ l, isD c = true
theorem dv_lt : ∀ (l : List UInt8) (n : Nat), AllD l → dv l n < (n + 1) * 10 ^ l.length := by
  intro l
  induction l with
  | nil => intro n _; simp [dv]
  | cons c r ih =>
    intro n h
    have hc := h c (by simp)
    have := ih (n * 10 + (c.toNat - 48)) (fun x hx => h x (by simp [hx]))
    unfold isD at hc
    simp at hc
    rw [List.length_cons, Nat.pow_succ, Nat.mul_comm (10 ^ r.length), ← Nat.mul_assoc]
    refine Nat.lt_of_lt_of_le this (Nat.mul_le_mul_right _ ?_)
    omega
theorem dv_ge (l : List UInt8) (n : Nat) : n ≤ dv l n := by
  induction l generalizing n with
  | nil => exact Nat.le_refl _
  | cons c r ih => have := ih (n * 10 + (c.toNat - 48)); unfold dv; omega

theorem span_of : ∀ (l : List UInt8) (k : Nat), k ≤ l.length → (∀ j (h : j < l.length), j < k → isD l[j] = true) → (∀ h : k < l.length, isD l[k] = false) → l.takeWhile isD = l.take k ∧ l.dropWhile isD = l.drop k := by
  intro l
  induction l with
  | nil => intro k h _ _; simp at h; subst h; simp
  | cons c r ih =>
    intro k hk h1 h2
    cases k with
    | zero =>
      have := h2 (by simp)
      simp at this
      simp [this]
    | succ k =>
      have h0 := h1 0 (by simp) (by omega)
      simp at h0
      have := ih k (by simpa using hk) (fun j h hj => by have := h1 (j + 1) (by simpa using h) (by omega); simpa using this) (fun h => by have := h2 (by simpa using h); simpa using this)
      simp [h0, this]
theorem allD_take (l : List UInt8) : AllD (l.takeWhile isD) := by
  intro c hc
  induction l with
  | nil => simp at hc
  | cons a r ih =>
    rw [List.takeWhile_cons] at hc
    split at hc
    · rcases List.mem_cons.1 hc with h | h
      · subst h; assumption
      · exact ih h
    · simp at hc

/-! A numeral. -/
def dig (l : List UInt8) : List UInt8 := l.takeWhile isD
def rst (l : List UInt8) : List UInt8 := l.dropWhile isD
theorem dig_rst (l : List UInt8) : dig l ++ rst l = l := List.takeWhile_append_dropWhile
/-- Behind the e and the sign. -/
def expD (neg : Bool) (l : List UInt8) : Option Int := if dig l = [] then none else if rst l = [] then some (if neg then -(dv (dig l) 0 : Int) else dv (dig l) 0) else none
/-- Behind the e. -/
def expS (l : List UInt8) : Option Int :=
  match l with
  | [] => none
  | c :: r => if c.toNat = 45 then expD true r else if c.toNat = 43 then expD false r else expD false (c :: r)
/-- The e, or nothing at all. -/
def expo (l : List UInt8) : Option Int :=
  match l with
  | [] => some 0
  | c :: r => if c.toNat = 101 ∨ c.toNat = 69 then expS r else none
/-- The digits and the power of ten. -/
def numL (l : List UInt8) : Option (List UInt8 × Int) :=
  if dig l = [] then none else
  match rst l with
  | [] => some (dig l, 0)
  | c :: r => if c.toNat = 46 then (if dig r = [] then none else (expo (rst r)).map fun e => (dig l ++ dig r, e - (dig r).length))
              else (expo (c :: r)).map fun e => (dig l, e)

end Go.Proofs.Ytgkgflkcnigeaaa.Txt
