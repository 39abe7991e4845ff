/-
  DecQuo, DecQuo2, TxtMath, DecText, DecRead, DecRead2
-/
import Derived.Lib.Strings
import Derived.Test.YtjkedocppbcncaaDoorZ18

/-
  The landed quotient of two numbers in parts: the rung nearest to it. First the mathematics.
-/
namespace Go.Proofs.YtjkedocppbcncaaDoor
set_option maxRecDepth 100000
open Go.RowKit Pt Flo

theorem bl_scale {A : Nat} (c : Nat) (hA : A ≠ 0) : bl (A * 2 ^ c) = bl A + c := by
  have h1 := bl_ge hA
  have h2 := bl_lt A
  have h3 : 1 ≤ bl A := by unfold bl; rw [if_neg hA]; omega
  obtain ⟨e, he⟩ : ∃ e, bl A = e + 1 := ⟨bl A - 1, by omega⟩
  rw [he] at h1 h2 ⊢
  rw [Nat.add_sub_cancel] at h1
  have := bl_of (n := A * 2 ^ c) (e := e + c) (by rw [Nat.pow_add]; exact Nat.mul_le_mul_right _ h1) (by rw [show e + c + 1 = e + 1 + c by omega, Nat.pow_add]; exact Nat.mul_lt_mul_of_pos_right h2 (Nat.two_pow_pos c))
  omega
theorem near_part {A B k t : Nat} (hA : A ≠ 0) (hB : 0 < B) (hq : 9007199254740992 ≤ A * 2 ^ k / (B * 2 ^ t)) : rung k (stick A (B * 2 ^ t) k * 2 ^ (OP - 1 + t)) = nearR A B := by
  have hB2 : 0 < B * 2 ^ t := Nat.mul_pos hB (Nat.two_pow_pos t)
  rw [stick_more hB2 hq (g := k) (x := OP - 1) (t := t), ← stick_up A (B * 2 ^ t) k t, stick_scale]
  refine near_bits hA hB ?_
  refine Nat.le_trans hq ?_
  exact Nat.div_le_div_left (Nat.le_mul_of_pos_right _ (Nat.two_pow_pos t)) hB
theorem two_le {Z X Y : Nat} (q : Z < X) (q2 : X * 2 ≤ Y) : 2 * Z ≤ Y := by omega
theorem same_len {A B m : Nat} (hA : A ≠ 0) (h1 : bl A = m) (h2 : bl B = m) : B ≤ A * 2 := by
  have a1 := bl_ge hA
  have a2 := bl_lt B
  have a3 : 1 ≤ bl A := by unfold bl; rw [if_neg hA]; omega
  rw [h1] at a1 a3
  rw [h2] at a2
  obtain ⟨e, rfl⟩ : ∃ e, m = e + 1 := ⟨m - 1, by omega⟩
  rw [Nat.add_sub_cancel] at a1
  rw [Nat.pow_succ] at a2
  omega
/-- The bits that the loop makes, and its rest. -/
theorem quo_loop {A B f N : Nat} (hB : 0 < B) (hI : N + 2 * B * f = 2 ^ 64 * A) (hN : N < 2 * B) : 2 * f + (decide (0 < N)).toNat = stick A B 63 ∧ f = A * 2 ^ 63 / B := by
  obtain ⟨r, hr⟩ : ∃ r, N = 2 * r := by
    refine ⟨N / 2, ?_⟩
    have h1 : 2 * B * f = 2 * (B * f) := Nat.mul_assoc _ _ _
    have h2 : 2 ^ 64 * A = 2 * (2 ^ 63 * A) := by rw [← Nat.mul_assoc]
    omega
  subst hr
  have h1 : r + B * f = A * 2 ^ 63 := by
    have e1 : 2 * B * f = 2 * (B * f) := Nat.mul_assoc _ _ _
    have e2 : 2 ^ 64 * A = 2 * (A * 2 ^ 63) := by rw [Nat.mul_comm A, ← Nat.mul_assoc]
    omega
  have hf : A * 2 ^ 63 / B = f := by
    rw [← h1, Nat.add_mul_div_left _ _ hB, Nat.div_eq_of_lt (by omega)]; omega
  have hm : A * 2 ^ 63 % B = r := by
    rw [← h1, Nat.add_mul_mod_self_left, Nat.mod_eq_of_lt (by omega)]
  refine ⟨?_, hf.symm⟩
  unfold stick
  rw [hf, hm]
  by_cases c : r = 0
  · subst c; simp
  · rw [if_neg c, decide_eq_true (by omega)]; rfl
theorem quo_math {A B f N a b c1 c2 : Nat} (hA : A ≠ 0) (hB : B ≠ 0) (ha : a = bl A) (hb : b = bl B) (hc1 : c1 = b - a) (hc2 : c2 = a - b)
    (hI : N + 2 * (B * 2 ^ c2) * f = 2 ^ 64 * (A * 2 ^ c1)) (hN : N < 2 * (B * 2 ^ c2)) : makeZ false ((a : Int) - (b : Int) - 64 + 1) f (decide (0 < N)) = (nearR A B : Nat) := by
  have hg := G_eq
  have hO := OP_eq
  have p1 := Nat.two_pow_pos c1
  have p2 := Nat.two_pow_pos c2
  have hA1 : A * 2 ^ c1 ≠ 0 := Nat.mul_ne_zero hA (by omega)
  have hB1 : 0 < B * 2 ^ c2 := Nat.mul_pos (by omega) p2
  obtain ⟨e1, e2⟩ := quo_loop hB1 hI hN
  have hlen : B * 2 ^ c2 ≤ A * 2 ^ c1 * 2 := same_len (m := bl A + c1) hA1 (bl_scale _ hA) (by rw [bl_scale _ hB]; omega)
  have hf : 2 ^ 62 ≤ f := by
    rw [e2, Nat.le_div_iff_mul_le hB1]
    have : 2 ^ 62 * (B * 2 ^ c2) ≤ 2 ^ 62 * (A * 2 ^ c1 * 2) := Nat.mul_le_mul_left _ hlen
    omega
  have hfq : 9007199254740992 ≤ A * 2 ^ c1 * 2 ^ 63 / (B * 2 ^ c2) := by rw [← e2]; exact Nat.le_trans (by decide) hf
  have hf2 : f < 2 ^ 66 := by
    rw [e2, Nat.div_lt_iff_lt_mul hB1]
    have b1 : A * 2 ^ c1 ≤ B * 2 ^ c2 * 2 := same_len (m := bl A + c1) (by omega) (by rw [bl_scale _ hB]; omega) (bl_scale _ hA)
    have : (0 : Nat) < 2 ^ 66 * (B * 2 ^ c2) := by omega
    omega
  unfold makeZ
  rw [if_neg (by simp)]
  unfold units
  rw [e1]
  generalize hS : stick (A * 2 ^ c1) (B * 2 ^ c2) 63 = S at *
  have hS1 : 2 ^ 63 ≤ S := by rw [← e1]; omega
  have hS2 : S < 2 ^ 68 := by
    rw [← e1]
    have : (decide (0 < N)).toNat ≤ 1 := Bool.toNat_le _
    omega
  congr 1
  rcases Nat.le_total b a with hab | hab
  · have z1 : c1 = 0 := by omega
    subst z1
    rw [Nat.pow_zero, Nat.mul_one] at hfq hS
    have hnear := near_part hA (by omega) hfq
    rw [hS] at hnear
    by_cases cl : (a : Int) - (b : Int) - 64 + 1 ≤ 1100
    · rw [show (min (max ((a : Int) - (b : Int) - 64 + 1) (-1200)) 1100 + 1073 + (G : Int)).toNat = (OP - 1 + c2) + (G - 63) by omega, Nat.pow_add, ← Nat.mul_assoc]
      rw [← hnear]
      have := rung_scale 63 (S * 2 ^ (OP - 1 + c2)) (G - 63)
      rw [show 63 + (G - 63) = G by omega] at this
      exact this
    · rw [show (min (max ((a : Int) - (b : Int) - 64 + 1) (-1200)) 1100 + 1073 + (G : Int)).toNat = 2173 + G by omega]
      rw [← hnear]
      have q1 : 2 ^ (63 + (2173 + G)) ≤ S * 2 ^ (2173 + G) := by rw [Nat.pow_add]; exact Nat.mul_le_mul_right _ hS1
      have q2 : 2 ^ (63 + (OP - 1 + c2)) ≤ S * 2 ^ (OP - 1 + c2) := by rw [Nat.pow_add]; exact Nat.mul_le_mul_right _ hS1
      rw [rung_big G (by omega) q1, rung_big 63 (by omega) q2]
  · have z2 : c2 = 0 := by omega
    subst z2
    rw [Nat.pow_zero, Nat.mul_one] at hfq hS
    rw [stick_up] at hS
    have hfq2 : 9007199254740992 ≤ A * 2 ^ (63 + c1) / B := by rw [Nat.add_comm, Nat.pow_add, ← Nat.mul_assoc]; exact hfq
    have hnear := near_bits hA (by omega) hfq2
    rw [hS] at hnear
    by_cases cl : -1200 ≤ (a : Int) - (b : Int) - 64 + 1
    · rw [← hnear]
      rcases Nat.le_total (63 + c1) G with hk | hk
      · rw [show (min (max ((a : Int) - (b : Int) - 64 + 1) (-1200)) 1100 + 1073 + (G : Int)).toNat = (OP - 1) + (G - (63 + c1)) by omega, Nat.pow_add, ← Nat.mul_assoc]
        have := rung_scale (63 + c1) (S * 2 ^ (OP - 1)) (G - (63 + c1))
        rw [show 63 + c1 + (G - (63 + c1)) = G by omega] at this
        exact this
      · have e : S * 2 ^ (OP - 1) = S * 2 ^ (OP - 1 - (63 + c1 - G)) * 2 ^ (63 + c1 - G) := by
          rw [Nat.mul_assoc, ← Nat.pow_add, show OP - 1 - (63 + c1 - G) + (63 + c1 - G) = OP - 1 by omega]
        rw [show (min (max ((a : Int) - (b : Int) - 64 + 1) (-1200)) 1100 + 1073 + (G : Int)).toNat = OP - 1 - (63 + c1 - G) by omega, e]
        have := rung_scale G (S * 2 ^ (OP - 1 - (63 + c1 - G))) (63 + c1 - G)
        rw [show G + (63 + c1 - G) = 63 + c1 by omega] at this
        exact this.symm
    · rw [show (min (max ((a : Int) - (b : Int) - 64 + 1) (-1200)) 1100 + 1073 + (G : Int)).toNat = G - 127 by omega]
      rw [← hnear]
      obtain ⟨o, ho⟩ : ∃ o, o = OP - 1 := ⟨_, rfl⟩
      rw [← ho]
      rw [rung_tiny, rung_tiny]
      · have q := Nat.mul_lt_mul_of_pos_right hS2 (Nat.two_pow_pos o)
        rw [← Nat.pow_add] at q
        have q2 := Nat.pow_le_pow_right (show 0 < 2 by decide) (show 68 + o + 1 ≤ 63 + c1 by omega)
        rw [Nat.pow_succ] at q2
        exact two_le q q2
      · have q := Nat.mul_lt_mul_of_pos_right hS2 (Nat.two_pow_pos (G - 127))
        rw [← Nat.pow_add] at q
        have q2 := Nat.pow_le_pow_right (show 0 < 2 by decide) (show 68 + (G - 127) + 1 ≤ G by omega)
        rw [Nat.pow_succ] at q2
        exact two_le q q2

end Go.Proofs.YtjkedocppbcncaaDoor

/-
  The landed quotient, walked.
-/
namespace Go.Proofs.YtjkedocppbcncaaDoor
set_option maxRecDepth 100000
open Go.RowKit Pt Flo

theorem PR.form {w : World} {g : Nat} {v : Value} {n : Nat} (h : PR w g v n) : ∃ l cap, v = .slice (some ⟨g, 0, none⟩) l cap ∧ (l = 0 ↔ n = 0) ∧ l ≤ cap ∧ cap ≤ 9223372036854775807 := by
  obtain ⟨ds, hP, hv, ht⟩ := h
  have hc := hP
  obtain ⟨cap, rfl, _, _⟩ := hP
  have hcap := hc.cap.2
  unfold maxLen at hcap
  refine ⟨ds.length, cap, rfl, ⟨?_, ?_⟩, hcap.1, by omega⟩
  · intro e
    rw [← hv, List.eq_nil_of_length_eq_zero e]; rfl
  · intro e
    rcases ht with h0 | h0
    · exact h0
    · have := rpos (ds.length - 1); omega
theorem quo_step0 {N B f A i : Nat} (h : N + 2 * B * f = 2 ^ i * A) : N * 2 + 2 * B * (2 * f) = 2 ^ (i + 1) * A := by
  rw [Nat.pow_succ, Nat.mul_right_comm (2 ^ i) 2 A, ← h, Nat.add_mul, Nat.mul_assoc (2 * B) f 2, Nat.mul_comm f 2]
theorem quo_step1 {N B f A i : Nat} (hN : B ≤ N) (h : N + 2 * B * f = 2 ^ i * A) : (N - B) * 2 + 2 * B * (2 * f + 1) = 2 ^ (i + 1) * A := by
  have := quo_step0 h
  rw [Nat.mul_add, Nat.mul_one]
  have e : (N - B) * 2 = N * 2 - B * 2 := Nat.sub_mul _ _ _
  omega
theorem or_one {f : Nat} (h : f < 9223372036854775808) : bits .or .u64 ((f : Int) * 2) 1 = ((2 * f + 1 : Nat) : Int) := by
  rw [u64_or _ _ (by omega) (by omega) (by decide) (by decide), show ((f : Int) * 2).toNat = f * 2 by omega, show (1 : Int).toNat = 1 from rfl, nat_join 1 _ _ (by omega) (by decide)]
  omega
theorem frac_lt {f i : Nat} (hi : i < 64) (h : f < 2 ^ i) : f < 9223372036854775808 := Nat.lt_of_lt_of_le h (Nat.pow_le_pow_right (by decide) (show i ≤ 63 by omega))

end Go.Proofs.YtjkedocppbcncaaDoor

/-
  Plain mathematics of texts as lists of bytes: digits, and what a numeral says. No Go in sight.
-/
namespace Go.Proofs.YtjkedocppbcncaaDoor.Txt
set_option maxRecDepth 100000

def bs (l : List UInt8) : ByteArray := ⟨l.toArray⟩
theorem bs_size (l : List UInt8) : (bs l).size = l.length := by unfold bs; simp [ByteArray.size]
theorem bs_list (l : List UInt8) : (bs l).data.toList = l := by unfold bs; simp
theorem bs_data (s : ByteArray) : bs s.data.toList = s := Lib.mk_data s
theorem bs_get (l : List UInt8) (k : Nat) (h : k < (bs l).size) : (bs l)[k] = l[k]'(by rw [bs_size] at h; exact h) := by
  simp [bs, ByteArray.getElem_eq_getElem_data]
theorem bs_inj {a b : List UInt8} : bs a = bs b ↔ a = b := by
  constructor
  · intro h; rw [← bs_list a, ← bs_list b, h]
  · intro h; rw [h]
theorem bs_extract (l : List UInt8) (a b : Nat) : (bs l).extract a b = bs ((l.drop a).take (b - a)) := by
  rw [Lib.extract_eq, bs_list]; rfl
theorem bs_append (a b : List UInt8) : bs a ++ bs b = bs (a ++ b) := by
  unfold bs
  apply ByteArray.ext
  simp

def isD (c : UInt8) : Bool := decide (48 ≤ c.toNat ∧ c.toNat ≤ 57)
/-- What digits say. -/
def dv : List UInt8 → Nat → Nat
  | [], n => n
  | c :: r, n => dv r (n * 10 + (c.toNat - 48))
theorem dv_snoc (l : List UInt8) (c : UInt8) (n : Nat) : dv (l ++ [c]) n = dv l n * 10 + (c.toNat - 48) := by
  induction l generalizing n with
  | nil => rfl
  | cons a r ih => exact ih _
theorem dv_append (l r : List UInt8) (n : Nat) : dv (l ++ r) n = dv r (dv l n) := by
  induction l generalizing n with
  | nil => rfl
  | cons a t ih => exact ih _
def AllD (l : List UInt8) : Prop := ∀ c ∈ l, isD c = true
theorem dv_lt : ∀ (l : List UInt8) (n : Nat), AllD l → dv l n < (n + 1) * 10 ^ l.length := by
  intro l
  induction l with
  | nil => intro n _; simp [dv]
  | cons c r ih =>
    intro n h
    have hc := h c (by simp)
    have := ih (n * 10 + (c.toNat - 48)) (fun x hx => h x (by simp [hx]))
    unfold isD at hc
    simp at hc
    rw [List.length_cons, Nat.pow_succ, Nat.mul_comm (10 ^ r.length), ← Nat.mul_assoc]
    refine Nat.lt_of_lt_of_le this (Nat.mul_le_mul_right _ ?_)
    omega
theorem dv_ge (l : List UInt8) (n : Nat) : n ≤ dv l n := by
  induction l generalizing n with
  | nil => exact Nat.le_refl _
  | cons c r ih => have := ih (n * 10 + (c.toNat - 48)); unfold dv; omega

theorem span_of : ∀ (l : List UInt8) (k : Nat), k ≤ l.length → (∀ j (h : j < l.length), j < k → isD l[j] = true) → (∀ h : k < l.length, isD l[k] = false) → l.takeWhile isD = l.take k ∧ l.dropWhile isD = l.drop k := by
  intro l
  induction l with
  | nil => intro k h _ _; simp at h; subst h; simp
  | cons c r ih =>
    intro k hk h1 h2
    cases k with
    | zero =>
      have := h2 (by simp)
      simp at this
      simp [this]
    | succ k =>
      have h0 := h1 0 (by simp) (by omega)
      simp at h0
      have := ih k (by simpa using hk) (fun j h hj => by have := h1 (j + 1) (by simpa using h) (by omega); simpa using this) (fun h => by have := h2 (by simpa using h); simpa using this)
      simp [h0, this]
theorem allD_take (l : List UInt8) : AllD (l.takeWhile isD) := by
  intro c hc
  induction l with
  | nil => simp at hc
  | cons a r ih =>
    rw [List.takeWhile_cons] at hc
    split at hc
    · rcases List.mem_cons.1 hc with h | h
      · subst h; assumption
      · exact ih h
    · simp at hc

/-! A numeral. -/
def dig (l : List UInt8) : List UInt8 := l.takeWhile isD
def rst (l : List UInt8) : List UInt8 := l.dropWhile isD
theorem dig_rst (l : List UInt8) : dig l ++ rst l = l := List.takeWhile_append_dropWhile
/-- Behind the e and the sign. -/
def expD (neg : Bool) (l : List UInt8) : Option Int := if dig l = [] then none else if rst l = [] then some (if neg then -(dv (dig l) 0 : Int) else dv (dig l) 0) else none
/-- Behind the e. -/
def expS (l : List UInt8) : Option Int :=
  match l with
  | [] => none
  | c :: r => if c.toNat = 45 then expD true r else if c.toNat = 43 then expD false r else expD false (c :: r)
/-- The e, or nothing at all. -/
def expo (l : List UInt8) : Option Int :=
  match l with
  | [] => some 0
  | c :: r => if c.toNat = 101 ∨ c.toNat = 69 then expS r else none
/-- The digits and the power of ten. -/
def numL (l : List UInt8) : Option (List UInt8 × Int) :=
  if dig l = [] then none else
  match rst l with
  | [] => some (dig l, 0)
  | c :: r => if c.toNat = 46 then (if dig r = [] then none else (expo (rst r)).map fun e => (dig l ++ dig r, e - (dig r).length))
              else (expo (c :: r)).map fun e => (dig l, e)

end Go.Proofs.YtjkedocppbcncaaDoor.Txt

/-
  Texts: the landed cutDigits and the library's HasPrefix of one byte, walked.
-/
namespace Go.Proofs.YtjkedocppbcncaaDoor
set_option maxRecDepth 100000
open Go.RowKit Txt

theorem isD_true {c : UInt8} (h1 : 48 ≤ (c.toNat : Int)) (h2 : (c.toNat : Int) ≤ 57) : isD c = true := by unfold isD; simp; omega
theorem isD_false {c : UInt8} (h : (c.toNat : Int) < 48 ∨ 57 < (c.toNat : Int)) : isD c = false := by unfold isD; simp; omega

/-- Whether a text begins with a byte. -/
def hp (c : UInt8) (l : List UInt8) : Bool := match l with | [] => false | a :: _ => a == c
theorem bs_toList (l : List UInt8) : (bs l).toList = l := by rw [Lib.toList_data, bs_list]
theorem eq_one (a c : UInt8) : ((bs [a]).toList == (bs [c]).toList) = (a == c) := by
  rw [bs_toList, bs_toList]; simp
end Go.Proofs.YtjkedocppbcncaaDoor

/-
  The landed readExp, walked.
-/
namespace Go.Proofs.YtjkedocppbcncaaDoor
set_option maxRecDepth 100000
open Go.RowKit Txt

def cl (x : Int) : Int := max (min x 40000) (-40000)
def expV : Option Int → Value
  | none => .tuple #[.int .i64 0, .bool false]
  | some x => .tuple #[.int .i64 (cl x), .bool true]
theorem int_eq {k : IntKind} {a b : Int} (h : a = b) : Value.int k a = Value.int k b := by rw [h]
theorem ret_pair {a b : Int} {p q : Bool} (h : a = b) (h2 : p = q) : Ending.returned (.tuple #[.int .i64 a, .bool p]) = .returned (.tuple #[.int .i64 b, .bool q]) := by rw [h, h2]
theorem expV_none {neg : Bool} {t : List UInt8} (h : expD neg t = none) : expV (expD neg t) = .tuple #[.int .i64 0, .bool false] := by rw [h]; rfl
theorem emp_bs (l : List UInt8) : (bs l).toList.isEmpty = l.isEmpty := by rw [bs_toList]
theorem dv_take {D : List UInt8} {k : Nat} (h : k < D.length) : dv (D.take (k + 1)) 0 = dv (D.take k) 0 * 10 + (D[k].toNat - 48) := by
  rw [List.take_succ_eq_append_getElem h, dv_snoc]
theorem isD_get {D : List UInt8} (hD : AllD D) {k : Nat} (h : k < D.length) : 48 ≤ D[k].toNat ∧ D[k].toNat ≤ 57 := by
  have := hD D[k] (List.getElem_mem h)
  unfold isD at this
  simpa using this
theorem min_step {x n d : Nat} (h : x = min n 40000) : min (10 * x + d) 40000 = min (n * 10 + d) 40000 := by omega

end Go.Proofs.YtjkedocppbcncaaDoor

/-
  The landed readExp of any text, and read, walked.
-/
namespace Go.Proofs.YtjkedocppbcncaaDoor
set_option maxRecDepth 100000
open Go.RowKit Txt

theorem expo_cons (c : UInt8) (r : List UInt8) : Txt.expo (c :: r) = if c.toNat = 101 ∨ c.toNat = 69 then expS r else none := rfl
theorem expS_cons (c : UInt8) (r : List UInt8) : expS (c :: r) = if c.toNat = 45 then expD true r else if c.toNat = 43 then expD false r else expD false (c :: r) := rfl
theorem bs_tail (c : UInt8) (r : List UInt8) : (bs (c :: r)).extract 1 (bs (c :: r)).size = bs r := by
  rw [bs_extract, bs_size]; simp
theorem bs_head (c : UInt8) (r : List UInt8) (h : 0 < (bs (c :: r)).size) : (bs (c :: r))[0] = c := by
  rw [bs_get]; rfl
theorem byte_ne {a c : UInt8} (h : a.toNat ≠ c.toNat) : (a == c) = false := by
  rw [beq_eq_false_iff_ne]; intro e; exact h (by rw [e])
theorem byte_eq {a c : UInt8} (h : a.toNat = c.toNat) : (a == c) = true := by
  rw [beq_iff_eq]; exact UInt8.toNat_inj.1 h

theorem below_box (w : World) (o : Obj) (q : Nat) (a b : Value) : Below w.heap.size w ((((w.alloc o).drewN q).setCell ⟨w.heap.size, 0, none⟩ a).setCell ⟨w.heap.size, 1, none⟩ b) :=
  ((below_drewN ((Below.refl _ _).alloc (Nat.le_refl _) _) q).setCell (p := ⟨w.heap.size, 0, none⟩) (Nat.le_refl _) _).setCell (p := ⟨w.heap.size, 1, none⟩) (Nat.le_refl _) _
/-- What the program holds for an exponent. -/
def Held (x E : Int) : Prop := x = E ∨ (39000 ≤ x ∧ 39000 ≤ E ∧ x ≤ 41000) ∨ (x ≤ -39000 ∧ E ≤ -39000 ∧ -41000 ≤ x)
theorem held_cl (e : Int) (k : Nat) (hk : k ≤ 400) : Held (-(k : Int) + cl e) (e - k) := by unfold Held cl; omega
theorem held_cl0 (e : Int) : Held (cl e) e := by unfold Held cl; omega
theorem cl_range (e : Int) : -40000 ≤ cl e ∧ cl e ≤ 40000 := by unfold cl; omega

end Go.Proofs.YtjkedocppbcncaaDoor
