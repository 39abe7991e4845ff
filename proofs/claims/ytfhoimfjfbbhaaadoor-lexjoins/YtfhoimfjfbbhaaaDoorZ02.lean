/-
  DigProd, DigUp, DigCmp, DigMinus, Flo, FloSpec
-/
import Derived.Deep.QuietTactic
import Derived.BigQuiet
import Derived.WalkSmall
import Ieee.Arith
import Derived.Laws.BitsAllLaws
import Derived.Test.YtfhoimfjfbbhaaaDoorZ01

/-
  The walk of the reference's Product.
-/
namespace Go.Proofs.YtfhoimfjfbbhaaaDoor
set_option maxRecDepth 100000
open Go.RowKit Dg

theorem val_set : ∀ (os : List Nat) (j d : Nat), j < os.length → val (os.set j d) + os.getD j 0 * 65536 ^ j = val os + d * 65536 ^ j := by
  intro os
  induction os with
  | nil => intro j d h; simp at h
  | cons a r ih =>
    intro j d h
    cases j with
    | zero => simp only [List.set_cons_zero, val, List.getD_cons_zero, Nat.pow_zero]; omega
    | succ j =>
      have := ih j d (by simpa using h)
      simp only [List.set_cons_succ, val, List.getD_cons_succ, Nat.pow_succ']
      grind
theorem small_set {os : List Nat} {j d : Nat} (hs : Small16 os) (hd : d < 65536) : Small16 (os.set j d) := by
  intro x hx
  rcases List.mem_or_eq_of_mem_set hx with h | h
  · exact hs x h
  · omega
theorem cells_set (os : List Nat) (j d : Nat) : (cells os).set j (.int .u64 (d : Int)) = cells (os.set j d) := by unfold cells; rw [List.map_set]

theorem prod_step {n m i k c p q o d f : Nat} {os : List Nat} (_hp : p = dig n i) (hq : q = dig m k) (hj : i + k < os.length) (ho : o = os.getD (i + k) 0) (hd : d = (o + p * q + c) % 65536) (hf : f = (o + p * q + c) / 65536)
    (h : val os + c * 65536 ^ (i + k) = (n % 65536 ^ i) * m + p * (m % 65536 ^ k) * 65536 ^ i) :
    val (os.set (i + k) d) + f * 65536 ^ (i + (k + 1)) = (n % 65536 ^ i) * m + p * (m % 65536 ^ (k + 1)) * 65536 ^ i := by
  have hs := val_set os (i + k) d hj
  rw [← ho] at hs
  have hx : d + f * 65536 = o + p * q + c := by omega
  rw [dig_step m k, ← hq]
  rw [show i + (k + 1) = i + k + 1 by omega, Nat.pow_succ]
  have e1 : p * (m % 65536 ^ k + 65536 ^ k * q) * 65536 ^ i = p * (m % 65536 ^ k) * 65536 ^ i + p * q * 65536 ^ (i + k) := by
    rw [Nat.pow_add]; grind
  have e2 : d * 65536 ^ (i + k) + f * (65536 ^ (i + k) * 65536) = o * 65536 ^ (i + k) + p * q * 65536 ^ (i + k) + c * 65536 ^ (i + k) := by
    have := congrArg (· * 65536 ^ (i + k)) hx
    grind
  omega
theorem prod_carry {n m i c p lb : Nat} {os : List Nat} (hp : p = dig n i) (hm : m < 65536 ^ lb) (hj : i + lb < os.length) (ho : os.getD (i + lb) 0 = 0)
    (h : val os + c * 65536 ^ (i + lb) = (n % 65536 ^ i) * m + p * (m % 65536 ^ lb) * 65536 ^ i) : val (os.set (i + lb) c) = (n % 65536 ^ (i + 1)) * m := by
  have hs := val_set os (i + lb) c hj
  rw [ho, Nat.zero_mul, Nat.add_zero] at hs
  rw [hs, h, Nat.mod_eq_of_lt hm, dig_step, ← hp]
  grind
theorem prod_zero {n m i lb : Nat} {os : List Nat} (hs : Small16 os) (hm : m < 65536 ^ lb) (hv : val os = (n % 65536 ^ i) * m) : ∀ t, i + lb ≤ t → os.getD t 0 = 0 := by
  intro t ht
  rw [val_dig os t hs]
  refine dig_ge (Nat.lt_of_lt_of_le ?_ (Nat.pow_le_pow_right (by decide) ht))
  rw [hv, Nat.pow_add]
  have h1 : n % 65536 ^ i < 65536 ^ i := Nat.mod_lt _ (Nat.pow_pos (by decide))
  have h2 : 0 < 65536 ^ i := Nat.pow_pos (by decide)
  exact Nat.lt_of_le_of_lt (Nat.mul_le_mul_right _ (Nat.le_of_lt h1)) (Nat.mul_lt_mul_of_pos_left hm h2)
theorem mul_bound {p q : Nat} (hp : p < 65536) (hq : q < 65536) : p * q ≤ 4294836225 :=
  Nat.mul_le_mul (show p ≤ 65535 by omega) (show q ≤ 65535 by omega)

theorem D.shape_cell {w : World} {v : Value} {n l g cap i : Nat} (h : D w v n l) (hv : v = .slice (some ⟨g, 0, none⟩) l cap) (hi : i < l) : w.cell? ⟨g, i, none⟩ = some (.int .u64 (dig n i : Nat)) := by
  obtain ⟨g', cap', e, _, _, _, hc⟩ := h.shape
  rw [hv] at e
  simp at e
  rw [e.1]
  exact hc i hi

theorem set_zero {rs : List Nat} {j d b : Nat} (hj : j < b) (h : ∀ t, b ≤ t → rs.getD t 0 = 0) : ∀ t, b ≤ t → (rs.set j d).getD t 0 = 0 := by
  intro t ht
  have := h t ht
  rw [List.getD_eq_getElem?_getD] at this ⊢
  rw [List.getElem?_set_ne (by omega)]
  exact this

/-- The row that Product makes. -/
def Row (w : World) (B N : Nat) (os : List Nat) : Prop := os.length = N ∧ Small16 os ∧ w.ownsRow B 28 1 (.slice (some ⟨B, 0, none⟩) N N) N (cells os)
theorem Row.cell {w : World} {B N : Nat} {os : List Nat} (h : Row w B N os) {j : Nat} (hj : j < N) : w.cell? ⟨B, j, none⟩ = some (.int .u64 (os.getD j 0 : Nat)) := by
  obtain ⟨h1, h2, h3⟩ := h
  have hj2 : j < os.length := by omega
  rw [h3.cellAt j (by omega), cells, List.getElem?_map, List.getElem?_eq_getElem hj2, List.getD_eq_getElem?_getD, List.getElem?_eq_getElem hj2]
  rfl

theorem Row.made {w w1 : World} {N : Nat} (h : w1.ownsRow w.heap.size 28 1 (.slice (some ⟨w.heap.size, 0, none⟩) N N) N (madeCells #[.int .u64 0] N).toList) : Row w1 w.heap.size N (List.replicate N 0) := by
  refine ⟨List.length_replicate, small_replicate N, ?_⟩
  rw [toList_madeCells_one] at h
  have e : cells (List.replicate N 0) = List.replicate N (.int .u64 0) := by unfold cells; rw [List.map_replicate]; rfl
  rw [e]
  exact h
theorem Row.stored {w : World} {B N : Nat} {os : List Nat} (h : Row w B N os) {j d : Nat} (hd : d < 65536) : Row (w.setCell ⟨B, j, none⟩ (.int .u64 (d : Int))) B N (os.set j d) := by
  obtain ⟨h1, h2, h3⟩ := h
  refine ⟨by rw [List.length_set]; exact h1, small_set h2 hd, ?_⟩
  have := (h3.stored j (.int .u64 (d : Int))).1
  rw [cells_set] at this
  exact this
theorem Row.drewN {w : World} {B N : Nat} {os : List Nat} (h : Row w B N os) (q : Nat) : Row (w.drewN q) B N os := h
theorem Row.frozen {w : World} {B N : Nat} {os : List Nat} (h : Row w B N os) (j : Nat) : w.frozen? ⟨B, j, none⟩ = false := h.2.2.frozenAt j

end Go.Proofs.YtfhoimfjfbbhaaaDoor

/-
  The walk of the reference's Up.
-/
namespace Go.Proofs.YtfhoimfjfbbhaaaDoor
set_option maxRecDepth 100000
open Go.RowKit Dg

theorem D.news {w : World} {n l g cap : Nat} (h : D w (.slice (some ⟨g, 0, none⟩) l cap) n l) :
    ∃ ds : List Nat, ds.length = l ∧ Small16 ds ∧ val ds = n ∧ (cells ds).length = l * 1 ∧ (∀ w', Below w.heap.size w w' → ∀ j u, (cells ds)[j]? = some u → w'.cell? ((⟨g, 0, none⟩ : Addr).add j) = some u) := by
  obtain ⟨ds, g', cap', e, h2, h3, h4, h5⟩ := h
  refine ⟨ds, h2, h3, h4, by rw [cells_length]; omega, ?_⟩
  intro w' hb
  exact (ownsRow_below h5 hb (Nat.le_refl _)).cells (g := g) rfl

theorem up_val (q : Nat) (ds : List Nat) : val (List.replicate q 0 ++ ds) = 65536 ^ q * val ds := by
  rw [val_append, val_replicate, List.length_replicate]; omega
theorem up_small {q : Nat} {ds : List Nat} (h : Small16 ds) : Small16 (List.replicate q 0 ++ ds) := by
  intro x hx
  rcases List.mem_append.1 hx with k | k
  · exact small_replicate q x k
  · exact h x k
theorem up_eq (n q r : Nat) : 65536 ^ q * n * 2 ^ r = n * 2 ^ (16 * q + r) := by
  rw [pow16, Nat.pow_add]; grind
theorem cells_app (xs ys : List Nat) : cells xs ++ cells ys = cells (xs ++ ys) := by unfold cells; rw [List.map_append]

theorem D_one (w : World) (x : Nat) (hx : x < 65536) : D (w.alloc (.cells #[.int .u64 (x : Int)] 28)) (.slice (some ⟨w.heap.size, 0, none⟩) 1 1) x 1 :=
  ⟨[x], w.heap.size, 1, rfl, rfl, by intro y hy; simp at hy; omega, by simp [val], World.ownsRow_lit w #[.int .u64 (x : Int)] 1 (Nat.zero_le _) (by decide) rfl⟩

end Go.Proofs.YtfhoimfjfbbhaaaDoor

/-
  The reference's Cmp and Minus.
-/
namespace Go.Proofs.YtfhoimfjfbbhaaaDoor
set_option maxRecDepth 100000
open Go.RowKit Dg

def cmpZ (n m : Nat) : Int := if n < m then -1 else if n = m then 0 else 1

theorem high_step (n j : Nat) : n / 65536 ^ j = n / 65536 ^ (j + 1) * 65536 + dig n j := by
  unfold dig
  rw [Nat.pow_succ, ← Nat.div_div_eq_div_mul]
  omega
theorem high_lt {n m j : Nat} (h : n / 65536 ^ (j + 1) = m / 65536 ^ (j + 1)) (hd : dig n j < dig m j) : n < m := by
  have h1 := high_step n j
  have h2 := high_step m j
  rcases Nat.lt_or_ge n m with k | k
  · exact k
  · have := Nat.div_le_div_right (c := 65536 ^ j) k
    omega

end Go.Proofs.YtfhoimfjfbbhaaaDoor

/-
  The reference's Minus.
-/
namespace Go.Proofs.YtfhoimfjfbbhaaaDoor
set_option maxRecDepth 100000
open Go.RowKit Dg

theorem minus_math {n m j c p q d f : Nat} {os : List Nat} (hp : p = dig n j) (hq : q = dig m j) (hl : os.length = j) (h : n % 65536 ^ j + 65536 ^ j * c = val os + m % 65536 ^ j) (hd : p + 65536 * f = d + (q + c)) :
    n % 65536 ^ (j + 1) + 65536 ^ (j + 1) * f = val (os ++ [d]) + m % 65536 ^ (j + 1) := by
  rw [val_snoc, hl, dig_step n j, dig_step m j, ← hp, ← hq, Nat.pow_succ]
  have e : 65536 ^ j * p + 65536 ^ j * 65536 * f = 65536 ^ j * d + 65536 ^ j * q + 65536 ^ j * c := by
    rw [Nat.mul_assoc, ← Nat.mul_add, hd]
    grind
  omega

theorem minus_end {w : World} {v : Value} {os : List Nat} {n m j c L : Nat} (h : w.ownsRow 0 28 1 v j (cells os)) (hnil : v ≠ .slice none 0 0) (hs : Small16 os) (hl : os.length = j) (hj : j = L)
    (hn : n < 65536 ^ L) (hm : m ≤ n) (hv : n % 65536 ^ j + 65536 ^ j * c = val os + m % 65536 ^ j) : D w v (n - m) j := by
  have hd := D.of_own h hnil hs
  have h2 := val_lt os hs
  rw [hl] at h2
  rw [hj, Nat.mod_eq_of_lt hn, Nat.mod_eq_of_lt (by omega)] at hv
  have hc : c = 0 := by
    rcases Nat.eq_zero_or_pos c with k | k
    · exact k
    · have := Nat.le_mul_of_pos_right (65536 ^ L) k
      rw [hj] at h2
      omega
  rw [hc] at hv
  have : val os = n - m := by omega
  rw [this] at hd
  exact hd

theorem nil_ne {w : World} {B e n : Nat} {v : Value} {xs : List Value} (h : w.ownsRow B e 1 v (n + 1) xs) : v ≠ .slice none 0 0 := by
  intro k
  subst k
  rcases h.2 with ⟨_, k⟩ | ⟨g, cap, cur, k, _⟩
  · simp at k
  · simp at k

end Go.Proofs.YtfhoimfjfbbhaaaDoor

/-
  Plain mathematics of 64-bit numbers: how the words of the double format are ordered. No Go in sight.
-/
namespace Go.Proofs.YtfhoimfjfbbhaaaDoor.Flo
set_option maxRecDepth 100000

/-- The size of a word, without its sign. -/
def mag (a : Int) : Int := if 9223372036854775808 ≤ a then a - 9223372036854775808 else a
/-- A word as a place on one line: below nought with the sign. -/
def sv (a : Int) : Int := if 9223372036854775808 ≤ a then 9223372036854775808 - a else a
def U64 (a : Int) : Prop := 0 ≤ a ∧ a < 18446744073709551616
def nanB (a : Int) : Bool := decide (9218868437227405312 < mag a)
def lessB (a b : Int) : Bool := !nanB a && (!nanB b && decide (sv a < sv b))
def equalB (a b : Int) : Bool := !nanB a && (!nanB b && decide (sv a = sv b))

theorem cmp_congr {x y x' y' : Int} (h1 : x < y ↔ x' < y') (h2 : x = y ↔ x' = y') : compare x y = compare x' y' := by
  simp only [compare, compareOfLessAndEq, h1, h2]

/-- What a rung stands for, in units of the least one. -/
def M (r : Nat) : Nat := if r < 4503599627370496 then r else (4503599627370496 + r % 4503599627370496) * 2 ^ (r / 4503599627370496 - 1)

theorem M_mono {r s : Nat} (h : r < s) : M r < M s := by
  unfold M
  by_cases h1 : r < 4503599627370496
  · by_cases h2 : s < 4503599627370496
    · simp only [h1, h2, if_true]; exact h
    · simp only [h1, h2, if_true, if_false]
      have hp : 0 < 2 ^ (s / 4503599627370496 - 1) := Nat.two_pow_pos _
      calc r < 4503599627370496 := h1
        _ ≤ (4503599627370496 + s % 4503599627370496) * 1 := by omega
        _ ≤ _ := Nat.mul_le_mul_left _ hp
  · have h2 : ¬ s < 4503599627370496 := by omega
    simp only [h1, h2, if_false]
    have hq : r / 4503599627370496 ≤ s / 4503599627370496 := Nat.div_le_div_right (by omega)
    by_cases he : r / 4503599627370496 = s / 4503599627370496
    · rw [he]
      exact Nat.mul_lt_mul_of_pos_right (by omega) (Nat.two_pow_pos _)
    · have e : 2 ^ (r / 4503599627370496) = 2 * 2 ^ (r / 4503599627370496 - 1) := by
        rw [← Nat.pow_succ']; congr 1; omega
      have hle : 2 ^ (r / 4503599627370496) ≤ 2 ^ (s / 4503599627370496 - 1) := Nat.pow_le_pow_right (by decide) (by omega)
      calc (4503599627370496 + r % 4503599627370496) * 2 ^ (r / 4503599627370496 - 1)
          < (2 * 4503599627370496) * 2 ^ (r / 4503599627370496 - 1) := Nat.mul_lt_mul_of_pos_right (by omega) (Nat.two_pow_pos _)
        _ = 4503599627370496 * 2 ^ (r / 4503599627370496) := by rw [e, Nat.mul_comm 2 4503599627370496, Nat.mul_assoc]
        _ ≤ 4503599627370496 * 2 ^ (s / 4503599627370496 - 1) := Nat.mul_le_mul_left _ hle
        _ ≤ _ := Nat.mul_le_mul_right _ (by omega)

theorem M_lt_iff {r s : Nat} : M r < M s ↔ r < s := by
  constructor
  · intro h
    by_cases h1 : r < s
    · exact h1
    · exfalso
      by_cases h2 : r = s
      · subst h2; omega
      · have := M_mono (r := s) (s := r) (by omega); omega
  · exact M_mono
theorem M_inj {r s : Nat} : M r = M s ↔ r = s := by
  constructor
  · intro h
    have h1 := @M_lt_iff r s
    have h2 := @M_lt_iff s r
    omega
  · intro h; rw [h]
theorem M_zero : M 0 = 0 := by decide

/-- A rung below infinity is read as a number that stands for what M says. -/
theorem read_number (a : Nat) (hr : a % 9223372036854775808 < 9218868437227405312) :
    ∃ m p, 0 ≤ p + 1074 ∧ m * 2 ^ (p + 1074).toNat = M (a % 9223372036854775808) ∧ Ieee.double.read a = .number (a / 9223372036854775808 % 2 == 1) m p := by
  have e1 : Ieee.double.signWeight = 9223372036854775808 := by decide
  have e2 : Ieee.double.binade = 4503599627370496 := by decide
  have e3 : Ieee.double.infRung = 9218868437227405312 := by decide
  have e4 : Ieee.double.leastPlace = -1074 := by decide
  unfold Ieee.Format.read
  simp only [e1, e2, e3, e4]
  generalize a % 9223372036854775808 = r at *
  unfold M
  by_cases h1 : r < 4503599627370496
  · simp only [h1, if_true]
    exact ⟨r, -1074, by omega, by simp, rfl⟩
  · simp only [h1, hr, if_true, if_false]
    refine ⟨_, _, ?_, ?_, rfl⟩
    · omega
    · congr 2; omega

theorem read_inf (a : Nat) (hr : a % 9223372036854775808 = 9218868437227405312) :
    Ieee.double.read a = .infinity (a / 9223372036854775808 % 2 == 1) := by
  have e1 : Ieee.double.signWeight = 9223372036854775808 := by decide
  have e2 : Ieee.double.binade = 4503599627370496 := by decide
  have e3 : Ieee.double.infRung = 9218868437227405312 := by decide
  unfold Ieee.Format.read
  simp only [e1, e2, e3, hr]
  simp

theorem read_nan (a : Nat) (hr : 9218868437227405312 < a % 9223372036854775808) :
    ∃ f, Ieee.double.read a = .nan (a / 9223372036854775808 % 2 == 1) f := by
  have e1 : Ieee.double.signWeight = 9223372036854775808 := by decide
  have e2 : Ieee.double.binade = 4503599627370496 := by decide
  have e3 : Ieee.double.infRung = 9218868437227405312 := by decide
  unfold Ieee.Format.read
  simp only [e1, e2, e3]
  generalize a % 9223372036854775808 = r at *
  exact ⟨r - 9218868437227405312, by rw [if_neg (by omega), if_neg (by omega), if_neg (by omega)]⟩

/-- The number of a sign and a size. -/
def sz (s : Bool) (n : Nat) : Int := if s then -(n : Int) else n

theorem signed_scale (s : Bool) (m k c : Nat) : Ieee.signed s m k * ((2 ^ c : Nat) : Int) = sz s (m * 2 ^ (k + c)) := by
  unfold Ieee.signed sz
  cases s
  · simp only [Nat.shiftLeft_eq, Bool.false_eq_true, if_false, ← Int.natCast_mul]
    rw [Nat.mul_assoc, ← Nat.pow_add]
  · simp only [Nat.shiftLeft_eq, if_true, Int.neg_mul, ← Int.natCast_mul]
    rw [Nat.mul_assoc, ← Nat.pow_add]

theorem cmp_scale {x y : Int} {c : Nat} (hc : 0 < c) : compare x y = compare (x * (c : Int)) (y * (c : Int)) := by
  have h : (0 : Int) < (c : Int) := by omega
  refine cmp_congr ⟨fun k => Int.mul_lt_mul_of_pos_right k h, fun k => Int.lt_of_mul_lt_mul_right k (by omega)⟩ ⟨fun k => by rw [k], fun k => Int.eq_of_mul_eq_mul_right (by omega) k⟩

theorem cmp_sz (s t : Bool) (r u : Nat) : compare (sz s (M r)) (sz t (M u)) = compare (sz s r) (sz t u) := by
  have h1 := @M_lt_iff r u
  have h2 := @M_lt_iff u r
  have h0 := @M_lt_iff 0 r
  have h3 := @M_lt_iff 0 u
  rw [M_zero] at h0 h3
  apply cmp_congr
  · unfold sz; cases s <;> cases t <;> simp only [Bool.false_eq_true, if_false, if_true] <;> omega
  · unfold sz; cases s <;> cases t <;> simp only [Bool.false_eq_true, if_false, if_true] <;> omega

theorem order_numbers (s t : Bool) (m n : Nat) (i j : Int) (hi : 0 ≤ i + 1074) (hj : 0 ≤ j + 1074) :
    Ieee.Datum.order (.number s m i) (.number t n j) = some (compare (sz s (m * 2 ^ (i + 1074).toNat)) (sz t (n * 2 ^ (j + 1074).toNat))) := by
  simp only [Ieee.Datum.order]
  generalize hb : min i j = b
  have hb0 : 0 ≤ b + 1074 := by omega
  rw [cmp_scale (Nat.two_pow_pos (b + 1074).toNat), signed_scale, signed_scale]
  rw [show (i - b).toNat + (b + 1074).toNat = (i + 1074).toNat by omega, show (j - b).toNat + (b + 1074).toNat = (j + 1074).toNat by omega]

/-- How two words stand to one another. -/
theorem order_eq {a b : Int} (ha : U64 a) (hb : U64 b) :
    FloatKind.f64.format.order a.toNat b.toNat = if nanB a then none else if nanB b then none else some (compare (sv a) (sv b)) := by
  show Ieee.double.order a.toNat b.toNat = _
  obtain ⟨x, rfl⟩ := Int.eq_ofNat_of_zero_le ha.1
  obtain ⟨y, rfl⟩ := Int.eq_ofNat_of_zero_le hb.1
  have hx : x < 18446744073709551616 := by have := ha.2; omega
  have hy : y < 18446744073709551616 := by have := hb.2; omega
  clear ha hb
  have mg : ∀ z : Nat, z < 18446744073709551616 → mag (z : Int) = ((z % 9223372036854775808 : Nat) : Int) := by
    intro z hz; unfold mag; split <;> omega
  have sg : ∀ z : Nat, z < 18446744073709551616 → sv (z : Int) = sz (z / 9223372036854775808 % 2 == 1) (z % 9223372036854775808) := by
    intro z hz
    unfold sv sz
    by_cases h : 9223372036854775808 ≤ z
    · have e : (z / 9223372036854775808 % 2 == 1) = true := by rw [beq_iff_eq]; omega
      rw [e, if_pos (by omega), if_pos rfl]; omega
    · have e : (z / 9223372036854775808 % 2 == 1) = false := by rw [beq_eq_false_iff_ne]; omega
      rw [e, if_neg (by omega)]; simp only [Bool.false_eq_true, if_false]; omega
  unfold nanB Ieee.Format.order
  rw [mg x hx, mg y hy, sg x hx, sg y hy]
  simp only [Int.toNat_natCast, decide_eq_true_eq]
  rcases Nat.lt_trichotomy (x % 9223372036854775808) 9218868437227405312 with hx1 | hx1 | hx1
  · obtain ⟨m, i, hi, em, ex⟩ := read_number x hx1
    rw [ex, if_neg (by omega)]
    generalize (x / 9223372036854775808 % 2 == 1) = s
    generalize x % 9223372036854775808 = r at *
    rcases Nat.lt_trichotomy (y % 9223372036854775808) 9218868437227405312 with hy1 | hy1 | hy1
    · obtain ⟨n, j, hj, en, ey⟩ := read_number y hy1
      rw [ey, if_neg (by omega), order_numbers _ _ _ _ _ _ hi hj, em, en, cmp_sz]
    · rw [read_inf y hy1, if_neg (by omega), hy1]
      generalize (y / 9223372036854775808 % 2 == 1) = t
      simp only [Ieee.Datum.order, Option.some.injEq]
      cases t
      · exact (cmp_congr (x' := 0) (y' := 1) (by unfold sz; cases s <;> simp <;> omega) (by unfold sz; cases s <;> simp <;> omega)).symm
      · exact (cmp_congr (x' := 1) (y' := 0) (by unfold sz; cases s <;> simp <;> omega) (by unfold sz; cases s <;> simp <;> omega)).symm
    · obtain ⟨f, ey⟩ := read_nan y hy1
      rw [ey, if_pos (by omega)]
      rfl
  · rw [read_inf x hx1, if_neg (by omega), hx1]
    generalize (x / 9223372036854775808 % 2 == 1) = s
    rcases Nat.lt_trichotomy (y % 9223372036854775808) 9218868437227405312 with hy1 | hy1 | hy1
    · obtain ⟨n, j, hj, en, ey⟩ := read_number y hy1
      rw [ey, if_neg (by omega)]
      generalize (y / 9223372036854775808 % 2 == 1) = t
      generalize y % 9223372036854775808 = u at *
      simp only [Ieee.Datum.order, Option.some.injEq]
      cases s
      · exact (cmp_congr (x' := 1) (y' := 0) (by unfold sz; cases t <;> simp <;> omega) (by unfold sz; cases t <;> simp <;> omega)).symm
      · exact (cmp_congr (x' := 0) (y' := 1) (by unfold sz; cases t <;> simp <;> omega) (by unfold sz; cases t <;> simp <;> omega)).symm
    · rw [read_inf y hy1, if_neg (by omega), hy1]
      generalize (y / 9223372036854775808 % 2 == 1) = t
      cases s <;> cases t <;> decide
    · obtain ⟨f, ey⟩ := read_nan y hy1
      rw [ey, if_pos (by omega)]
      rfl
  · obtain ⟨f, ex⟩ := read_nan x hx1
    rw [ex, if_pos (by omega)]
    rfl

theorem cmp_lt (x y : Int) : (compare x y == .lt) = decide (x < y) := by
  simp only [compare, compareOfLessAndEq]; by_cases h : x < y <;> by_cases h2 : x = y <;> simp [h, h2]
theorem cmp_gt (x y : Int) : (compare x y == .gt) = decide (y < x) := by
  simp only [compare, compareOfLessAndEq]; by_cases h : x < y <;> by_cases h2 : x = y <;> simp [h, h2] <;> omega
theorem cmp_eq (x y : Int) : (compare x y == .eq) = decide (x = y) := by
  simp only [compare, compareOfLessAndEq]; by_cases h : x < y <;> by_cases h2 : x = y <;> simp [h, h2] <;> omega

theorem lt_test {a b : Int} (ha : U64 a) (hb : U64 b) : (FloatKind.f64.format.order a.toNat b.toNat == some .lt) = lessB a b := by
  rw [order_eq ha hb]
  unfold lessB
  cases nanB a <;> cases nanB b <;> simp [cmp_lt]
theorem gt_test {a b : Int} (ha : U64 a) (hb : U64 b) : (FloatKind.f64.format.order a.toNat b.toNat == some .gt) = lessB b a := by
  rw [order_eq ha hb]
  unfold lessB
  cases nanB a <;> cases nanB b <;> simp [cmp_gt]
theorem eq_test {a b : Int} (ha : U64 a) (hb : U64 b) : (FloatKind.f64.format.order a.toNat b.toNat == some .eq) = equalB a b := by
  rw [order_eq ha hb]
  unfold equalB
  cases nanB a <;> cases nanB b <;> simp [cmp_eq]
theorem ne_test {a b : Int} (ha : U64 a) (hb : U64 b) : (FloatKind.f64.format.order a.toNat b.toNat != some .eq) = !equalB a b := by
  unfold bne; rw [eq_test ha hb]
theorem equalB_self (a : Int) : equalB a a = !nanB a := by
  unfold equalB; cases nanB a <;> simp

end Go.Proofs.YtfhoimfjfbbhaaaDoor.Flo

/-
  What the small functions of layer 1 answer, as plain functions of integers.
-/
namespace Go.Proofs.YtfhoimfjfbbhaaaDoor.Flo
set_option maxRecDepth 100000

def kindZ (a : Int) : Int := if 9218868437227405312 < mag a then 4 else if mag a = 0 then 0 else if mag a = 9218868437227405312 then 3 else if mag a < 4503599627370496 then 1 else 2
def belowB (a : Int) : Bool := decide (9223372036854775808 ≤ a)
def canonZ (a : Int) : Int := if nanB a then 9221120237041090560 else a
def negZ (a : Int) : Int := if nanB a then 9221120237041090560 else if 9223372036854775808 ≤ a then a - 9223372036854775808 else a + 9223372036854775808
def absZ (a : Int) : Int := if nanB a then 9221120237041090560 else mag a
def beforeB (a b : Int) : Bool := if nanB a then false else if nanB b then true else if sv a = sv b then belowB a && !belowB b else decide (sv a < sv b)

theorem u64_toNat {a : Int} (h : U64 a) : a.toNat < 18446744073709551616 := by have := h.1; have := h.2; omega

theorem and_sign (a : Int) (h : U64 a) : bits .and .u64 a 9223372036854775808 = if 9223372036854775808 ≤ a then 9223372036854775808 else 0 := by
  obtain ⟨h0, h1⟩ := h
  rw [u64_and a _ h0 h1 (by decide) (by decide)]
  have e : (9223372036854775808 : Int).toNat = 2 ^ 63 := by decide
  rw [e, nat_bit 63 a.toNat]
  have : a.toNat / 2 ^ 63 = if 9223372036854775808 ≤ a then 1 else 0 := by
    split <;> omega
  rw [this]
  split <;> decide

theorem xor_sign (a : Int) (h : U64 a) : bits .xor .u64 a 9223372036854775808 = if 9223372036854775808 ≤ a then a - 9223372036854775808 else a + 9223372036854775808 := by
  obtain ⟨h0, h1⟩ := h
  rw [u64_xor a _ h0 h1 (by decide) (by decide)]
  have e : (9223372036854775808 : Int).toNat = 2 ^ 63 := by decide
  rw [e]
  obtain ⟨x, rfl⟩ := Int.eq_ofNat_of_zero_le h0
  simp only [Int.toNat_natCast]
  have hx : x < 2 ^ 64 := by omega
  have key : x ^^^ 2 ^ 63 = if 2 ^ 63 ≤ x then x - 2 ^ 63 else x + 2 ^ 63 := by
    split
    · rename_i hge
      apply Nat.eq_of_testBit_eq
      intro i
      obtain ⟨y, rfl⟩ := Nat.exists_eq_add_of_le hge
      have hy : y < 2 ^ 63 := by omega
      rw [Nat.add_sub_cancel_left, Nat.testBit_xor, Nat.testBit_two_pow]
      by_cases hi : 63 = i
      · subst hi
        rw [Nat.testBit_two_pow_add_eq, Nat.testBit_lt_two_pow hy]
        simp
      · rw [show decide (63 = i) = false from decide_eq_false hi, Bool.xor_false]
        rcases Nat.lt_or_gt_of_ne hi with h | h
        · rw [Nat.testBit_lt_two_pow (i := i) (Nat.lt_of_lt_of_le hx (Nat.pow_le_pow_right (by decide) h)), Nat.testBit_lt_two_pow (Nat.lt_of_lt_of_le hy (Nat.pow_le_pow_right (by decide) (by omega)))]
        · rw [Nat.testBit_two_pow_add_gt h]
    · rename_i hlt
      apply Nat.eq_of_testBit_eq
      intro i
      have hy : x < 2 ^ 63 := by omega
      rw [Nat.add_comm, Nat.testBit_xor, Nat.testBit_two_pow]
      by_cases hi : 63 = i
      · subst hi
        rw [Nat.testBit_two_pow_add_eq, Nat.testBit_lt_two_pow hy]
        simp
      · rw [show decide (63 = i) = false from decide_eq_false hi, Bool.xor_false]
        rcases Nat.lt_or_gt_of_ne hi with h | h
        · rw [Nat.testBit_lt_two_pow (Nat.lt_of_lt_of_le hy (Nat.pow_le_pow_right (by decide) (by omega))), Nat.testBit_lt_two_pow (i := i) (Nat.lt_of_lt_of_le (show 2 ^ 63 + x < 2 ^ 64 by omega) (Nat.pow_le_pow_right (by decide) h))]
        · rw [Nat.testBit_two_pow_add_gt h]
  rw [key]
  split <;> split <;> omega

theorem andNot_sign (a : Int) (h : U64 a) : bits .andNot .u64 a 9223372036854775808 = mag a := by
  obtain ⟨h0, h1⟩ := h
  rw [u64_andNot a _ h0 h1 (by decide) (by decide)]
  have e : 18446744073709551615 - (9223372036854775808 : Int).toNat = 2 ^ 63 - 1 := by decide
  rw [e, Nat.and_two_pow_sub_one_eq_mod]
  unfold mag
  split <;> omega

theorem negZ_u64 {a : Int} (h : U64 a) : U64 (negZ a) := by
  obtain ⟨h0, h1⟩ := h
  unfold negZ U64
  split
  · decide
  · split <;> omega
theorem mag_u64 {a : Int} (h : U64 a) : U64 (mag a) := by
  obtain ⟨h0, h1⟩ := h
  unfold mag U64
  split <;> omega
theorem absZ_u64 {a : Int} (h : U64 a) : U64 (absZ a) := by
  unfold absZ
  split
  · exact ⟨by decide, by decide⟩
  · exact mag_u64 h

end Go.Proofs.YtfhoimfjfbbhaaaDoor.Flo
