/-
  DigDown, DigProd, DigUp, DigCmp, DigMinus, Pt
-/
import Derived.Deep.QuietTactic
import Derived.BigQuiet
import Derived.WalkSmall
import Derived.Test.YtgbajhenmamjjaaDoorZ05

/-
  The walk of the reference's Down.
-/
namespace Go.Proofs.YtgbajhenmamjjaaDoor
set_option maxRecDepth 100000
open Go.RowKit Dg

theorem low_step (n j : Nat) : n % 2 ^ (j + 1) = n % 2 ^ j + 2 ^ j * (n / 2 ^ j % 2) := by rw [Nat.pow_succ, Nat.mod_mul]

theorem lost_step {n j : Nat} {lo : Bool} {b : Nat} (hl : lo = decide (n % 2 ^ j ≠ 0)) (hb : b = n / 2 ^ j % 2) : (lo || (b == 1)) = decide (n % 2 ^ (j + 1) ≠ 0) := by
  have hp := Nat.two_pow_pos j
  rw [low_step, ← hb, hl, Bool.eq_iff_iff]
  simp only [ne_eq, Bool.or_eq_true, decide_eq_true_eq, beq_iff_eq]
  have hb2 : b = 0 ∨ b = 1 := by rw [hb]; omega
  rcases hb2 with h | h
  · subst h; simp
  · subst h; simp
theorem lost_end {n l k j : Nat} (hn : n < 2 ^ (16 * l)) (hj : j ≤ k) (h : ¬ (j < k ∧ j < 16 * l)) : decide (n % 2 ^ j ≠ 0) = decide (n % 2 ^ k ≠ 0) := by
  by_cases c : j = k
  · rw [c]
  · have h1 : 2 ^ (16 * l) ≤ 2 ^ j := Nat.pow_le_pow_right (by decide) (by omega)
    have h2 : 2 ^ (16 * l) ≤ 2 ^ k := Nat.pow_le_pow_right (by decide) (by omega)
    rw [Nat.mod_eq_of_lt (by omega), Nat.mod_eq_of_lt (by omega)]

theorem bits_join {n s t x b : Nat} (hx : x = n / 2 ^ s % 2 ^ t) (hb : b = n / 2 ^ (s + t) % 2) (ht : t < 16) :
    bits .or .u64 (x : Int) (IntKind.u64.wrap ((b : Int) * 2 ^ t)) = ((n / 2 ^ s % 2 ^ (t + 1) : Nat) : Int) := by
  have hp : 2 ^ t ≤ 32768 := by
    have := Nat.pow_le_pow_right (n := 2) (by decide) (show t ≤ 15 by omega)
    omega
  have hx2 : x < 2 ^ t := by rw [hx]; exact Nat.mod_lt _ (Nat.two_pow_pos t)
  have hb2 : b ≤ 1 := by rw [hb]; omega
  have hbp : b * 2 ^ t ≤ 32768 := Nat.le_trans (Nat.mul_le_mul_right _ hb2) (by omega)
  have e : IntKind.u64.wrap ((b : Int) * 2 ^ t) = ((b * 2 ^ t : Nat) : Int) := by
    rw [IntKind.wrap_u64, show (b : Int) * 2 ^ t = ((b * 2 ^ t : Nat) : Int) by rw [Int.natCast_mul, Int.natCast_pow]; rfl]
    omega
  rw [e, u64_or_nat x _ (by omega) (by omega), Nat.or_comm, nat_join t _ _ (Nat.mul_mod_left _ _) hx2, low_step, ← hx]
  congr 1
  rw [Nat.add_comm, Nat.mul_comm b, hb, Nat.div_div_eq_div_mul, ← Nat.pow_add]

theorem down_digit {n k j : Nat} : n / 2 ^ (k + 16 * j) % 2 ^ 16 = dig (n / 2 ^ k) j := by
  unfold dig
  rw [pow16, Nat.div_div_eq_div_mul, ← Nat.pow_add]
theorem down_val {m j : Nat} {os : List Nat} (hl : os.length = j) (hv : val os = m % 65536 ^ j) : val (os ++ [dig m j]) = m % 65536 ^ (j + 1) := by
  rw [val_snoc, hl, hv, dig_step]

theorem down_end {w : World} {v : Value} {os : List Nat} {n l k j : Nat} (h : w.ownsRow 0 22 1 v j (cells os)) (hnil : v ≠ .slice none 0 0) (hs : Small16 os) (hv : val os = n / 2 ^ k % 65536 ^ j) (hn : n < 2 ^ (16 * l)) (hj : 16 * l ≤ k + 16 * j) : D w v (n / 2 ^ k) j := by
  have hd := D.of_own h hnil hs
  have : n / 2 ^ k < 65536 ^ j := by
    rw [pow16]
    refine (Nat.div_lt_iff_lt_mul (Nat.two_pow_pos k)).2 ?_
    rw [← Nat.pow_add]
    exact Nat.lt_of_lt_of_le hn (Nat.pow_le_pow_right (by decide) (by omega))
  rw [hv, Nat.mod_eq_of_lt this] at hd
  exact hd

theorem own_pos {w : World} {B e n : Nat} {v : Value} {xs : List Value} (h : w.ownsRow B e 1 v (n + 1) xs) : v ≠ .slice none 0 0 := by
  intro k
  rcases h.2 with ⟨_, k2⟩ | ⟨g, cap, cur, e', _⟩
  · omega
  · rw [k] at e'; cases e'

end Go.Proofs.YtgbajhenmamjjaaDoor

/-
  The walk of the reference's Product.
-/
namespace Go.Proofs.YtgbajhenmamjjaaDoor
set_option maxRecDepth 100000
open Go.RowKit Dg

theorem val_set : ∀ (os : List Nat) (j d : Nat), j < os.length → val (os.set j d) + os.getD j 0 * 65536 ^ j = val os + d * 65536 ^ j := by
  intro os
  induction os with
  | nil => intro j d h; simp at h
  | cons a r ih =>
    intro j d h
    cases j with
    | zero => simp only [List.set_cons_zero, val, List.getD_cons_zero, Nat.pow_zero]; omega
    | succ j =>
      have := ih j d (by simpa using h)
      simp only [List.set_cons_succ, val, List.getD_cons_succ, Nat.pow_succ']
      grind
theorem small_set {os : List Nat} {j d : Nat} (hs : Small16 os) (hd : d < 65536) : Small16 (os.set j d) := by
  intro x hx
  rcases List.mem_or_eq_of_mem_set hx with h | h
  · exact hs x h
  · omega
theorem cells_set (os : List Nat) (j d : Nat) : (cells os).set j (.int .u64 (d : Int)) = cells (os.set j d) := by unfold cells; rw [List.map_set]

theorem prod_step {n m i k c p q o d f : Nat} {os : List Nat} (_hp : p = dig n i) (hq : q = dig m k) (hj : i + k < os.length) (ho : o = os.getD (i + k) 0) (hd : d = (o + p * q + c) % 65536) (hf : f = (o + p * q + c) / 65536)
    (h : val os + c * 65536 ^ (i + k) = (n % 65536 ^ i) * m + p * (m % 65536 ^ k) * 65536 ^ i) :
    val (os.set (i + k) d) + f * 65536 ^ (i + (k + 1)) = (n % 65536 ^ i) * m + p * (m % 65536 ^ (k + 1)) * 65536 ^ i := by
  have hs := val_set os (i + k) d hj
  rw [← ho] at hs
  have hx : d + f * 65536 = o + p * q + c := by omega
  rw [dig_step m k, ← hq]
  rw [show i + (k + 1) = i + k + 1 by omega, Nat.pow_succ]
  have e1 : p * (m % 65536 ^ k + 65536 ^ k * q) * 65536 ^ i = p * (m % 65536 ^ k) * 65536 ^ i + p * q * 65536 ^ (i + k) := by
    rw [Nat.pow_add]; grind
  have e2 : d * 65536 ^ (i + k) + f * (65536 ^ (i + k) * 65536) = o * 65536 ^ (i + k) + p * q * 65536 ^ (i + k) + c * 65536 ^ (i + k) := by
    have := congrArg (· * 65536 ^ (i + k)) hx
    grind
  omega
theorem prod_carry {n m i c p lb : Nat} {os : List Nat} (hp : p = dig n i) (hm : m < 65536 ^ lb) (hj : i + lb < os.length) (ho : os.getD (i + lb) 0 = 0)
    (h : val os + c * 65536 ^ (i + lb) = (n % 65536 ^ i) * m + p * (m % 65536 ^ lb) * 65536 ^ i) : val (os.set (i + lb) c) = (n % 65536 ^ (i + 1)) * m := by
  have hs := val_set os (i + lb) c hj
  rw [ho, Nat.zero_mul, Nat.add_zero] at hs
  rw [hs, h, Nat.mod_eq_of_lt hm, dig_step, ← hp]
  grind
theorem prod_zero {n m i lb : Nat} {os : List Nat} (hs : Small16 os) (hm : m < 65536 ^ lb) (hv : val os = (n % 65536 ^ i) * m) : ∀ t, i + lb ≤ t → os.getD t 0 = 0 := by
  intro t ht
  rw [val_dig os t hs]
  refine dig_ge (Nat.lt_of_lt_of_le ?_ (Nat.pow_le_pow_right (by decide) ht))
  rw [hv, Nat.pow_add]
  have h1 : n % 65536 ^ i < 65536 ^ i := Nat.mod_lt _ (Nat.pow_pos (by decide))
  have h2 : 0 < 65536 ^ i := Nat.pow_pos (by decide)
  exact Nat.lt_of_le_of_lt (Nat.mul_le_mul_right _ (Nat.le_of_lt h1)) (Nat.mul_lt_mul_of_pos_left hm h2)
theorem mul_bound {p q : Nat} (hp : p < 65536) (hq : q < 65536) : p * q ≤ 4294836225 :=
  Nat.mul_le_mul (show p ≤ 65535 by omega) (show q ≤ 65535 by omega)

theorem D.shape_cell {w : World} {v : Value} {n l g cap i : Nat} (h : D w v n l) (hv : v = .slice (some ⟨g, 0, none⟩) l cap) (hi : i < l) : w.cell? ⟨g, i, none⟩ = some (.int .u64 (dig n i : Nat)) := by
  obtain ⟨g', cap', e, _, _, _, hc⟩ := h.shape
  rw [hv] at e
  simp at e
  rw [e.1]
  exact hc i hi

theorem set_zero {rs : List Nat} {j d b : Nat} (hj : j < b) (h : ∀ t, b ≤ t → rs.getD t 0 = 0) : ∀ t, b ≤ t → (rs.set j d).getD t 0 = 0 := by
  intro t ht
  have := h t ht
  rw [List.getD_eq_getElem?_getD] at this ⊢
  rw [List.getElem?_set_ne (by omega)]
  exact this

/-- The row that Product makes. -/
def Row (w : World) (B N : Nat) (os : List Nat) : Prop := os.length = N ∧ Small16 os ∧ w.ownsRow B 22 1 (.slice (some ⟨B, 0, none⟩) N N) N (cells os)
theorem Row.cell {w : World} {B N : Nat} {os : List Nat} (h : Row w B N os) {j : Nat} (hj : j < N) : w.cell? ⟨B, j, none⟩ = some (.int .u64 (os.getD j 0 : Nat)) := by
  obtain ⟨h1, h2, h3⟩ := h
  have hj2 : j < os.length := by omega
  rw [h3.cellAt j (by omega), cells, List.getElem?_map, List.getElem?_eq_getElem hj2, List.getD_eq_getElem?_getD, List.getElem?_eq_getElem hj2]
  rfl

theorem Row.made {w w1 : World} {N : Nat} (h : w1.ownsRow w.heap.size 22 1 (.slice (some ⟨w.heap.size, 0, none⟩) N N) N (madeCells #[.int .u64 0] N).toList) : Row w1 w.heap.size N (List.replicate N 0) := by
  refine ⟨List.length_replicate, small_replicate N, ?_⟩
  rw [toList_madeCells_one] at h
  have e : cells (List.replicate N 0) = List.replicate N (.int .u64 0) := by unfold cells; rw [List.map_replicate]; rfl
  rw [e]
  exact h
theorem Row.stored {w : World} {B N : Nat} {os : List Nat} (h : Row w B N os) {j d : Nat} (hd : d < 65536) : Row (w.setCell ⟨B, j, none⟩ (.int .u64 (d : Int))) B N (os.set j d) := by
  obtain ⟨h1, h2, h3⟩ := h
  refine ⟨by rw [List.length_set]; exact h1, small_set h2 hd, ?_⟩
  have := (h3.stored j (.int .u64 (d : Int))).1
  rw [cells_set] at this
  exact this
theorem Row.drewN {w : World} {B N : Nat} {os : List Nat} (h : Row w B N os) (q : Nat) : Row (w.drewN q) B N os := h
theorem Row.frozen {w : World} {B N : Nat} {os : List Nat} (h : Row w B N os) (j : Nat) : w.frozen? ⟨B, j, none⟩ = false := h.2.2.frozenAt j

end Go.Proofs.YtgbajhenmamjjaaDoor

/-
  The walk of the reference's Up.
-/
namespace Go.Proofs.YtgbajhenmamjjaaDoor
set_option maxRecDepth 100000
open Go.RowKit Dg

theorem D.news {w : World} {n l g cap : Nat} (h : D w (.slice (some ⟨g, 0, none⟩) l cap) n l) :
    ∃ ds : List Nat, ds.length = l ∧ Small16 ds ∧ val ds = n ∧ (cells ds).length = l * 1 ∧ (∀ w', Below w.heap.size w w' → ∀ j u, (cells ds)[j]? = some u → w'.cell? ((⟨g, 0, none⟩ : Addr).add j) = some u) := by
  obtain ⟨ds, g', cap', e, h2, h3, h4, h5⟩ := h
  refine ⟨ds, h2, h3, h4, by rw [cells_length]; omega, ?_⟩
  intro w' hb
  exact (ownsRow_below h5 hb (Nat.le_refl _)).cells (g := g) rfl

theorem up_val (q : Nat) (ds : List Nat) : val (List.replicate q 0 ++ ds) = 65536 ^ q * val ds := by
  rw [val_append, val_replicate, List.length_replicate]; omega
theorem up_small {q : Nat} {ds : List Nat} (h : Small16 ds) : Small16 (List.replicate q 0 ++ ds) := by
  intro x hx
  rcases List.mem_append.1 hx with k | k
  · exact small_replicate q x k
  · exact h x k
theorem up_eq (n q r : Nat) : 65536 ^ q * n * 2 ^ r = n * 2 ^ (16 * q + r) := by
  rw [pow16, Nat.pow_add]; grind
theorem cells_app (xs ys : List Nat) : cells xs ++ cells ys = cells (xs ++ ys) := by unfold cells; rw [List.map_append]

theorem D_one (w : World) (x : Nat) (hx : x < 65536) : D (w.alloc (.cells #[.int .u64 (x : Int)] 22)) (.slice (some ⟨w.heap.size, 0, none⟩) 1 1) x 1 :=
  ⟨[x], w.heap.size, 1, rfl, rfl, by intro y hy; simp at hy; omega, by simp [val], World.ownsRow_lit w #[.int .u64 (x : Int)] 1 (Nat.zero_le _) (by decide) rfl⟩

end Go.Proofs.YtgbajhenmamjjaaDoor

/-
  The reference's Cmp and Minus.
-/
namespace Go.Proofs.YtgbajhenmamjjaaDoor
set_option maxRecDepth 100000
open Go.RowKit Dg

def cmpZ (n m : Nat) : Int := if n < m then -1 else if n = m then 0 else 1

theorem high_step (n j : Nat) : n / 65536 ^ j = n / 65536 ^ (j + 1) * 65536 + dig n j := by
  unfold dig
  rw [Nat.pow_succ, ← Nat.div_div_eq_div_mul]
  omega
theorem high_lt {n m j : Nat} (h : n / 65536 ^ (j + 1) = m / 65536 ^ (j + 1)) (hd : dig n j < dig m j) : n < m := by
  have h1 := high_step n j
  have h2 := high_step m j
  rcases Nat.lt_or_ge n m with k | k
  · exact k
  · have := Nat.div_le_div_right (c := 65536 ^ j) k
    omega

end Go.Proofs.YtgbajhenmamjjaaDoor

/-
  The reference's Minus.
-/
namespace Go.Proofs.YtgbajhenmamjjaaDoor
set_option maxRecDepth 100000
open Go.RowKit Dg

theorem minus_math {n m j c p q d f : Nat} {os : List Nat} (hp : p = dig n j) (hq : q = dig m j) (hl : os.length = j) (h : n % 65536 ^ j + 65536 ^ j * c = val os + m % 65536 ^ j) (hd : p + 65536 * f = d + (q + c)) :
    n % 65536 ^ (j + 1) + 65536 ^ (j + 1) * f = val (os ++ [d]) + m % 65536 ^ (j + 1) := by
  rw [val_snoc, hl, dig_step n j, dig_step m j, ← hp, ← hq, Nat.pow_succ]
  have e : 65536 ^ j * p + 65536 ^ j * 65536 * f = 65536 ^ j * d + 65536 ^ j * q + 65536 ^ j * c := by
    rw [Nat.mul_assoc, ← Nat.mul_add, hd]
    grind
  omega

theorem minus_end {w : World} {v : Value} {os : List Nat} {n m j c L : Nat} (h : w.ownsRow 0 22 1 v j (cells os)) (hnil : v ≠ .slice none 0 0) (hs : Small16 os) (hl : os.length = j) (hj : j = L)
    (hn : n < 65536 ^ L) (hm : m ≤ n) (hv : n % 65536 ^ j + 65536 ^ j * c = val os + m % 65536 ^ j) : D w v (n - m) j := by
  have hd := D.of_own h hnil hs
  have h2 := val_lt os hs
  rw [hl] at h2
  rw [hj, Nat.mod_eq_of_lt hn, Nat.mod_eq_of_lt (by omega)] at hv
  have hc : c = 0 := by
    rcases Nat.eq_zero_or_pos c with k | k
    · exact k
    · have := Nat.le_mul_of_pos_right (65536 ^ L) k
      rw [hj] at h2
      omega
  rw [hc] at hv
  have : val os = n - m := by omega
  rw [this] at hd
  exact hd

theorem nil_ne {w : World} {B e n : Nat} {v : Value} {xs : List Value} (h : w.ownsRow B e 1 v (n + 1) xs) : v ≠ .slice none 0 0 := by
  intro k
  subst k
  rcases h.2 with ⟨_, k⟩ | ⟨g, cap, cur, k, _⟩
  · simp at k
  · simp at k

end Go.Proofs.YtgbajhenmamjjaaDoor

/-
  Parts of 32 bits in memory, and the walks of the landed functions over them: trimmed, partsOf, timesAnd, bitLen, compare, minus.
-/
namespace Go.Proofs.YtgbajhenmamjjaaDoor
set_option maxRecDepth 100000
open Go.RowKit Pt

theorem info32 : (Tryd.prog.info? 70).map (fun i => (i.zero, i.size, i.bytes)) = some (some (.int .u32 0), 1, 4) := by kernel_rfl

def c32 (ds : List Nat) : List Value := ds.map fun (d : Nat) => Value.int .u32 (d : Int)
/-- The slice v, all of block g's beginning, holds the parts ds. -/
def PU (w : World) (g : Nat) (v : Value) (ds : List Nat) : Prop :=
  ∃ cap, v = .slice (some ⟨g, 0, none⟩) ds.length cap ∧ Sm ds ∧ w.ownsRow 0 70 1 v ds.length (c32 ds)
/-- The slice v holds the number n, without noughts at the top. -/
def PR (w : World) (g : Nat) (v : Value) (n : Nat) : Prop := ∃ ds, PU w g v ds ∧ pv ds = n ∧ Tr ds

theorem c32_length (ds : List Nat) : (c32 ds).length = ds.length := by unfold c32; simp
theorem c32_set (ds : List Nat) (j d : Nat) : (c32 ds).set j (.int .u32 (d : Int)) = c32 (ds.set j d) := by unfold c32; rw [List.map_set]
theorem c32_one (ds : List Nat) : ∀ u ∈ c32 ds, u.oneCell' = true := by
  intro u hu
  unfold c32 at hu
  obtain ⟨d, _, rfl⟩ := List.mem_map.1 hu
  rfl
theorem PU.lt {w : World} {g : Nat} {v : Value} {ds : List Nat} (h : PU w g v ds) : g < w.heap.size := by
  obtain ⟨cap, rfl, _, h3⟩ := h
  exact (h3.lt g rfl).2
theorem PR.lt {w : World} {g : Nat} {v : Value} {n : Nat} (h : PR w g v n) : g < w.heap.size := by
  obtain ⟨ds, h1, _⟩ := h; exact h1.lt
theorem PU.cap {w : World} {g cap k : Nat} {ds : List Nat} (h : PU w g (.slice (some ⟨g, 0, none⟩) k cap) ds) : k = ds.length ∧ k ≤ cap ∧ cap ≤ maxLen := by
  obtain ⟨cap', e, _, h3⟩ := h
  simp at e
  rcases h3.2 with ⟨k, _⟩ | ⟨g', cap', cur, e2, _, _, r1, r2, _⟩
  · simp at k
  · simp at e2
    obtain ⟨rfl, rfl⟩ := e
    exact ⟨rfl, by omega, by omega⟩
theorem PU.cell {w : World} {g : Nat} {v : Value} {ds : List Nat} (h : PU w g v ds) {j : Nat} (hj : j < ds.length) : w.cell? ⟨g, j, none⟩ = some (.int .u32 (ds.getD j 0 : Nat)) := by
  obtain ⟨cap, rfl, _, h3⟩ := h
  rw [h3.cellAt j (by omega), c32, List.getElem?_map, List.getElem?_eq_getElem hj, List.getD_eq_getElem?_getD, List.getElem?_eq_getElem hj]
  rfl
theorem PU.frozen {w : World} {g : Nat} {v : Value} {ds : List Nat} (h : PU w g v ds) (j : Nat) : w.frozen? ⟨g, j, none⟩ = false := by
  obtain ⟨cap, rfl, _, h3⟩ := h
  exact h3.frozenAt j
theorem PU.stored {w : World} {g : Nat} {v : Value} {ds : List Nat} (h : PU w g v ds) {j d : Nat} (hd : d < 4294967296) : PU (w.setCell ⟨g, j, none⟩ (.int .u32 (d : Int))) g v (ds.set j d) := by
  obtain ⟨cap, rfl, h2, h3⟩ := h
  refine ⟨cap, by rw [List.length_set], sm_set h2 hd, ?_⟩
  have := (h3.stored j (.int .u32 (d : Int))).1
  rw [c32_set] at this
  rw [List.length_set]
  exact this
theorem ownsRow_far {w w' : World} {e s n g : Nat} {v : Value} {xs : List Value} (h : w.ownsRow 0 e s v n xs) (hg : w'.heap[g]? = w.heap[g]?) (hv : v.ownBlock = some g) : w'.ownsRow 0 e s v n xs := by
  refine ⟨h.1, ?_⟩
  rcases h.2 with hn | ⟨g', cap, cur, rfl, h0, hg', rest⟩
  · exact .inl hn
  · refine .inr ⟨g', cap, cur, rfl, h0, ?_, rest⟩
    have e : g' = g := by simpa [Value.ownBlock] using hv
    rw [e, hg, ← e]
    exact hg'
theorem PU.other {w w' : World} {g b : Nat} {v : Value} {ds : List Nat} (h : PU w g v ds) (hg : w.grownBy w' (some b)) (hb : g ≠ b) : PU w' g v ds := by
  have hl := h.lt
  obtain ⟨cap, rfl, h2, h3⟩ := h
  exact ⟨cap, rfl, h2, ownsRow_far h3 (hg.block g hl (by simpa using hb)) rfl⟩
theorem PR.other {w w' : World} {g b : Nat} {v : Value} {n : Nat} (h : PR w g v n) (hg : w.grownBy w' (some b)) (hb : g ≠ b) : PR w' g v n := by
  obtain ⟨ds, h1, h2⟩ := h
  exact ⟨ds, h1.other hg hb, h2⟩
theorem PU.below {w w' : World} {B g : Nat} {v : Value} {ds : List Nat} (h : PU w g v ds) (hg : Below B w w') (hb : g < B) : PU w' g v ds := by
  obtain ⟨cap, rfl, h2, h3⟩ := h
  exact ⟨cap, rfl, h2, ownsRow_far h3 (hg.block g hb) rfl⟩
theorem PR.below {w w' : World} {B g : Nat} {v : Value} {n : Nat} (h : PR w g v n) (hg : Below B w w') (hb : g < B) : PR w' g v n := by
  obtain ⟨ds, h1, h2⟩ := h
  exact ⟨ds, h1.below hg hb, h2⟩
theorem PU.take {w : World} {g k cap : Nat} {ds : List Nat} (h : PU w g (.slice (some ⟨g, 0, none⟩) ds.length cap) ds) (hk : k ≤ ds.length) : PU w g (.slice (some ⟨g, 0, none⟩) k cap) (ds.take k) := by
  obtain ⟨cap', e, h2, h3⟩ := h
  have hl : (ds.take k).length = k := by rw [List.length_take]; omega
  refine ⟨cap, by rw [hl], sm_take k h2, ?_⟩
  rw [hl]
  refine ⟨by rw [c32_length, hl]; omega, ?_⟩
  rcases h3.2 with ⟨c, _⟩ | ⟨g', cap2, cur, e2, h0, hg, r1, r2, r3, r4⟩
  · simp at c
  · simp at e2
    obtain ⟨rfl, rfl⟩ := e2
    refine .inr ⟨g, cap, cur, rfl, h0, hg, by omega, r2, r3, ?_⟩
    have : List.take (k * 1) cur.toList = List.take (k * 1) (List.take (ds.length * 1) cur.toList) := by rw [List.take_take, Nat.min_eq_left (by omega)]
    rw [this, r4, Nat.mul_one]
    unfold c32
    rw [List.map_take]
theorem gb_refl (w : World) (r : Option Nat) : w.grownBy w r := ⟨rfl, rfl, rfl, Nat.le_refl _, fun _ _ _ => rfl⟩
theorem gb_trans {a b c : World} {r : Option Nat} (h : a.grownBy b r) (k : b.grownBy c r) : a.grownBy c r :=
  ⟨k.os.trans h.os, k.tape.trans h.tape, k.output.trans h.output, Nat.le_trans h.size k.size, fun i hi hn => (k.block i (Nat.lt_of_lt_of_le hi h.size) hn).trans (h.block i hi hn)⟩
theorem gb_new {a b c : World} {g g' : Nat} (h : a.grownBy b (some g)) (k : b.grownBy c (some g')) (hg : g' = g ∨ a.heap.size ≤ g') : a.grownBy c (some g) :=
  ⟨k.os.trans h.os, k.tape.trans h.tape, k.output.trans h.output, Nat.le_trans h.size k.size, fun i hi hn =>
    (k.block i (Nat.lt_of_lt_of_le hi h.size) (by
      rcases hg with e | e
      · rw [e]; exact hn
      · intro c; simp at c; omega)).trans (h.block i hi hn)⟩
theorem gb_set (w : World) (g j : Nat) (u : Value) : w.grownBy (w.setCell ⟨g, j, none⟩ u) (some g) :=
  ⟨rfl, rfl, rfl, by simp, fun k _ hk => Below.heap_setCell w ⟨g, j, none⟩ u k (fun e => hk (by rw [e]))⟩
theorem gb_drew {a b : World} {r : Option Nat} (h : a.grownBy b r) (n : Nat) : a.grownBy (b.drewN n) r := ⟨h.os, h.tape, h.output, h.size, h.block⟩

theorem borrow_bits {x y d b b2 : Nat} (hx : x < 4294967296) (hy : y < 4294967296) (hd : d < 4294967296) (hb : b ≤ 1) (hb2 : b2 ≤ 1) (h : d + y + b = x + 4294967296 * b2) :
    (((4294967295 ^^^ x) &&& y) ||| ((4294967295 ^^^ (x ^^^ y)) &&& d)) / 2147483648 = b2 := by
  rw [show (2147483648 : Nat) = 2 ^ 31 from rfl, ← Nat.shiftRight_eq_div_pow, Nat.shiftRight_or_distrib, Nat.shiftRight_and_distrib, Nat.shiftRight_and_distrib, Nat.shiftRight_xor_distrib, Nat.shiftRight_xor_distrib, Nat.shiftRight_xor_distrib]
  simp only [Nat.shiftRight_eq_div_pow]
  have e1 : x / 2 ^ 31 = 0 ∨ x / 2 ^ 31 = 1 := by omega
  have e2 : y / 2 ^ 31 = 0 ∨ y / 2 ^ 31 = 1 := by omega
  have e3 : d / 2 ^ 31 = 0 ∨ d / 2 ^ 31 = 1 := by omega
  have e4 : b2 = 0 ∨ b2 = 1 := by omega
  rcases e1 with e1 | e1 <;> rcases e2 with e2 | e2 <;> rcases e3 with e3 | e3 <;> rcases e4 with e4 | e4 <;> rw [e1, e2, e3, e4] <;> first | decide | (exfalso; omega)
theorem borrow_int {x y d b b2 : Nat} (hx : x < 4294967296) (hy : y < 4294967296) (hd : d < 4294967296) (hb : b ≤ 1) (hb2 : b2 ≤ 1) (h : d + y + b = x + 4294967296 * b2) :
    bits .or .u32 (bits .and .u32 (bits .xor .u32 IntKind.u32.max (x : Int)) (y : Int)) (bits .and .u32 (bits .xor .u32 IntKind.u32.max (bits .xor .u32 (x : Int) (y : Int))) (d : Int)) / 2147483648 = (b2 : Int) := by
  have x1 : 4294967295 ^^^ x < 2 ^ 32 := Nat.xor_lt_two_pow (by decide) hx
  have x2 : x ^^^ y < 2 ^ 32 := Nat.xor_lt_two_pow hx hy
  have x3 : 4294967295 ^^^ (x ^^^ y) < 2 ^ 32 := Nat.xor_lt_two_pow (by decide) x2
  have x4 : (4294967295 ^^^ x) &&& y < 2 ^ 32 := Nat.and_lt_two_pow _ hy
  have x5 : (4294967295 ^^^ (x ^^^ y)) &&& d < 2 ^ 32 := Nat.and_lt_two_pow _ hd
  rw [show IntKind.u32.max = ((4294967295 : Nat) : Int) from rfl, u32_xor_nat x y hx hy, u32_xor_nat _ _ (by decide) hx, u32_xor_nat _ _ (by decide) x2, u32_and_nat _ _ x1 hy, u32_and_nat _ _ x3 hd, u32_or_nat _ _ x4 x5]
  rw [show (2147483648 : Int) = ((2147483648 : Nat) : Int) from rfl, ← Int.natCast_ediv, borrow_bits hx hy hd hb hb2 h]
set_option maxHeartbeats 400000 in
theorem sub32_any (x y b d b2 : Nat) (w : World) (hx : x < 4294967296) (hy : y < 4294967296) (hb : b ≤ 1) (hd : d < 4294967296) (hb2 : b2 ≤ 1) (h : d + y + b = x + 4294967296 * b2) :
    Calls Tryd.prog 55 #[.int .u32 x, .int .u32 y, .int .u32 b] w fun e w' => e = .returned (.tuple #[.int .u32 (d : Int), .int .u32 (b2 : Int)]) ∧ w' = w := by
  have t1 : ((x : Int) - (y : Int) - (b : Int)) % 4294967296 = (d : Int) := by omega
  have t2 := borrow_int hx hy hd hb hb2 h
  clear h
  go_enter Tryd.func55, Tryd.ntmps55
  go_wp2
  go_ret2
  exact ⟨rfl, rfl⟩

set_option maxHeartbeats 400000 in
theorem trimmed_any (g cap : Nat) (ds : List Nat) (w : World) (hP : PU w g (.slice (some ⟨g, 0, none⟩) ds.length cap) ds) :
    Calls Tryd.prog 46 #[.slice (some ⟨g, 0, none⟩) ds.length cap] w fun e w' => ∃ v', e = .returned v' ∧ PR w g v' (pv ds) ∧ w' = w := by
  obtain ⟨l, hl⟩ : ∃ l, l = ds.length := ⟨_, rfl⟩
  have hc := hP.cap.2
  have hcm := hc.2
  unfold maxLen at hcm
  have HC : Hid (∀ j, j < ds.length → w.cell? ⟨g, j, none⟩ = some (.int .u32 (ds.getD j 0 : Nat))) := fun j hj => hP.cell hj
  have hlc := hc.1
  rw [← hl] at HC hlc ⊢
  have HP : Hid (∀ k, k ≤ l → PU w g (.slice (some ⟨g, 0, none⟩) k cap) (ds.take k)) := fun k hk => hP.take (by omega)
  clear hP hc
  go_enter Tryd.func46, Tryd.ntmps46
  go_wp2_with fail
  go_loop [0] (fun t => ∃ k : Nat, k ≤ l ∧ t = .slice (some ⟨g, 0, none⟩) k cap ∧ pv (ds.take k) = pv ds) (fun t => match t with | .slice _ k _ => k | _ => 0)
  case atStart => exact ⟨l, Nat.le_refl _, rfl, by rw [take_all hl]⟩
  case round =>
    obtain ⟨k, hk, rfl, hn⟩ := hrel
    cases k with
    | zero =>
      go_wp2
      go_ret
      exact ⟨_, rfl, ⟨_, HP.out 0 (Nat.zero_le _), hn, Or.inl (by simp)⟩, rfl⟩
    | succ k =>
      have hcl := HC.out k (by omega)
      have HN : Hid (pv (ds.take (k + 1)) = pv ds) := hn
      clear hn
      by_cases c : ds.getD k 0 = 0
      · rw [c] at hcl
        go_wp2
        go_round
        case rel => exact ⟨k, by omega, rfl, trim_step HN.out c⟩
        case measure => simp
      · obtain ⟨d, hd⟩ : ∃ d, d = ds.getD k 0 := ⟨_, rfl⟩
        rw [← hd] at hcl
        have hcz : ((d : Int) == 0) = false := by rw [beq_eq_false_iff_ne]; omega
        have HR : Hid (PR w g (.slice (some ⟨g, 0, none⟩) (k + 1) cap) (pv ds)) := ⟨_, HP.out (k + 1) hk, HN.out, trim_end (by omega) c⟩
        clear hd c
        go_wp2
        go_ret
        exact ⟨_, rfl, HR.out, rfl⟩

end Go.Proofs.YtgbajhenmamjjaaDoor
