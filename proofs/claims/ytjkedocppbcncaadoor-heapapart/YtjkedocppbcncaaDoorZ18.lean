/-
  Pt, Pt2, Pt3, Pt4, QuoMath, DecMath
-/
import Derived.Deep.AppendLies
import Derived.Test.YtjkedocppbcncaaDoorZ17

/-
  Parts of 32 bits in memory, and the walks of the landed functions over them: trimmed, partsOf, timesAnd, bitLen, compare, minus.
-/
namespace Go.Proofs.YtjkedocppbcncaaDoor
set_option maxRecDepth 100000
open Go.RowKit Pt

theorem info32 : (Tryd.prog.info? 136).map (fun i => (i.zero, i.size, i.bytes)) = some (some (.int .u32 0), 1, 4) := by kernel_rfl

def c32 (ds : List Nat) : List Value := ds.map fun (d : Nat) => Value.int .u32 (d : Int)
/-- The slice v, all of block g's beginning, holds the parts ds. -/
def PU (w : World) (g : Nat) (v : Value) (ds : List Nat) : Prop :=
  ∃ cap, v = .slice (some ⟨g, 0, none⟩) ds.length cap ∧ Sm ds ∧ w.ownsRow 0 136 1 v ds.length (c32 ds)
/-- The slice v holds the number n, without noughts at the top. -/
def PR (w : World) (g : Nat) (v : Value) (n : Nat) : Prop := ∃ ds, PU w g v ds ∧ pv ds = n ∧ Tr ds

theorem c32_length (ds : List Nat) : (c32 ds).length = ds.length := by unfold c32; simp
theorem c32_set (ds : List Nat) (j d : Nat) : (c32 ds).set j (.int .u32 (d : Int)) = c32 (ds.set j d) := by unfold c32; rw [List.map_set]
theorem c32_one (ds : List Nat) : ∀ u ∈ c32 ds, u.oneCell' = true := by
  intro u hu
  unfold c32 at hu
  obtain ⟨d, _, rfl⟩ := List.mem_map.1 hu
  rfl
theorem PU.lt {w : World} {g : Nat} {v : Value} {ds : List Nat} (h : PU w g v ds) : g < w.heap.size := by
  obtain ⟨cap, rfl, _, h3⟩ := h
  exact (h3.lt g rfl).2
theorem PR.lt {w : World} {g : Nat} {v : Value} {n : Nat} (h : PR w g v n) : g < w.heap.size := by
  obtain ⟨ds, h1, _⟩ := h; exact h1.lt
theorem PU.cap {w : World} {g cap k : Nat} {ds : List Nat} (h : PU w g (.slice (some ⟨g, 0, none⟩) k cap) ds) : k = ds.length ∧ k ≤ cap ∧ cap ≤ maxLen := by
  obtain ⟨cap', e, _, h3⟩ := h
  simp at e
  rcases h3.2 with ⟨k, _⟩ | ⟨g', cap', cur, e2, _, _, r1, r2, _⟩
  · simp at k
  · simp at e2
    obtain ⟨rfl, rfl⟩ := e
    exact ⟨rfl, by omega, by omega⟩
theorem PU.cell {w : World} {g : Nat} {v : Value} {ds : List Nat} (h : PU w g v ds) {j : Nat} (hj : j < ds.length) : w.cell? ⟨g, j, none⟩ = some (.int .u32 (ds.getD j 0 : Nat)) := by
  obtain ⟨cap, rfl, _, h3⟩ := h
  rw [h3.cellAt j (by omega), c32, List.getElem?_map, List.getElem?_eq_getElem hj, List.getD_eq_getElem?_getD, List.getElem?_eq_getElem hj]
  rfl
theorem PU.frozen {w : World} {g : Nat} {v : Value} {ds : List Nat} (h : PU w g v ds) (j : Nat) : w.frozen? ⟨g, j, none⟩ = false := by
  obtain ⟨cap, rfl, _, h3⟩ := h
  exact h3.frozenAt j
theorem PU.stored {w : World} {g : Nat} {v : Value} {ds : List Nat} (h : PU w g v ds) {j d : Nat} (hd : d < 4294967296) : PU (w.setCell ⟨g, j, none⟩ (.int .u32 (d : Int))) g v (ds.set j d) := by
  obtain ⟨cap, rfl, h2, h3⟩ := h
  refine ⟨cap, by rw [List.length_set], sm_set h2 hd, ?_⟩
  have := (h3.stored j (.int .u32 (d : Int))).1
  rw [c32_set] at this
  rw [List.length_set]
  exact this
theorem ownsRow_far {w w' : World} {e s n g : Nat} {v : Value} {xs : List Value} (h : w.ownsRow 0 e s v n xs) (hg : w'.heap[g]? = w.heap[g]?) (hv : v.ownBlock = some g) : w'.ownsRow 0 e s v n xs := by
  refine ⟨h.1, ?_⟩
  rcases h.2 with hn | ⟨g', cap, cur, rfl, h0, hg', rest⟩
  · exact .inl hn
  · refine .inr ⟨g', cap, cur, rfl, h0, ?_, rest⟩
    have e : g' = g := by simpa [Value.ownBlock] using hv
    rw [e, hg, ← e]
    exact hg'
theorem PU.other {w w' : World} {g b : Nat} {v : Value} {ds : List Nat} (h : PU w g v ds) (hg : w.grownBy w' (some b)) (hb : g ≠ b) : PU w' g v ds := by
  have hl := h.lt
  obtain ⟨cap, rfl, h2, h3⟩ := h
  exact ⟨cap, rfl, h2, ownsRow_far h3 (hg.block g hl (by simpa using hb)) rfl⟩
theorem PR.other {w w' : World} {g b : Nat} {v : Value} {n : Nat} (h : PR w g v n) (hg : w.grownBy w' (some b)) (hb : g ≠ b) : PR w' g v n := by
  obtain ⟨ds, h1, h2⟩ := h
  exact ⟨ds, h1.other hg hb, h2⟩
theorem PU.below {w w' : World} {B g : Nat} {v : Value} {ds : List Nat} (h : PU w g v ds) (hg : Below B w w') (hb : g < B) : PU w' g v ds := by
  obtain ⟨cap, rfl, h2, h3⟩ := h
  exact ⟨cap, rfl, h2, ownsRow_far h3 (hg.block g hb) rfl⟩
theorem PR.below {w w' : World} {B g : Nat} {v : Value} {n : Nat} (h : PR w g v n) (hg : Below B w w') (hb : g < B) : PR w' g v n := by
  obtain ⟨ds, h1, h2⟩ := h
  exact ⟨ds, h1.below hg hb, h2⟩
theorem PU.take {w : World} {g k cap : Nat} {ds : List Nat} (h : PU w g (.slice (some ⟨g, 0, none⟩) ds.length cap) ds) (hk : k ≤ ds.length) : PU w g (.slice (some ⟨g, 0, none⟩) k cap) (ds.take k) := by
  obtain ⟨cap', e, h2, h3⟩ := h
  have hl : (ds.take k).length = k := by rw [List.length_take]; omega
  refine ⟨cap, by rw [hl], sm_take k h2, ?_⟩
  rw [hl]
  refine ⟨by rw [c32_length, hl]; omega, ?_⟩
  rcases h3.2 with ⟨c, _⟩ | ⟨g', cap2, cur, e2, h0, hg, r1, r2, r3, r4⟩
  · simp at c
  · simp at e2
    obtain ⟨rfl, rfl⟩ := e2
    refine .inr ⟨g, cap, cur, rfl, h0, hg, by omega, r2, r3, ?_⟩
    have : List.take (k * 1) cur.toList = List.take (k * 1) (List.take (ds.length * 1) cur.toList) := by rw [List.take_take, Nat.min_eq_left (by omega)]
    rw [this, r4, Nat.mul_one]
    unfold c32
    rw [List.map_take]
theorem gb_refl (w : World) (r : Option Nat) : w.grownBy w r := ⟨rfl, rfl, rfl, Nat.le_refl _, fun _ _ _ => rfl⟩
theorem gb_trans {a b c : World} {r : Option Nat} (h : a.grownBy b r) (k : b.grownBy c r) : a.grownBy c r :=
  ⟨k.os.trans h.os, k.tape.trans h.tape, k.output.trans h.output, Nat.le_trans h.size k.size, fun i hi hn => (k.block i (Nat.lt_of_lt_of_le hi h.size) hn).trans (h.block i hi hn)⟩
theorem gb_new {a b c : World} {g g' : Nat} (h : a.grownBy b (some g)) (k : b.grownBy c (some g')) (hg : g' = g ∨ a.heap.size ≤ g') : a.grownBy c (some g) :=
  ⟨k.os.trans h.os, k.tape.trans h.tape, k.output.trans h.output, Nat.le_trans h.size k.size, fun i hi hn =>
    (k.block i (Nat.lt_of_lt_of_le hi h.size) (by
      rcases hg with e | e
      · rw [e]; exact hn
      · intro c; simp at c; omega)).trans (h.block i hi hn)⟩
theorem gb_set (w : World) (g j : Nat) (u : Value) : w.grownBy (w.setCell ⟨g, j, none⟩ u) (some g) :=
  ⟨rfl, rfl, rfl, by simp, fun k _ hk => Below.heap_setCell w ⟨g, j, none⟩ u k (fun e => hk (by rw [e]))⟩
theorem gb_drew {a b : World} {r : Option Nat} (h : a.grownBy b r) (n : Nat) : a.grownBy (b.drewN n) r := ⟨h.os, h.tape, h.output, h.size, h.block⟩

theorem borrow_bits {x y d b b2 : Nat} (hx : x < 4294967296) (hy : y < 4294967296) (hd : d < 4294967296) (hb : b ≤ 1) (hb2 : b2 ≤ 1) (h : d + y + b = x + 4294967296 * b2) :
    (((4294967295 ^^^ x) &&& y) ||| ((4294967295 ^^^ (x ^^^ y)) &&& d)) / 2147483648 = b2 := by
  rw [show (2147483648 : Nat) = 2 ^ 31 from rfl, ← Nat.shiftRight_eq_div_pow, Nat.shiftRight_or_distrib, Nat.shiftRight_and_distrib, Nat.shiftRight_and_distrib, Nat.shiftRight_xor_distrib, Nat.shiftRight_xor_distrib, Nat.shiftRight_xor_distrib]
  simp only [Nat.shiftRight_eq_div_pow]
  have e1 : x / 2 ^ 31 = 0 ∨ x / 2 ^ 31 = 1 := by omega
  have e2 : y / 2 ^ 31 = 0 ∨ y / 2 ^ 31 = 1 := by omega
  have e3 : d / 2 ^ 31 = 0 ∨ d / 2 ^ 31 = 1 := by omega
  have e4 : b2 = 0 ∨ b2 = 1 := by omega
  rcases e1 with e1 | e1 <;> rcases e2 with e2 | e2 <;> rcases e3 with e3 | e3 <;> rcases e4 with e4 | e4 <;> rw [e1, e2, e3, e4] <;> first | decide | (exfalso; omega)
theorem borrow_int {x y d b b2 : Nat} (hx : x < 4294967296) (hy : y < 4294967296) (hd : d < 4294967296) (hb : b ≤ 1) (hb2 : b2 ≤ 1) (h : d + y + b = x + 4294967296 * b2) :
    bits .or .u32 (bits .and .u32 (bits .xor .u32 IntKind.u32.max (x : Int)) (y : Int)) (bits .and .u32 (bits .xor .u32 IntKind.u32.max (bits .xor .u32 (x : Int) (y : Int))) (d : Int)) / 2147483648 = (b2 : Int) := by
  have x1 : 4294967295 ^^^ x < 2 ^ 32 := Nat.xor_lt_two_pow (by decide) hx
  have x2 : x ^^^ y < 2 ^ 32 := Nat.xor_lt_two_pow hx hy
  have x3 : 4294967295 ^^^ (x ^^^ y) < 2 ^ 32 := Nat.xor_lt_two_pow (by decide) x2
  have x4 : (4294967295 ^^^ x) &&& y < 2 ^ 32 := Nat.and_lt_two_pow _ hy
  have x5 : (4294967295 ^^^ (x ^^^ y)) &&& d < 2 ^ 32 := Nat.and_lt_two_pow _ hd
  rw [show IntKind.u32.max = ((4294967295 : Nat) : Int) from rfl, u32_xor_nat x y hx hy, u32_xor_nat _ _ (by decide) hx, u32_xor_nat _ _ (by decide) x2, u32_and_nat _ _ x1 hy, u32_and_nat _ _ x3 hd, u32_or_nat _ _ x4 x5]
  rw [show (2147483648 : Int) = ((2147483648 : Nat) : Int) from rfl, ← Int.natCast_ediv, borrow_bits hx hy hd hb hb2 h]
end Go.Proofs.YtjkedocppbcncaaDoor

/-
  The walks of timesAnd, minus, compare, bitLen, partsOf and Clone over parts.
-/
namespace Go.Proofs.YtjkedocppbcncaaDoor
set_option maxRecDepth 100000
open Go.RowKit Pt

theorem pu_made (w : World) (x y : Nat) (hx : x < 4294967296) (hy : y < 4294967296) : PU (w.alloc (.cells #[.int .u32 (x : Int), .int .u32 (y : Int)] 136)) w.heap.size (.slice (some ⟨w.heap.size, 0, none⟩) 2 2) [x, y] := by
  refine ⟨2, rfl, ?_, rfl, .inr ⟨w.heap.size, 2, _, rfl, Nat.zero_le _, heap_alloc_new w _, Nat.le_refl _, by unfold maxLen; omega, rfl, rfl⟩⟩
  intro d hd
  simp at hd
  omega
theorem pr_empty (w : World) : PR (w.alloc (.cells #[] 136)) w.heap.size (.slice (some ⟨w.heap.size, 0, none⟩) 0 0) 0 :=
  ⟨[], ⟨0, rfl, by intro d hd; simp at hd, rfl, .inr ⟨w.heap.size, 0, _, rfl, Nat.zero_le _, heap_alloc_new w _, Nat.le_refl _, by unfold maxLen; omega, rfl, rfl⟩⟩, rfl, Or.inl rfl⟩

/-- As the program compares. -/
def cmpI (n m : Nat) : Int := if n < m then -1 else if n = m then 0 else 1
theorem cmpI_lt {n m : Nat} (h : n < m) : cmpI n m = -1 := by unfold cmpI; rw [if_pos h]
theorem cmpI_eq {n m : Nat} (h : n = m) : cmpI n m = 0 := by unfold cmpI; rw [if_neg (by omega), if_pos h]
theorem cmpI_gt {n m : Nat} (h : m < n) : cmpI n m = 1 := by unfold cmpI; rw [if_neg (by omega), if_neg (by omega)]

end Go.Proofs.YtjkedocppbcncaaDoor

/-
  The walks of minus, bitLen, Clone, timesTens, timesTwos over parts.
-/
namespace Go.Proofs.YtjkedocppbcncaaDoor
set_option maxRecDepth 100000
open Go.RowKit Pt

theorem PR.drewN {w : World} {g : Nat} {v : Value} {n : Nat} (h : PR w g v n) (q : Nat) : PR (w.drewN q) g v n := h

theorem bit_pick {d e bw : Nat} (hd : d < 4294967296) (he : e < 4294967296) (hb : bw ≤ 1) : ∃ df b2, df < 4294967296 ∧ b2 ≤ 1 ∧ df + e + bw = d + 4294967296 * b2 := by
  rcases Nat.lt_or_ge d (e + bw) with c | c
  · exact ⟨d + 4294967296 - e - bw, 1, by omega, by omega, by omega⟩
  · exact ⟨d - e - bw, 0, by omega, by omega, by omega⟩

end Go.Proofs.YtjkedocppbcncaaDoor

/-
  The walks of timesTens, timesTwos and Clone over parts.
-/
namespace Go.Proofs.YtjkedocppbcncaaDoor
set_option maxRecDepth 100000
open Go.RowKit Pt

/-- Block g alone was written; what lay in it lies there or in a new block g'. -/
def Mv (w w' : World) (g g' : Nat) : Prop := w.grownBy w' (some g) ∧ (g' = g ∨ w.heap.size ≤ g')
theorem Mv.refl (w : World) (g : Nat) : Mv w w g g := ⟨gb_refl _ _, Or.inl rfl⟩
theorem Mv.trans {a b c : World} {g g1 g2 : Nat} (h : Mv a b g g1) (k : Mv b c g1 g2) : Mv a c g g2 := by
  refine ⟨gb_new h.1 k.1 h.2, ?_⟩
  have := h.1.size
  rcases k.2 with e | e
  · rw [e]; exact h.2
  · right; omega
theorem Mv.drewN {a b : World} {g g1 : Nat} (h : Mv a b g g1) (q : Nat) : Mv a (b.drewN q) g g1 := ⟨gb_drew h.1 q, h.2⟩
theorem Mv.pr {w w' : World} {g g' b : Nat} {u : Value} {m : Nat} (h : Mv w w' g g') (hp : PR w b u m) (hb : b ≠ g) : PR w' b u m := hp.other h.1 hb
theorem Mv.ne {w w' : World} {g g' b : Nat} (h : Mv w w' g g') (hp : b < w.heap.size) (hb : b ≠ g) : b ≠ g' := by
  rcases h.2 with e | e
  · rw [e]; exact hb
  · omega
theorem Mv.below {w w' : World} {B g g' : Nat} (h : Mv w w' g g') (hB : B ≤ w.heap.size) (hg : B ≤ g) : Below B w w' :=
  (Below.refl _ _).grown h.1 hB (by intro k hk; simp at hk; omega)
theorem Mv.ge {w w' : World} {B g g' : Nat} (h : Mv w w' g g') (hB : B ≤ w.heap.size) (hg : B ≤ g) : B ≤ g' := by
  rcases h.2 with e | e <;> omega

theorem pow_part {N c k T K : Nat} (h : N * c ^ k = T) (hc : 0 < c) (hT : T < 2 ^ K) : N < 2 ^ K := by
  have := Nat.le_mul_of_pos_right N (Nat.pow_pos (n := k) hc)
  omega
theorem pow_step {N c k T s : Nat} (h : N * c ^ k = T) (hs : s ≤ k) : N * c ^ s * c ^ (k - s) = T := by
  rw [Nat.mul_assoc, ← Nat.pow_add, show s + (k - s) = k by omega]; exact h

theorem eql_nil {P : Program} {t e : TypeId} (a : Option Addr) (l c : Nat) (h : P.underlying t = some (.slice e)) (w : World) : (binOp .eql t (.slice a l c) (.slice none 0 0)).run P w = .ok (.bool a.isNone) w := by
  simp only [binOp]
  simp [run_equal_slice_nil w t e a l c h]

end Go.Proofs.YtjkedocppbcncaaDoor

/-
  Plain mathematics: what is cut off, but noted, does not change what is rounded.
-/
namespace Go.Proofs.YtjkedocppbcncaaDoor.Flo
set_option maxRecDepth 100000
open Go.Proofs.YtjkedocppbcncaaDoor

/-- Within a cell, its lower end apart, all is rounded alike. -/
theorem rne_cell {d p c a : Nat} (hp : p < d) (a0 : 0 < a) (a1 : a < 2 ^ p) :
    rne (c * 2 ^ p + a) d = c / 2 ^ (d - p) + (if 2 ^ (d - p - 1) ≤ c % 2 ^ (d - p) then 1 else 0) := by
  have hP := Nat.two_pow_pos p
  have eD : 2 ^ d = 2 ^ p * 2 ^ (d - p) := by rw [← Nat.pow_add]; congr 1; omega
  have eW : 2 ^ (d - p) = 2 * 2 ^ (d - p - 1) := by rw [← Nat.pow_succ']; congr 1; omega
  have e1 : (c * 2 ^ p + a) / 2 ^ p = c := by
    rw [Nat.mul_comm, Nat.mul_add_div hP, Nat.div_eq_of_lt a1, Nat.add_zero]
  have e2 : (c * 2 ^ p + a) / 2 ^ d = c / 2 ^ (d - p) := by rw [eD, ← Nat.div_div_eq_div_mul, e1]
  have e3 : (c * 2 ^ p + a) % 2 ^ d = c % 2 ^ (d - p) * 2 ^ p + a := by
    rw [eD, Nat.mod_mul, e1, Nat.mul_comm c, Nat.mul_add_mod, Nat.mod_eq_of_lt a1, Nat.mul_comm]
    omega
  unfold rne
  rw [e2, e3, eD, eW]
  generalize 2 ^ (d - p - 1) = W
  generalize c % (2 * W) = z
  generalize c / (2 * W) = y
  generalize 2 ^ p = P at *
  congr 1
  have x1 : P * (2 * W) = 2 * (P * W) := by grind
  rw [x1]
  by_cases h : W ≤ z
  · have h1 : P * W ≤ z * P := by rw [Nat.mul_comm z]; exact Nat.mul_le_mul_left P h
    rw [if_pos h, if_pos (Or.inl (by omega))]
  · have h1 : (z + 1) * P ≤ P * W := by rw [Nat.mul_comm]; exact Nat.mul_le_mul_left P (by omega)
    rw [Nat.add_mul, Nat.one_mul] at h1
    rw [if_neg h, if_neg (by omega)]

theorem rung_cell {g p c a b : Nat} (hc : 9007199254740992 ≤ c) (a0 : 0 < a) (a1 : a < 2 ^ p) (b0 : 0 < b) (b1 : b < 2 ^ p) : rung g (c * 2 ^ p + a) = rung g (c * 2 ^ p + b) := by
  obtain ⟨s1, s2, s3⟩ := lowest_spec g (c * 2 ^ p + a)
  have hP := Nat.two_pow_pos p
  have h53 : 2 ^ (53 + p) ≤ c * 2 ^ p := scaled_ge (by omega)
  have hp : p < lowest g (c * 2 ^ p + a) := by
    rcases Nat.lt_or_ge p (lowest g (c * 2 ^ p + a)) with k | k
    · exact k
    · exfalso
      have : 2 ^ (lowest g (c * 2 ^ p + a) + 53) ≤ 2 ^ (53 + p) := Nat.pow_le_pow_right (by decide) (by generalize lowest g (c * 2 ^ p + a) = d at *; omega)
      exact absurd (Nat.lt_of_lt_of_le s2 (Nat.le_trans this h53)) (by omega)
  have hl : lowest g (c * 2 ^ p + b) = lowest g (c * 2 ^ p + a) := by
    generalize lowest g (c * 2 ^ p + a) = d at *
    have u1 : c * 2 ^ p + b < 2 ^ (d + 53) := by
      have e : 2 ^ (d + 53) = 2 ^ (d + 53 - p) * 2 ^ p := by rw [← Nat.pow_add]; congr 1; omega
      rw [e] at s2 ⊢
      have : c < 2 ^ (d + 53 - p) := Nat.lt_of_mul_lt_mul_right (a := 2 ^ p) (by omega)
      have := Nat.mul_le_mul_right (2 ^ p) this
      rw [Nat.succ_mul] at this
      omega
    rcases Nat.lt_or_ge g d with k | k
    · refine lowest_high k ?_ u1
      have h := s3 k
      have e : 2 ^ (d + 52) = 2 ^ (d + 52 - p) * 2 ^ p := by rw [← Nat.pow_add]; congr 1; omega
      rw [e] at h ⊢
      have : 2 ^ (d + 52 - p) < c + 1 := by
        refine Nat.lt_of_mul_lt_mul_right (a := 2 ^ p) ?_
        rw [Nat.add_mul, Nat.one_mul]; omega
      have := Nat.mul_le_mul_right (2 ^ p) (show 2 ^ (d + 52 - p) ≤ c by omega)
      omega
    · have : d = g := by omega
      subst this
      exact lowest_low u1
  unfold rung
  rw [hl, rne_cell hp a0 a1, rne_cell hp b0 b1]

/-- Two that were cut off in one cell, and note whether anything fell. -/
theorem rung_sticky {g p c v u : Nat} (hc : 9007199254740992 ≤ c) (v1 : c * 2 ^ p ≤ v) (v2 : v < (c + 1) * 2 ^ p) (u1 : c * 2 ^ p ≤ u) (u2 : u < (c + 1) * 2 ^ p) (h : v = c * 2 ^ p ↔ u = c * 2 ^ p) : rung g v = rung g u := by
  rw [Nat.add_mul, Nat.one_mul] at v2 u2
  by_cases k : v = c * 2 ^ p
  · rw [k, h.1 k]
  · have k2 : u ≠ c * 2 ^ p := fun q => k (h.2 q)
    have e1 : v = c * 2 ^ p + (v - c * 2 ^ p) := by omega
    have e2 : u = c * 2 ^ p + (u - c * 2 ^ p) := by omega
    rw [e1, e2]
    exact rung_cell hc (by omega) (by omega) (by omega) (by omega)

theorem sticky_pair {Q Q2 x t g : Nat} {z1 z2 : Prop} [Decidable z1] [Decidable z2] (hq : 9007199254740992 ≤ Q) (l1 : Q * 2 ^ t ≤ Q2) (l2 : Q2 < (Q + 1) * 2 ^ t) (l3 : z1 ↔ (z2 ∧ Q2 = Q * 2 ^ t)) :
    rung g ((2 * Q + (if z1 then 0 else 1)) * 2 ^ (x + t)) = rung g ((2 * Q2 + (if z2 then 0 else 1)) * 2 ^ x) := by
  have ht := Nat.two_pow_pos t
  have hx := Nat.two_pow_pos x
  have ex : 2 ^ (x + t) = 2 ^ t * 2 ^ x := by rw [← Nat.pow_add, Nat.add_comm]
  have ep : 2 ^ (x + t + 1) = 2 * 2 ^ t * 2 ^ x := by rw [Nat.pow_succ', ex, Nat.mul_assoc]
  generalize 2 ^ t = T at *
  generalize 2 ^ x = X at *
  have hX : ∀ y z : Nat, y ≤ z → y * X ≤ z * X := fun y z h => Nat.mul_le_mul_right X h
  have hXl : ∀ y z : Nat, y < z → y * X < z * X := fun y z h => Nat.mul_lt_mul_of_pos_right h hx
  refine rung_sticky (p := x + t + 1) (c := Q) hq ?_ ?_ ?_ ?_ ?_
  · rw [ep, ex, show Q * (2 * T * X) = (2 * Q * T) * X by grind, show (2 * Q + (if z1 then 0 else 1)) * (T * X) = ((2 * Q + (if z1 then 0 else 1)) * T) * X by grind]
    exact hX _ _ (Nat.mul_le_mul_right T (by omega))
  · rw [ep, ex, show (Q + 1) * (2 * T * X) = ((2 * Q + 2) * T) * X by grind, show (2 * Q + (if z1 then 0 else 1)) * (T * X) = ((2 * Q + (if z1 then 0 else 1)) * T) * X by grind]
    exact hXl _ _ (Nat.mul_lt_mul_of_pos_right (by split <;> omega) ht)
  · rw [ep, show Q * (2 * T * X) = (2 * (Q * T)) * X by grind]
    exact hX _ _ (by omega)
  · rw [ep, show (Q + 1) * (2 * T * X) = (2 * ((Q + 1) * T)) * X by grind]
    exact hXl _ _ (by split <;> omega)
  · rw [ep, ex, show Q * (2 * T * X) = (2 * (Q * T)) * X by grind, show (2 * Q + (if z1 then 0 else 1)) * (T * X) = ((2 * Q + (if z1 then 0 else 1)) * T) * X by grind]
    constructor
    · intro h
      have h1 := Nat.eq_of_mul_eq_mul_right hx h
      have h2 : (2 * Q + (if z1 then 0 else 1)) * T = (2 * Q) * T := by rw [h1]; grind
      have h3 := Nat.eq_of_mul_eq_mul_right ht h2
      have h4 : z1 := by
        by_cases q : z1
        · exact q
        · rw [if_neg q] at h3; omega
      obtain ⟨h5, h6⟩ := l3.1 h4
      rw [if_pos h5, h6]
      rfl
    · intro h
      have h1 := Nat.eq_of_mul_eq_mul_right hx h
      have h2 : z2 := by
        by_cases q : z2
        · exact q
        · rw [if_neg q] at h1; omega
      rw [if_pos h2] at h1
      have h3 := l3.2 ⟨h2, by omega⟩
      rw [if_pos h3]
      grind

/-! Quotients. -/
/-- A quotient with k bits more, twice, and one more where anything is left. -/
def stick (A B k : Nat) : Nat := 2 * (A * 2 ^ k / B) + (if A * 2 ^ k % B = 0 then 0 else 1)

theorem stick_more {A B k t g x : Nat} (hB : 0 < B) (hq : 9007199254740992 ≤ A * 2 ^ k / B) : rung g (stick A B k * 2 ^ (x + t)) = rung g (stick A B (k + t) * 2 ^ x) := by
  unfold stick
  have eA : A * 2 ^ (k + t) = A * 2 ^ k * 2 ^ t := by rw [Nat.pow_add, Nat.mul_assoc]
  rw [eA]
  have hN := Nat.div_add_mod (A * 2 ^ k) B
  have hr := Nat.mod_lt (A * 2 ^ k) hB
  have hN2 := Nat.div_add_mod (A * 2 ^ k * 2 ^ t) B
  have hr2 := Nat.mod_lt (A * 2 ^ k * 2 ^ t) hB
  have ht := Nat.two_pow_pos t
  generalize A * 2 ^ k = N at *
  generalize N / B = Q at *
  generalize N % B = r at *
  generalize N * 2 ^ t % B = r2 at *
  -- how the finer quotient lies to the coarser one
  have l1 : Q * 2 ^ t ≤ N * 2 ^ t / B := by
    rw [Nat.le_div_iff_mul_le hB, ← hN]
    have : Q * 2 ^ t * B = B * Q * 2 ^ t := by grind
    rw [this]
    exact Nat.mul_le_mul_right _ (by omega)
  have l2 : N * 2 ^ t / B < (Q + 1) * 2 ^ t := by
    rw [Nat.div_lt_iff_lt_mul hB]
    have : (Q + 1) * 2 ^ t * B = (B * Q + B) * 2 ^ t := by grind
    rw [this, ← hN]
    exact Nat.mul_lt_mul_of_pos_right (by omega) ht
  have l3 : (r = 0) ↔ (r2 = 0 ∧ N * 2 ^ t / B = Q * 2 ^ t) := by
    constructor
    · intro h
      have e : N * 2 ^ t = B * (Q * 2 ^ t) := by rw [← hN, h]; grind
      have e2 : N * 2 ^ t / B = Q * 2 ^ t := by rw [e]; exact Nat.mul_div_cancel_left _ hB
      rw [e2, e] at hN2
      exact ⟨by omega, e2⟩
    · rintro ⟨h1, h2⟩
      rw [h1, h2, Nat.add_zero, ← hN] at hN2
      have : (B * Q) * 2 ^ t = (B * Q + r) * 2 ^ t := by rw [← hN2]; grind
      have := Nat.eq_of_mul_eq_mul_right ht this
      omega
  exact sticky_pair hq l1 l2 l3
theorem stick_scale (A B k c : Nat) : stick (A * 2 ^ c) (B * 2 ^ c) k = stick A B k := by
  have hc := Nat.two_pow_pos c
  unfold stick
  have e : A * 2 ^ c * 2 ^ k = A * 2 ^ k * 2 ^ c := by grind
  rw [e, Nat.mul_div_mul_right _ _ hc, Nat.mul_mod_mul_right]
  have i : A * 2 ^ k % B * 2 ^ c = 0 ↔ A * 2 ^ k % B = 0 := by
    rw [Nat.mul_eq_zero]; omega
  simp only [i]
theorem stick_up (A B k c : Nat) : stick (A * 2 ^ c) B k = stick A B (k + c) := by
  unfold stick
  have e : A * 2 ^ c * 2 ^ k = A * 2 ^ (k + c) := by rw [Nat.add_comm, Nat.pow_add, Nat.mul_assoc]
  rw [e]

end Go.Proofs.YtjkedocppbcncaaDoor.Flo

/-
  Layer 5: the number nearest to a quotient of whole numbers, and to a numeral.
-/
namespace Go.Proofs.YtjkedocppbcncaaDoor
set_option maxRecDepth 100000
open Go.RowKit Flo

/-- So many bits more that a quotient by B has enough of them. -/
def KN (B : Nat) : Nat := OP + 100 + B.log2
/-- The rung nearest to A / B. -/
def nearR (A B : Nat) : Nat := if A = 0 then 0 else rung (KN B + 1 - OP) (stick A B (KN B))

theorem enough {A B : Nat} (hA : A ≠ 0) (hB : 0 < B) : 9007199254740992 ≤ A * 2 ^ KN B / B := by
  rw [Nat.le_div_iff_mul_le hB]
  have h1 : B < 2 ^ (B.log2 + 1) := Nat.lt_log2_self
  have h2 : 9007199254740992 * B ≤ 2 ^ 53 * 2 ^ (B.log2 + 1) := Nat.mul_le_mul (by decide) (Nat.le_of_lt h1)
  rw [← Nat.pow_add] at h2
  have h3 : (2 : Nat) ^ (53 + (B.log2 + 1)) ≤ 2 ^ KN B := Nat.pow_le_pow_right (by decide) (by unfold KN; omega)
  have h4 : 2 ^ KN B ≤ A * 2 ^ KN B := Nat.le_mul_of_pos_left _ (by omega)
  omega
/-- With any number of bits that are enough, the same is told. -/
theorem near_bits {A B k : Nat} (hA : A ≠ 0) (hB : 0 < B) (hq : 9007199254740992 ≤ A * 2 ^ k / B) : rung k (stick A B k * 2 ^ (OP - 1)) = nearR A B := by
  have hO : 1 ≤ OP := by rw [OP_eq]; decide
  have hK : OP ≤ KN B + 1 := by unfold KN; omega
  have hk0 := enough hA hB
  unfold nearR
  rw [if_neg hA]
  have e1 : rung (KN B + 1 - OP) (stick A B (KN B)) = rung (KN B) (stick A B (KN B) * 2 ^ (OP - 1)) := by
    rw [← rung_scale (KN B + 1 - OP) (stick A B (KN B)) (OP - 1), show KN B + 1 - OP + (OP - 1) = KN B by omega]
  rw [e1]
  generalize KN B = K at *
  rcases Nat.le_total k K with h | h
  · obtain ⟨t, rfl⟩ := Nat.exists_eq_add_of_le h
    rw [← stick_more hB hq (g := k + t) (x := OP - 1) (t := t), Nat.pow_add, ← Nat.mul_assoc, rung_scale]
  · obtain ⟨t, rfl⟩ := Nat.exists_eq_add_of_le h
    rw [← stick_more hB hk0 (g := K + t) (x := OP - 1) (t := t), Nat.pow_add, ← Nat.mul_assoc, rung_scale]
/-- Of a whole number. -/
theorem nearR_whole (N : Nat) : rung 0 (N * 2 ^ OP) = nearR N 1 := by
  by_cases h : N = 0
  · subst h
    rw [Nat.zero_mul, rung_tiny (Nat.zero_le _)]; rfl
  · have hq : 9007199254740992 ≤ N * 2 ^ 53 / 1 := by
      rw [Nat.div_one]; exact Nat.le_mul_of_pos_left _ (by omega)
    rw [← near_bits h (by decide) hq]
    have e : stick N 1 53 = N * 2 ^ 54 := by
      unfold stick
      rw [Nat.div_one, Nat.mod_one, if_pos rfl, Nat.add_zero, Nat.mul_left_comm]
    have e2 : N * 2 ^ 54 * 2 ^ (OP - 1) = N * 2 ^ OP * 2 ^ 53 := by
      have hO : 1 ≤ OP := by rw [OP_eq]; decide
      rw [Nat.mul_assoc, Nat.mul_assoc, ← Nat.pow_add, ← Nat.pow_add, show 54 + (OP - 1) = OP + 53 by omega]
    rw [e, e2]
    have := rung_scale 0 (N * 2 ^ OP) 53
    rw [Nat.zero_add] at this
    rw [this]

/-- The rung nearest to D times 10 to the power e. -/
def decN (D : Nat) (e : Int) : Nat := if 0 ≤ e then nearR (D * 10 ^ e.toNat) 1 else nearR D (10 ^ (-e).toNat)
theorem decN_zero (e : Int) : decN 0 e = 0 := by
  unfold decN nearR
  rw [Nat.zero_mul, if_pos rfl, if_pos rfl]
  split <;> rfl
theorem ten_pow (n : Nat) : 2 ^ (3 * n) ≤ 10 ^ n := by
  rw [Nat.pow_mul]; exact Nat.pow_le_pow_left (by decide) n
theorem decN_up (D n : Nat) : decN D (n : Int) = rung 0 (D * 10 ^ n * 2 ^ OP) := by
  unfold decN
  rw [if_pos (by omega), Int.toNat_natCast, nearR_whole]
theorem rung_big {v c : Nat} (g : Nat) (hc : g + 2098 ≤ c) (hv : 2 ^ c ≤ v) : rung g v = 9218868437227405312 := rung_huge (Nat.le_trans (Nat.pow_le_pow_right (by decide) hc) hv)
theorem dec_huge {D : Nat} {e : Int} (hD : D ≠ 0) (he : 400 ≤ e) : decN D e = 9218868437227405312 := by
  obtain ⟨n, rfl⟩ := Int.eq_ofNat_of_zero_le (show 0 ≤ e by omega)
  rw [decN_up]
  have h1 : 2 ^ (3 * n) ≤ D * 10 ^ n := Nat.le_trans (ten_pow n) (Nat.le_mul_of_pos_left _ (by omega))
  have h2 : 2 ^ (3 * n) * 2 ^ OP ≤ D * 10 ^ n * 2 ^ OP := Nat.mul_le_mul_right _ h1
  rw [← Nat.pow_add] at h2
  have h0 : 0 + 2098 ≤ 3 * n + OP := by rw [OP_eq]; omega
  exact rung_big 0 h0 h2
/-- The most digits of a numeral. -/
def DG : Nat := 400
theorem DG_eq : DG = 400 := rfl
theorem dec_tiny {D : Nat} {e : Int} (hD : D < 10 ^ DG) (he : e ≤ -800) : decN D e = 0 := by
  obtain ⟨n, hn⟩ := Int.eq_ofNat_of_zero_le (show 0 ≤ -e by omega)
  unfold decN
  rw [if_neg (by omega), hn, Int.toNat_natCast]
  have hm := DG_eq
  generalize DG = m at *
  obtain ⟨t, ht⟩ := Nat.exists_eq_add_of_le (show m ≤ n by omega)
  have hB : 0 < 10 ^ n := Nat.pow_pos (by decide)
  -- B is far greater than D
  have h1 : D * 2 ^ (3 * t) ≤ 10 ^ n := by
    rw [ht, Nat.pow_add]
    exact Nat.mul_le_mul (Nat.le_of_lt hD) (ten_pow t)
  have ht2 : OP + 100 ≤ 3 * t := by rw [OP_eq]; omega
  unfold nearR
  split
  · rfl
  · next hA =>
    apply rung_tiny
    have hlog : 3 * n ≤ (10 ^ n).log2 := (Nat.le_log2 (by omega)).2 (ten_pow n)
    have hK : 3 * t + 1 ≤ KN (10 ^ n) := by unfold KN; omega
    generalize 10 ^ n = B at *
    generalize KN B = K at *
    -- the quotient is small
    have hq : D * 2 ^ K / B ≤ 2 ^ (K - 3 * t) := by
      apply Nat.div_le_of_le_mul
      have e1 : 2 ^ K = 2 ^ (3 * t) * 2 ^ (K - 3 * t) := by rw [← Nat.pow_add, show 3 * t + (K - 3 * t) = K by omega]
      rw [e1, ← Nat.mul_assoc]
      exact Nat.mul_le_mul_right _ h1
    have hs : stick D B K ≤ 2 * 2 ^ (K - 3 * t) + 1 := by
      unfold stick
      split <;> omega
    have e2 : 2 ^ (K + 1 - OP) = 2 ^ (K - 3 * t + 2) * 2 ^ (3 * t - OP - 1) := by
      rw [← Nat.pow_add, show K - 3 * t + 2 + (3 * t - OP - 1) = K + 1 - OP by omega]
    have e3 : 2 ^ (K - 3 * t + 2) = 4 * 2 ^ (K - 3 * t) := by rw [Nat.pow_add, Nat.mul_comm]
    have e4 : 2 ^ 1 ≤ 2 ^ (3 * t - OP - 1) := Nat.pow_le_pow_right (by decide) (by omega)
    have p1 := Nat.two_pow_pos (K - 3 * t)
    rw [e2, e3]
    have e5 : 4 * 2 ^ (K - 3 * t) * 2 ^ 1 ≤ 4 * 2 ^ (K - 3 * t) * 2 ^ (3 * t - OP - 1) := Nat.mul_le_mul_left _ e4
    omega

end Go.Proofs.YtjkedocppbcncaaDoor
