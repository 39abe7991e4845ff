/-
  FloWalk, FloWalk2, FloLen, FloRound, Pt, Pt2
-/
import Derived.Test.YtfhoimfjfbbhaaaDoorRows
import Derived.WalkKit
import Derived.WalkSpells
import Derived.WalkLawsBesides
import Derived.Lib.BitFns
import Derived.Deep.AppendLies
import Derived.Test.YtfhoimfjfbbhaaaDoorZ02

/-
  The walks of layer 1's small functions: what each call answers; the world is as it was.
-/
namespace Go.Proofs.YtfhoimfjfbbhaaaDoor
set_option maxRecDepth 100000
open Go.RowKit Flo

end Go.Proofs.YtfhoimfjfbbhaaaDoor

/-
  The walks of Kind and Before.
-/
namespace Go.Proofs.YtfhoimfjfbbhaaaDoor
set_option maxRecDepth 100000
open Go.RowKit Flo

theorem kind_tests {a : Int} (h : U64 a) :
    (FloatKind.f64.format.order a.toNat a.toNat != some .eq) = nanB a ∧
    (FloatKind.f64.format.order a.toNat 0 == some .eq) = equalB a 0 ∧
    (FloatKind.f64.format.order a.toNat 18442240474082181119 == some .lt) = lessB a 18442240474082181119 ∧
    (FloatKind.f64.format.order a.toNat 9218868437227405311 == some .gt) = lessB 9218868437227405311 a ∧
    (FloatKind.f64.format.order a.toNat 9227875636482146304 == some .gt) = lessB 9227875636482146304 a ∧
    (FloatKind.f64.format.order a.toNat 4503599627370496 == some .lt) = lessB a 4503599627370496 := by
  refine ⟨?_, ?_, ?_, ?_, ?_, ?_⟩
  · rw [ne_test h h, equalB_self, Bool.not_not]
  · exact eq_test h (b := 0) ⟨by decide, by decide⟩
  · exact lt_test h (b := 18442240474082181119) ⟨by decide, by decide⟩
  · exact gt_test h (b := 9218868437227405311) ⟨by decide, by decide⟩
  · exact gt_test h (b := 9227875636482146304) ⟨by decide, by decide⟩
  · exact lt_test h (b := 4503599627370496) ⟨by decide, by decide⟩

end Go.Proofs.YtfhoimfjfbbhaaaDoor

/-
  math/bits.Len64, walked.
-/
namespace Go.Proofs.YtfhoimfjfbbhaaaDoor
set_option maxRecDepth 100000
open Go.RowKit Flo

theorem len8_get : ∀ n : Fin 256, Lib.len8tab[n.val]!.toNat = Lib.bitLen n.val := by decide +kernel
theorem len8_any (i : Nat) (h : i < Lib.len8tab.size) : Lib.len8tab[i].toNat = Lib.bitLen i := by
  have e : Lib.len8tab.size = 256 := by decide +kernel
  have := len8_get ⟨i, by omega⟩
  rw [← this, getElem!_pos]

theorem len_close (x k : Nat) (c : Int) (hx : x < 18446744073709551616) (h2 : x / 2 ^ k < 256) (h : k = 0 ∨ 2 ^ k ≤ x) (hk : k ≤ 56) (i : Nat) (hi : i < Lib.len8tab.size) (ei : i = x / 2 ^ k) (hc : c = k) :
    wrap64 (c + wrap64 (Lib.len8tab[i].toNat : Int)) = (Lib.bitLen x : Int) := by
  subst ei
  subst hc
  rw [len8_any]
  have l8 := Lib.bitLen_le8 ⟨x / 2 ^ k, h2⟩
  have s : Lib.bitLen x = k + Lib.bitLen (x / 2 ^ k) := by
    rcases h with h | h
    · subst h; simp
    · exact Lib.bitLen_shift k x h hx
  simp only at l8
  unfold wrap64
  omega

set_option maxRecDepth 100000 in
set_option maxHeartbeats 1000000 in
theorem len64_any (x : Int) (w : World) (h : U64 x) : Calls Tryd.prog 53 #[.int .u64 x] w fun e w' => e = .returned (.int .i64 (Lib.bitLen x.toNat)) ∧ w' = w := by
  obtain ⟨h0, h1⟩ := h
  have hs := Lib.len8tab_size
  go_enter Tryd.func53, Tryd.ntmps53
  go_wp2
  all_goals (go_ret; refine ⟨congrArg Ending.returned (congrArg (Value.int IntKind.i64) ?_), rfl⟩)
  all_goals first
    | exact len_close x.toNat 56 _ (by omega) (by omega) (by omega) (by omega) _ _ (by omega) rfl
    | exact len_close x.toNat 48 _ (by omega) (by omega) (by omega) (by omega) _ _ (by omega) rfl
    | exact len_close x.toNat 40 _ (by omega) (by omega) (by omega) (by omega) _ _ (by omega) rfl
    | exact len_close x.toNat 32 _ (by omega) (by omega) (by omega) (by omega) _ _ (by omega) rfl
    | exact len_close x.toNat 24 _ (by omega) (by omega) (by omega) (by omega) _ _ (by omega) rfl
    | exact len_close x.toNat 16 _ (by omega) (by omega) (by omega) (by omega) _ _ (by omega) rfl
    | exact len_close x.toNat 8 _ (by omega) (by omega) (by omega) (by omega) _ _ (by omega) rfl
    | exact len_close x.toNat 0 _ (by omega) (by omega) (by omega) (by omega) _ _ (by omega) rfl
    | (have k := len_close x.toNat 0 0 (by omega) (by omega) (by omega) (by omega) x.toNat (by omega) (by omega) rfl; rwa [Int.zero_add] at k)

end Go.Proofs.YtfhoimfjfbbhaaaDoor

/-
  Plain mathematics of rounding: the nearest number, in units of 2 to the power -1374.
-/
namespace Go.Proofs.YtfhoimfjfbbhaaaDoor.Flo
set_option maxRecDepth 100000

/-- v by 2 ^ d, to the nearest, ties to even. -/
def rne (v d : Nat) : Nat := v / 2 ^ d + (if 2 ^ d < 2 * (v % 2 ^ d) ∨ (2 ^ d = 2 * (v % 2 ^ d) ∧ v / 2 ^ d % 2 = 1) then 1 else 0)
def lowest (g v : Nat) : Nat := if v < 2 ^ (g + 53) then g else v.log2 - 52
/-- The rung nearest to v units of 2 to the power (-1074 - g). -/
def rung (g v : Nat) : Nat := min ((lowest g v - g) * 4503599627370496 + rne v (lowest g v)) 9218868437227405312

theorem rne_mono {v u : Nat} (d : Nat) (h : v ≤ u) : rne v d ≤ rne u d := by
  have hp : 0 < 2 ^ d := Nat.two_pow_pos d
  have hq : v / 2 ^ d ≤ u / 2 ^ d := Nat.div_le_div_right h
  have ev := Nat.div_add_mod v (2 ^ d)
  have eu := Nat.div_add_mod u (2 ^ d)
  unfold rne
  generalize v / 2 ^ d = q at *
  generalize u / 2 ^ d = s at *
  generalize v % 2 ^ d = r at *
  generalize u % 2 ^ d = t at *
  by_cases e : q = s
  · subst e
    have hr : r ≤ t := by omega
    split <;> split <;> omega
  · split <;> split <;> omega

theorem rne_le {v d : Nat} (h : v < 2 ^ (d + 53)) : rne v d ≤ 9007199254740992 := by
  have : v / 2 ^ d < 2 ^ 53 := (Nat.div_lt_iff_lt_mul (Nat.two_pow_pos d)).2 (by rw [← Nat.pow_add, Nat.add_comm]; exact h)
  unfold rne
  split <;> omega
theorem rne_ge {v d : Nat} (h : 2 ^ (d + 52) ≤ v) : 4503599627370496 ≤ rne v d := by
  have : 2 ^ 52 ≤ v / 2 ^ d := (Nat.le_div_iff_mul_le (Nat.two_pow_pos d)).2 (by rw [← Nat.pow_add, Nat.add_comm]; exact h)
  unfold rne
  split <;> omega

theorem rne_scale (v d s : Nat) : rne (v * 2 ^ s) (d + s) = rne v d := by
  have hs : 0 < 2 ^ s := Nat.two_pow_pos s
  unfold rne
  rw [Nat.pow_add, Nat.mul_div_mul_right _ _ hs, Nat.mul_mod_mul_right]
  have e1 : 2 ^ d * 2 ^ s < 2 * (v % 2 ^ d * 2 ^ s) ↔ 2 ^ d < 2 * (v % 2 ^ d) := by
    rw [← Nat.mul_assoc]
    exact Nat.mul_lt_mul_right hs
  have e2 : 2 ^ d * 2 ^ s = 2 * (v % 2 ^ d * 2 ^ s) ↔ 2 ^ d = 2 * (v % 2 ^ d) := by
    rw [← Nat.mul_assoc]
    exact ⟨fun k => Nat.eq_of_mul_eq_mul_right hs k, fun k => congrArg (· * 2 ^ s) k⟩
  simp only [e1, e2]
theorem rne_exact (v d : Nat) : rne (v * 2 ^ d) d = v := by
  have h := rne_scale v 0 d
  rw [Nat.zero_add] at h
  rw [h]
  unfold rne
  simp [Nat.mod_one]
theorem rne_small {v d : Nat} (h : 2 * v < 2 ^ d) : rne v d = 0 := by
  unfold rne
  rw [Nat.div_eq_of_lt (by omega), Nat.mod_eq_of_lt (by omega), if_neg (by omega)]

theorem log2_bounds {v : Nat} (h : v ≠ 0) : 2 ^ v.log2 ≤ v ∧ v < 2 ^ (v.log2 + 1) := ⟨Nat.log2_self_le h, Nat.lt_log2_self⟩
theorem log2_of {v k : Nat} (h1 : 2 ^ k ≤ v) (h2 : v < 2 ^ (k + 1)) : v.log2 = k :=
  (Nat.log2_eq_iff (by have := Nat.two_pow_pos k; omega)).2 ⟨h1, h2⟩

theorem lowest_low {g v : Nat} (h : v < 2 ^ (g + 53)) : lowest g v = g := if_pos h
theorem lowest_high {g v d : Nat} (hd : g < d) (h1 : 2 ^ (d + 52) ≤ v) (h2 : v < 2 ^ (d + 53)) : lowest g v = d := by
  have h3 : 2 ^ (g + 53) ≤ 2 ^ (d + 52) := Nat.pow_le_pow_right (by decide) (by omega)
  unfold lowest
  rw [if_neg (by omega), log2_of h1 h2]
  omega

/-- Where the lowest digit that is kept lies. -/
theorem lowest_spec (g v : Nat) : g ≤ lowest g v ∧ v < 2 ^ (lowest g v + 53) ∧ (g < lowest g v → 2 ^ (lowest g v + 52) ≤ v) := by
  unfold lowest
  split
  · rename_i h
    exact ⟨Nat.le_refl _, h, fun k => absurd k (Nat.lt_irrefl _)⟩
  · rename_i h
    have hv : v ≠ 0 := by intro e; subst e; exact h (Nat.two_pow_pos _)
    obtain ⟨b1, b2⟩ := log2_bounds hv
    have hl : g + 53 ≤ v.log2 := by
      rcases Nat.lt_or_ge v.log2 (g + 53) with k | k
      · exfalso; exact h (Nat.lt_of_lt_of_le b2 (Nat.pow_le_pow_right (by decide) k))
      · exact k
    refine ⟨by omega, ?_, fun _ => ?_⟩
    · rw [show v.log2 - 52 + 53 = v.log2 + 1 by omega]; exact b2
    · rw [show v.log2 - 52 + 52 = v.log2 by omega]; exact b1

theorem ladder (g l m a b : Nat) (h1 : l = m → a ≤ b) (h2 : l < m → a ≤ 9007199254740992 ∧ 4503599627370496 ≤ b) (h3 : l ≤ m) (h4 : g ≤ l) :
    min ((l - g) * 4503599627370496 + a) 9218868437227405312 ≤ min ((m - g) * 4503599627370496 + b) 9218868437227405312 := by
  rcases Nat.lt_or_ge l m with k | k
  · obtain ⟨k1, k2⟩ := h2 k
    omega
  · have e : l = m := by omega
    have := h1 e
    subst e
    omega
theorem rung_mono (g : Nat) {v u : Nat} (h : v ≤ u) : rung g v ≤ rung g u := by
  obtain ⟨a1, a2, a3⟩ := lowest_spec g v
  obtain ⟨b1, b2, b3⟩ := lowest_spec g u
  unfold rung
  refine ladder g _ _ _ _ (fun k => ?_) (fun k => ⟨rne_le a2, rne_ge (b3 (Nat.lt_of_le_of_lt a1 k))⟩) ?_ a1
  · rw [k]
    exact rne_mono _ h
  · rcases Nat.lt_or_ge (lowest g u) (lowest g v) with k | k
    · exfalso
      have h1 := a3 (Nat.lt_of_le_of_lt b1 k)
      have h2 : 2 ^ (lowest g u + 53) ≤ 2 ^ (lowest g v + 52) := Nat.pow_le_pow_right (by decide) (by generalize lowest g u = l at k ⊢; generalize lowest g v = m at k ⊢; omega)
      exact absurd (Nat.lt_of_lt_of_le b2 (Nat.le_trans h2 (Nat.le_trans h1 h))) (Nat.lt_irrefl _)
    · exact k
theorem rung_le (g v : Nat) : rung g v ≤ 9218868437227405312 := Nat.min_le_right _ _
/-- What lies far below the least number. -/
theorem rung_tiny {g v : Nat} (h : 2 * v ≤ 2 ^ g) : rung g v = 0 := by
  have hp : 2 ^ g < 2 ^ (g + 53) := Nat.pow_lt_pow_right (by decide) (by omega)
  have h0 := Nat.two_pow_pos g
  have e : lowest g v = g := lowest_low (by omega)
  unfold rung
  rw [e]
  have : rne v g = 0 := by
    unfold rne
    rw [Nat.div_eq_of_lt (by omega), Nat.mod_eq_of_lt (by omega)]
    simp only [Nat.zero_mod]
    rw [if_neg (by omega)]
  rw [this]
  omega
/-- What is too great. -/
theorem rung_huge {g v : Nat} (h : 2 ^ (g + 2098) ≤ v) : rung g v = 9218868437227405312 := by
  have e : rung g (2 ^ (g + 2098)) = 9218868437227405312 := by
    have l : lowest g (2 ^ (g + 2098)) = g + 2046 := lowest_high (by omega) (Nat.le_refl _) (Nat.pow_lt_pow_right (by decide) (by omega))
    have r : rne (2 ^ (g + 2098)) (g + 2046) = 4503599627370496 := by
      rw [show 2 ^ (g + 2098) = 4503599627370496 * 2 ^ (g + 2046) from by rw [show g + 2098 = 52 + (g + 2046) by omega, Nat.pow_add], rne_exact]
    unfold rung
    rw [l, r]
    omega
  have h1 := rung_mono g h
  have h2 := rung_le g v
  omega
/-- Units that are finer by a power of two. -/
theorem rung_scale (g v s : Nat) : rung (g + s) (v * 2 ^ s) = rung g v := by
  obtain ⟨a1, a2, a3⟩ := lowest_spec g v
  have e : lowest (g + s) (v * 2 ^ s) = lowest g v + s := by
    have hs := Nat.two_pow_pos s
    have l2 : v * 2 ^ s < 2 ^ (lowest g v + s + 53) := by
      rw [show lowest g v + s + 53 = lowest g v + 53 + s by omega, Nat.pow_add]; exact Nat.mul_lt_mul_of_pos_right a2 hs
    rcases Nat.lt_or_ge g (lowest g v) with k | k
    · refine lowest_high (by omega) ?_ l2
      rw [show lowest g v + s + 52 = lowest g v + 52 + s by omega, Nat.pow_add]; exact Nat.mul_le_mul_right _ (a3 k)
    · have : lowest g v = g := by omega
      rw [this] at l2 ⊢
      exact lowest_low l2
  unfold rung
  rw [e, rne_scale, show lowest g v + s - (g + s) = lowest g v - g by omega]

/-! The length of a number in bits. -/
theorem bitLen_log : ∀ x : Nat, x ≠ 0 → x < 2 ^ 64 → Lib.bitLen x = x.log2 + 1 := by
  intro x
  induction x using Nat.strongRecOn with
  | _ x ih =>
    intro h0 h1
    rw [Lib.bitLen_half x h0 h1, Nat.log2_def]
    by_cases h : 2 ≤ x
    · rw [if_pos h, ih (x / 2) (by omega) (by omega) (by omega)]
      omega
    · have : x = 1 := by omega
      subst this
      decide
theorem bitLen_bounds {x : Nat} (h0 : x ≠ 0) (h1 : x < 18446744073709551616) : 1 ≤ Lib.bitLen x ∧ Lib.bitLen x ≤ 64 ∧ 2 ^ (Lib.bitLen x - 1) ≤ x ∧ x < 2 ^ Lib.bitLen x := by
  have e := bitLen_log x h0 (by omega)
  obtain ⟨b1, b2⟩ := log2_bounds h0
  have : x.log2 < 64 := (Nat.log2_lt h0).2 (by omega)
  rw [e]
  exact ⟨by omega, by omega, by simpa using b1, b2⟩

/-! What the code reckons. -/
def roundedN (f d : Nat) (more : Bool) : Nat := if 64 < d then 0 else f / 2 ^ d + (if 2 ^ (d - 1) < f % 2 ^ d ∨ (f % 2 ^ d = 2 ^ (d - 1) ∧ (more = true ∨ f / 2 ^ d % 2 = 1)) then 1 else 0)

theorem roundedN_false {f d : Nat} (hf : f < 2 ^ 64) (hd : 1 ≤ d) : roundedN f d false = rne f d := by
  unfold roundedN
  split
  · rename_i h
    refine (rne_small ?_).symm
    have : 2 ^ 65 ≤ 2 ^ d := Nat.pow_le_pow_right (by decide) h
    omega
  · obtain ⟨k, rfl⟩ := Nat.exists_eq_add_of_le hd
    unfold rne
    rw [show 1 + k - 1 = k by omega, Nat.add_comm 1 k]
    have e : 2 ^ (k + 1) = 2 * 2 ^ k := Nat.pow_succ'
    simp only [Bool.false_eq_true, false_or]
    have i1 : (2 ^ k < f % 2 ^ (k + 1)) ↔ 2 ^ (k + 1) < 2 * (f % 2 ^ (k + 1)) := by omega
    have i2 : (f % 2 ^ (k + 1) = 2 ^ k) ↔ 2 ^ (k + 1) = 2 * (f % 2 ^ (k + 1)) := by omega
    simp only [i1, i2]
theorem roundedN_true {f d : Nat} (hf : f < 2 ^ 64) (hd : 1 ≤ d) : roundedN f d true = rne (2 * f + 1) (d + 1) := by
  unfold roundedN
  split
  · rename_i h
    refine (rne_small ?_).symm
    have : 2 ^ 66 ≤ 2 ^ (d + 1) := Nat.pow_le_pow_right (by decide) (by omega)
    omega
  · obtain ⟨k, rfl⟩ := Nat.exists_eq_add_of_le hd
    unfold rne
    rw [show 1 + k - 1 = k by omega, Nat.add_comm 1 k]
    have e : 2 ^ (k + 1) = 2 * 2 ^ k := Nat.pow_succ'
    have e2 : 2 ^ (k + 1 + 1) = 2 * 2 ^ (k + 1) := Nat.pow_succ'
    have q : (2 * f + 1) / 2 ^ (k + 1 + 1) = f / 2 ^ (k + 1) := by
      rw [e2, ← Nat.div_div_eq_div_mul, show (2 * f + 1) / 2 = f by omega]
    have r : (2 * f + 1) % 2 ^ (k + 1 + 1) = 2 * (f % 2 ^ (k + 1)) + 1 := by
      have h1 := Nat.div_add_mod (2 * f + 1) (2 ^ (k + 1 + 1))
      have h2 := Nat.div_add_mod f (2 ^ (k + 1))
      rw [q, e2, Nat.mul_assoc] at h1
      rw [e2]
      omega
    rw [q, r]
    simp only [true_or, and_true]
    have i : (2 ^ k < f % 2 ^ (k + 1) ∨ f % 2 ^ (k + 1) = 2 ^ k) ↔ (2 ^ (k + 1 + 1) < 2 * (2 * (f % 2 ^ (k + 1)) + 1) ∨ (2 ^ (k + 1 + 1) = 2 * (2 * (f % 2 ^ (k + 1)) + 1) ∧ f / 2 ^ (k + 1) % 2 = 1)) := by
      have : 0 < 2 ^ k := Nat.two_pow_pos k
      generalize f / 2 ^ (k + 1) % 2 = z
      omega
    simp only [i]

end Go.Proofs.YtfhoimfjfbbhaaaDoor.Flo

/-
  Parts of 32 bits in memory, and the walks of the landed functions over them: trimmed, partsOf, timesAnd, bitLen, compare, minus.
-/
namespace Go.Proofs.YtfhoimfjfbbhaaaDoor
set_option maxRecDepth 100000
open Go.RowKit Pt

theorem info32 : (Tryd.prog.info? 64).map (fun i => (i.zero, i.size, i.bytes)) = some (some (.int .u32 0), 1, 4) := by kernel_rfl

def c32 (ds : List Nat) : List Value := ds.map fun (d : Nat) => Value.int .u32 (d : Int)
/-- The slice v, all of block g's beginning, holds the parts ds. -/
def PU (w : World) (g : Nat) (v : Value) (ds : List Nat) : Prop :=
  ∃ cap, v = .slice (some ⟨g, 0, none⟩) ds.length cap ∧ Sm ds ∧ w.ownsRow 0 64 1 v ds.length (c32 ds)
/-- The slice v holds the number n, without noughts at the top. -/
def PR (w : World) (g : Nat) (v : Value) (n : Nat) : Prop := ∃ ds, PU w g v ds ∧ pv ds = n ∧ Tr ds

theorem c32_length (ds : List Nat) : (c32 ds).length = ds.length := by unfold c32; simp
theorem c32_set (ds : List Nat) (j d : Nat) : (c32 ds).set j (.int .u32 (d : Int)) = c32 (ds.set j d) := by unfold c32; rw [List.map_set]
theorem c32_one (ds : List Nat) : ∀ u ∈ c32 ds, u.oneCell' = true := by
  intro u hu
  unfold c32 at hu
  obtain ⟨d, _, rfl⟩ := List.mem_map.1 hu
  rfl
theorem PU.lt {w : World} {g : Nat} {v : Value} {ds : List Nat} (h : PU w g v ds) : g < w.heap.size := by
  obtain ⟨cap, rfl, _, h3⟩ := h
  exact (h3.lt g rfl).2
theorem PR.lt {w : World} {g : Nat} {v : Value} {n : Nat} (h : PR w g v n) : g < w.heap.size := by
  obtain ⟨ds, h1, _⟩ := h; exact h1.lt
theorem PU.cap {w : World} {g cap k : Nat} {ds : List Nat} (h : PU w g (.slice (some ⟨g, 0, none⟩) k cap) ds) : k = ds.length ∧ k ≤ cap ∧ cap ≤ maxLen := by
  obtain ⟨cap', e, _, h3⟩ := h
  simp at e
  rcases h3.2 with ⟨k, _⟩ | ⟨g', cap', cur, e2, _, _, r1, r2, _⟩
  · simp at k
  · simp at e2
    obtain ⟨rfl, rfl⟩ := e
    exact ⟨rfl, by omega, by omega⟩
theorem PU.cell {w : World} {g : Nat} {v : Value} {ds : List Nat} (h : PU w g v ds) {j : Nat} (hj : j < ds.length) : w.cell? ⟨g, j, none⟩ = some (.int .u32 (ds.getD j 0 : Nat)) := by
  obtain ⟨cap, rfl, _, h3⟩ := h
  rw [h3.cellAt j (by omega), c32, List.getElem?_map, List.getElem?_eq_getElem hj, List.getD_eq_getElem?_getD, List.getElem?_eq_getElem hj]
  rfl
theorem PU.frozen {w : World} {g : Nat} {v : Value} {ds : List Nat} (h : PU w g v ds) (j : Nat) : w.frozen? ⟨g, j, none⟩ = false := by
  obtain ⟨cap, rfl, _, h3⟩ := h
  exact h3.frozenAt j
theorem PU.stored {w : World} {g : Nat} {v : Value} {ds : List Nat} (h : PU w g v ds) {j d : Nat} (hd : d < 4294967296) : PU (w.setCell ⟨g, j, none⟩ (.int .u32 (d : Int))) g v (ds.set j d) := by
  obtain ⟨cap, rfl, h2, h3⟩ := h
  refine ⟨cap, by rw [List.length_set], sm_set h2 hd, ?_⟩
  have := (h3.stored j (.int .u32 (d : Int))).1
  rw [c32_set] at this
  rw [List.length_set]
  exact this
theorem ownsRow_far {w w' : World} {e s n g : Nat} {v : Value} {xs : List Value} (h : w.ownsRow 0 e s v n xs) (hg : w'.heap[g]? = w.heap[g]?) (hv : v.ownBlock = some g) : w'.ownsRow 0 e s v n xs := by
  refine ⟨h.1, ?_⟩
  rcases h.2 with hn | ⟨g', cap, cur, rfl, h0, hg', rest⟩
  · exact .inl hn
  · refine .inr ⟨g', cap, cur, rfl, h0, ?_, rest⟩
    have e : g' = g := by simpa [Value.ownBlock] using hv
    rw [e, hg, ← e]
    exact hg'
theorem PU.other {w w' : World} {g b : Nat} {v : Value} {ds : List Nat} (h : PU w g v ds) (hg : w.grownBy w' (some b)) (hb : g ≠ b) : PU w' g v ds := by
  have hl := h.lt
  obtain ⟨cap, rfl, h2, h3⟩ := h
  exact ⟨cap, rfl, h2, ownsRow_far h3 (hg.block g hl (by simpa using hb)) rfl⟩
theorem PR.other {w w' : World} {g b : Nat} {v : Value} {n : Nat} (h : PR w g v n) (hg : w.grownBy w' (some b)) (hb : g ≠ b) : PR w' g v n := by
  obtain ⟨ds, h1, h2⟩ := h
  exact ⟨ds, h1.other hg hb, h2⟩
theorem PU.below {w w' : World} {B g : Nat} {v : Value} {ds : List Nat} (h : PU w g v ds) (hg : Below B w w') (hb : g < B) : PU w' g v ds := by
  obtain ⟨cap, rfl, h2, h3⟩ := h
  exact ⟨cap, rfl, h2, ownsRow_far h3 (hg.block g hb) rfl⟩
theorem PR.below {w w' : World} {B g : Nat} {v : Value} {n : Nat} (h : PR w g v n) (hg : Below B w w') (hb : g < B) : PR w' g v n := by
  obtain ⟨ds, h1, h2⟩ := h
  exact ⟨ds, h1.below hg hb, h2⟩
theorem PU.take {w : World} {g k cap : Nat} {ds : List Nat} (h : PU w g (.slice (some ⟨g, 0, none⟩) ds.length cap) ds) (hk : k ≤ ds.length) : PU w g (.slice (some ⟨g, 0, none⟩) k cap) (ds.take k) := by
  obtain ⟨cap', e, h2, h3⟩ := h
  have hl : (ds.take k).length = k := by rw [List.length_take]; omega
  refine ⟨cap, by rw [hl], sm_take k h2, ?_⟩
  rw [hl]
  refine ⟨by rw [c32_length, hl]; omega, ?_⟩
  rcases h3.2 with ⟨c, _⟩ | ⟨g', cap2, cur, e2, h0, hg, r1, r2, r3, r4⟩
  · simp at c
  · simp at e2
    obtain ⟨rfl, rfl⟩ := e2
    refine .inr ⟨g, cap, cur, rfl, h0, hg, by omega, r2, r3, ?_⟩
    have : List.take (k * 1) cur.toList = List.take (k * 1) (List.take (ds.length * 1) cur.toList) := by rw [List.take_take, Nat.min_eq_left (by omega)]
    rw [this, r4, Nat.mul_one]
    unfold c32
    rw [List.map_take]
theorem gb_refl (w : World) (r : Option Nat) : w.grownBy w r := ⟨rfl, rfl, rfl, Nat.le_refl _, fun _ _ _ => rfl⟩
theorem gb_trans {a b c : World} {r : Option Nat} (h : a.grownBy b r) (k : b.grownBy c r) : a.grownBy c r :=
  ⟨k.os.trans h.os, k.tape.trans h.tape, k.output.trans h.output, Nat.le_trans h.size k.size, fun i hi hn => (k.block i (Nat.lt_of_lt_of_le hi h.size) hn).trans (h.block i hi hn)⟩
theorem gb_new {a b c : World} {g g' : Nat} (h : a.grownBy b (some g)) (k : b.grownBy c (some g')) (hg : g' = g ∨ a.heap.size ≤ g') : a.grownBy c (some g) :=
  ⟨k.os.trans h.os, k.tape.trans h.tape, k.output.trans h.output, Nat.le_trans h.size k.size, fun i hi hn =>
    (k.block i (Nat.lt_of_lt_of_le hi h.size) (by
      rcases hg with e | e
      · rw [e]; exact hn
      · intro c; simp at c; omega)).trans (h.block i hi hn)⟩
theorem gb_set (w : World) (g j : Nat) (u : Value) : w.grownBy (w.setCell ⟨g, j, none⟩ u) (some g) :=
  ⟨rfl, rfl, rfl, by simp, fun k _ hk => Below.heap_setCell w ⟨g, j, none⟩ u k (fun e => hk (by rw [e]))⟩
theorem gb_drew {a b : World} {r : Option Nat} (h : a.grownBy b r) (n : Nat) : a.grownBy (b.drewN n) r := ⟨h.os, h.tape, h.output, h.size, h.block⟩

theorem borrow_bits {x y d b b2 : Nat} (hx : x < 4294967296) (hy : y < 4294967296) (hd : d < 4294967296) (hb : b ≤ 1) (hb2 : b2 ≤ 1) (h : d + y + b = x + 4294967296 * b2) :
    (((4294967295 ^^^ x) &&& y) ||| ((4294967295 ^^^ (x ^^^ y)) &&& d)) / 2147483648 = b2 := by
  rw [show (2147483648 : Nat) = 2 ^ 31 from rfl, ← Nat.shiftRight_eq_div_pow, Nat.shiftRight_or_distrib, Nat.shiftRight_and_distrib, Nat.shiftRight_and_distrib, Nat.shiftRight_xor_distrib, Nat.shiftRight_xor_distrib, Nat.shiftRight_xor_distrib]
  simp only [Nat.shiftRight_eq_div_pow]
  have e1 : x / 2 ^ 31 = 0 ∨ x / 2 ^ 31 = 1 := by omega
  have e2 : y / 2 ^ 31 = 0 ∨ y / 2 ^ 31 = 1 := by omega
  have e3 : d / 2 ^ 31 = 0 ∨ d / 2 ^ 31 = 1 := by omega
  have e4 : b2 = 0 ∨ b2 = 1 := by omega
  rcases e1 with e1 | e1 <;> rcases e2 with e2 | e2 <;> rcases e3 with e3 | e3 <;> rcases e4 with e4 | e4 <;> rw [e1, e2, e3, e4] <;> first | decide | (exfalso; omega)
theorem borrow_int {x y d b b2 : Nat} (hx : x < 4294967296) (hy : y < 4294967296) (hd : d < 4294967296) (hb : b ≤ 1) (hb2 : b2 ≤ 1) (h : d + y + b = x + 4294967296 * b2) :
    bits .or .u32 (bits .and .u32 (bits .xor .u32 IntKind.u32.max (x : Int)) (y : Int)) (bits .and .u32 (bits .xor .u32 IntKind.u32.max (bits .xor .u32 (x : Int) (y : Int))) (d : Int)) / 2147483648 = (b2 : Int) := by
  have x1 : 4294967295 ^^^ x < 2 ^ 32 := Nat.xor_lt_two_pow (by decide) hx
  have x2 : x ^^^ y < 2 ^ 32 := Nat.xor_lt_two_pow hx hy
  have x3 : 4294967295 ^^^ (x ^^^ y) < 2 ^ 32 := Nat.xor_lt_two_pow (by decide) x2
  have x4 : (4294967295 ^^^ x) &&& y < 2 ^ 32 := Nat.and_lt_two_pow _ hy
  have x5 : (4294967295 ^^^ (x ^^^ y)) &&& d < 2 ^ 32 := Nat.and_lt_two_pow _ hd
  rw [show IntKind.u32.max = ((4294967295 : Nat) : Int) from rfl, u32_xor_nat x y hx hy, u32_xor_nat _ _ (by decide) hx, u32_xor_nat _ _ (by decide) x2, u32_and_nat _ _ x1 hy, u32_and_nat _ _ x3 hd, u32_or_nat _ _ x4 x5]
  rw [show (2147483648 : Int) = ((2147483648 : Nat) : Int) from rfl, ← Int.natCast_ediv, borrow_bits hx hy hd hb hb2 h]
set_option maxHeartbeats 400000 in
theorem sub32_any (x y b d b2 : Nat) (w : World) (hx : x < 4294967296) (hy : y < 4294967296) (hb : b ≤ 1) (hd : d < 4294967296) (hb2 : b2 ≤ 1) (h : d + y + b = x + 4294967296 * b2) :
    Calls Tryd.prog 49 #[.int .u32 x, .int .u32 y, .int .u32 b] w fun e w' => e = .returned (.tuple #[.int .u32 (d : Int), .int .u32 (b2 : Int)]) ∧ w' = w := by
  have t1 : ((x : Int) - (y : Int) - (b : Int)) % 4294967296 = (d : Int) := by omega
  have t2 := borrow_int hx hy hd hb hb2 h
  clear h
  go_enter Tryd.func49, Tryd.ntmps49
  go_wp2
  go_ret2
  exact ⟨rfl, rfl⟩

set_option maxHeartbeats 400000 in
theorem trimmed_any (g cap : Nat) (ds : List Nat) (w : World) (hP : PU w g (.slice (some ⟨g, 0, none⟩) ds.length cap) ds) :
    Calls Tryd.prog 40 #[.slice (some ⟨g, 0, none⟩) ds.length cap] w fun e w' => ∃ v', e = .returned v' ∧ PR w g v' (pv ds) ∧ w' = w := by
  obtain ⟨l, hl⟩ : ∃ l, l = ds.length := ⟨_, rfl⟩
  have hc := hP.cap.2
  have hcm := hc.2
  unfold maxLen at hcm
  have HC : Hid (∀ j, j < ds.length → w.cell? ⟨g, j, none⟩ = some (.int .u32 (ds.getD j 0 : Nat))) := fun j hj => hP.cell hj
  have hlc := hc.1
  rw [← hl] at HC hlc ⊢
  have HP : Hid (∀ k, k ≤ l → PU w g (.slice (some ⟨g, 0, none⟩) k cap) (ds.take k)) := fun k hk => hP.take (by omega)
  clear hP hc
  go_enter Tryd.func40, Tryd.ntmps40
  go_wp2_with fail
  go_loop [0] (fun t => ∃ k : Nat, k ≤ l ∧ t = .slice (some ⟨g, 0, none⟩) k cap ∧ pv (ds.take k) = pv ds) (fun t => match t with | .slice _ k _ => k | _ => 0)
  case atStart => exact ⟨l, Nat.le_refl _, rfl, by rw [take_all hl]⟩
  case round =>
    obtain ⟨k, hk, rfl, hn⟩ := hrel
    cases k with
    | zero =>
      go_wp2
      go_ret
      exact ⟨_, rfl, ⟨_, HP.out 0 (Nat.zero_le _), hn, Or.inl (by simp)⟩, rfl⟩
    | succ k =>
      have hcl := HC.out k (by omega)
      have HN : Hid (pv (ds.take (k + 1)) = pv ds) := hn
      clear hn
      by_cases c : ds.getD k 0 = 0
      · rw [c] at hcl
        go_wp2
        go_round
        case rel => exact ⟨k, by omega, rfl, trim_step HN.out c⟩
        case measure => simp
      · obtain ⟨d, hd⟩ : ∃ d, d = ds.getD k 0 := ⟨_, rfl⟩
        rw [← hd] at hcl
        have hcz : ((d : Int) == 0) = false := by rw [beq_eq_false_iff_ne]; omega
        have HR : Hid (PR w g (.slice (some ⟨g, 0, none⟩) (k + 1) cap) (pv ds)) := ⟨_, HP.out (k + 1) hk, HN.out, trim_end (by omega) c⟩
        clear hd c
        go_wp2
        go_ret
        exact ⟨_, rfl, HR.out, rfl⟩

end Go.Proofs.YtfhoimfjfbbhaaaDoor

/-
  The walks of timesAnd, minus, compare, bitLen, partsOf and Clone over parts.
-/
namespace Go.Proofs.YtfhoimfjfbbhaaaDoor
set_option maxRecDepth 100000
open Go.RowKit Pt

theorem pu_made (w : World) (x y : Nat) (hx : x < 4294967296) (hy : y < 4294967296) : PU (w.alloc (.cells #[.int .u32 (x : Int), .int .u32 (y : Int)] 64)) w.heap.size (.slice (some ⟨w.heap.size, 0, none⟩) 2 2) [x, y] := by
  refine ⟨2, rfl, ?_, rfl, .inr ⟨w.heap.size, 2, _, rfl, Nat.zero_le _, heap_alloc_new w _, Nat.le_refl _, by unfold maxLen; omega, rfl, rfl⟩⟩
  intro d hd
  simp at hd
  omega
theorem pr_empty (w : World) : PR (w.alloc (.cells #[] 64)) w.heap.size (.slice (some ⟨w.heap.size, 0, none⟩) 0 0) 0 :=
  ⟨[], ⟨0, rfl, by intro d hd; simp at hd, rfl, .inr ⟨w.heap.size, 0, _, rfl, Nat.zero_le _, heap_alloc_new w _, Nat.le_refl _, by unfold maxLen; omega, rfl, rfl⟩⟩, rfl, Or.inl rfl⟩

set_option maxHeartbeats 400000 in
theorem partsOf_any (n : Nat) (w : World) (hn : n < 18446744073709551616) :
    Calls Tryd.prog 36 #[.int .u64 n] w fun e w' => ∃ v', e = .returned v' ∧ PR w' w.heap.size v' n ∧ Below w.heap.size w w' := by
  obtain ⟨x, hx⟩ : ∃ x, x = n % 4294967296 := ⟨_, rfl⟩
  obtain ⟨y, hy⟩ : ∃ y, y = n / 4294967296 := ⟨_, rfl⟩
  have t1 : (n : Int) % 4294967296 = (x : Int) := by omega
  have t2 : (n : Int) / 4294967296 = (y : Int) := by omega
  have t3 : (y : Int) % 4294967296 = (y : Int) := by omega
  have hP := pu_made w x y (by omega) (by omega)
  have HV : Hid (pv [x, y] = n) := by show pv [x, y] = n; simp [pv]; omega
  have hy2 : y < 4294967296 := by omega
  clear hx hy
  go_enter Tryd.func36, Tryd.ntmps36
  go_wp2_with (go_at_call 40; refine (trimmed_any w.heap.size 2 [x, y] _ hP).mono ?_; rintro e w' ⟨v', rfl, hR, rfl⟩)
  go_ret
  rw [HV.out] at hR
  exact ⟨_, rfl, hR, (Below.refl _ _).alloc (Nat.le_refl _) _⟩

set_option maxHeartbeats 1000000 in
theorem timesAnd_any (v : Value) (g n by' more K : Nat) (w : World) (hR : PR w g v n) (hn : n < 2 ^ K) (hK : K ≤ 1000000) (hb1 : 1 ≤ by') (hb2 : by' < 4294967296) (hm : more < 4294967296) :
    Calls Tryd.prog 37 #[v, .int .u32 by', .int .u32 more] w fun e w' => ∃ v' g', e = .returned v' ∧ PR w' g' v' (n * by' + more) ∧ w.grownBy w' (some g) ∧ (g' = g ∨ w.heap.size ≤ g') := by
  obtain ⟨ds, hP, hv, ht⟩ := hR
  have hgl := hP.lt
  have hlen : ds.length ≤ 1000001 := by have := len_bound (K := K) ht (by omega); omega
  obtain ⟨l, hl⟩ : ∃ l, l = ds.length := ⟨_, rfl⟩
  have hsm : Sm ds := hP.choose_spec.2.1
  obtain ⟨cap, hcap⟩ : ∃ cap, v = .slice (some ⟨g, 0, none⟩) l cap := by obtain ⟨cap, e, _⟩ := hP; exact ⟨cap, by rw [hl]; exact e⟩
  subst hcap
  obtain ⟨i0, hi, hz0, hz1, hz2⟩ := info_parts info32
  have HV : Hid (pv ds = n) := hv
  have HD : Hid (∀ j, j < l → ds.getD j 0 < 4294967296) := fun j _ => sm_getD j hsm
  have HT : Hid (Tr ds ∧ Sm ds ∧ l = ds.length) := ⟨ht, hsm, hl⟩
  have hl2 : l ≤ 1000001 := by omega
  have hcap := hP.cap.2
  have hcm := hcap.2
  have hcl := hcap.1
  unfold maxLen at hcm
  clear hv ht hsm hlen hn hl hcap
  go_enter Tryd.func37, Tryd.ntmps37
  go_wp2_with fail
  go_loopw [7, 14] (fun c t wr => ∃ (k cc : Nat) (rs : List Nat), k ≤ l ∧ t = .int .i64 k ∧ c = .int .u64 cc ∧ cc < 4294967296 ∧ PU wr g (.slice (some ⟨g, 0, none⟩) l cap) rs ∧ rs.length = l ∧
      (∀ j, k ≤ j → rs.getD j 0 = ds.getD j 0) ∧ Hid (pv (rs.take k) + 4294967296 ^ k * cc = pv (ds.take k) * by' + more) ∧ w.grownBy wr (some g)) (fun _ t _ => l - (intOf t).toNat)
  case atStart => exact ⟨0, more, ds, Nat.zero_le _, rfl, rfl, hm, hP, HT.out.2.2.symm, fun _ _ => rfl, by show pv _ + _ = _; simp [pv], gb_refl _ _⟩
  case round =>
    obtain ⟨k, cc, rs, hk, rfl, rfl, hcc, hPr, hrl, hrest, HI, hgb⟩ := hrel
    have HE : Hid (∀ j, k ≤ j → rs.getD j 0 = ds.getD j 0) := hrest
    clear hrest
    have HRL : Hid (rs.length = l) := hrl
    by_cases c : k < l
    · have hcell := hPr.cell (j := k) (by omega)
      have hfr := hPr.frozen k
      have hd := HD.out k c
      obtain ⟨d, hdd⟩ : ∃ d, d = ds.getD k 0 := ⟨_, rfl⟩
      rw [HE.out k (Nat.le_refl _), ← hdd] at hcell
      rw [← hdd] at hd
      obtain ⟨m1, m2⟩ := times_cc hcc hd hb2
      have m1i : (d : Int) * (by' : Int) ≤ 18446744065119617025 := by rw [← Int.natCast_mul]; omega
      have m0i : 0 ≤ (d : Int) * (by' : Int) := by rw [← Int.natCast_mul]; omega
      obtain ⟨y, hy⟩ : ∃ y, y = (cc + d * by') % 4294967296 := ⟨_, rfl⟩
      obtain ⟨c2, hc2⟩ : ∃ c2, c2 = (cc + d * by') / 4294967296 := ⟨_, rfl⟩
      have t1 : ((cc : Int) + (d : Int) * (by' : Int)) % 4294967296 = (y : Int) := by rw [hy]; simp
      have t2 : ((cc : Int) + (d : Int) * (by' : Int)) / 4294967296 = (c2 : Int) := by rw [hc2]; simp
      have HS : Hid (pv ((rs.set k y).take (k + 1)) + 4294967296 ^ (k + 1) * c2 = pv (ds.take (k + 1)) * by' + more) := by
        show pv _ + _ = _
        rw [hy, hc2, hdd]
        exact times_step (by omega) HI.out
      have hc3 : c2 < 4294967296 := by omega
      have hy3 : y < 4294967296 := by omega
      clear hdd hy hc2 m2 hrl
      go_wp2
      go_roundw
      case rel => exact ⟨k + 1, c2, rs.set k y, by omega, by go_num, rfl, hc3, hPr.stored hy3, by rw [List.length_set]; exact HRL.out, fun j hj => by rw [pget_set (by omega)]; exact HE.out j (by omega), HS, gb_trans hgb (gb_set _ _ _ _)⟩
      case measure => simp [intOf]; omega
    · have HK : Hid (k = l) := by show k = l; omega
      have HF : Hid (pv rs + 4294967296 ^ l * cc = n * by' + more) := by
        show pv rs + _ = _
        have := HI.out
        rw [HK.out, take_all HRL.out.symm, take_all HT.out.2.2, HV.out] at this
        exact this
      by_cases cz : cc = 0
      · subst cz
        have HQ : Hid (PR wr g (.slice (some ⟨g, 0, none⟩) l cap) (n * by' + more)) := by
          have h0 : pv rs = n * by' + more := by have := HF.out; rw [Nat.mul_zero, Nat.add_zero] at this; exact this
          exact ⟨rs, hPr, h0, tr_times (by rw [HRL.out, HT.out.2.2]) HT.out.1 hb1 (by rw [h0, HV.out])⟩
        go_wp2
        go_ret
        exact ⟨_, g, rfl, HQ.out, hgb, Or.inl rfl⟩
      · have hcz : ((cc : Int) == 0) = false := by rw [beq_eq_false_iff_ne]; omega
        have t3 : (cc : Int) % 4294967296 = (cc : Int) := by omega
        obtain ⟨cap', e', hs', hown⟩ := hPr
        have hown2 : (wr.alloc (.cells #[.int .u32 (cc : Int)] 64)).ownsRow 0 64 1 (.slice (some ⟨g, 0, none⟩) l cap) l (c32 rs) := by
          have := ownsRow_far (w' := wr.alloc (.cells #[.int .u32 (cc : Int)] 64)) hown (Below.heap_alloc wr _ g (Nat.lt_of_lt_of_le hgl hgb.size)) rfl
          rw [HRL.out] at this
          exact this
        have HM : Hid (Sm rs) := hs'
        clear hown e' hs' hrl HI
        go_wp2_with (at_builtin; refine wpList_append_lies _ rfl _ _ 61 rfl 0 64 i0 (.int .u32 0) 1 4 Tryd.underlying61 hi hz0 hz1 hz2 rfl (by decide) _ l (c32 rs) rfl hown2 ⟨wr.heap.size, 0, none⟩ 1 1 [.int .u32 (cc : Int)] rfl rfl (cell_one_new _ _ _) (by intro u hu; simp at hu; subst hu; rfl) (by decide) (by unfold maxLen; omega) (by omega) (Nat.zero_le _) _ rfl ?_)
        intro g2 cap2 w1 hown' hgrow hat _
        have HQ : Hid (∃ g', PR w1 g' (.slice (some ⟨g2, 0, none⟩) (l + 1) cap2) (n * by' + more) ∧ w.grownBy w1 (some g) ∧ (g' = g ∨ w.heap.size ≤ g')) := by
          have e1 : c32 rs ++ [.int .u32 (cc : Int)] = c32 (rs ++ [cc]) := by unfold c32; rw [List.map_append]; rfl
          rw [e1] at hown'
          have hgr : w.grownBy w1 (some g) := gb_trans (gb_trans hgb (World.grownBy_alloc _ _ _)) hgrow
          refine ⟨g2, ⟨rs ++ [cc], ⟨cap2, by rw [List.length_append, HRL.out]; rfl, sm_snoc HM.out hcc, by rw [List.length_append, HRL.out]; exact hown'⟩, ?_, tr_snoc cz⟩, hgr, ?_⟩
          · rw [pv_snoc, HRL.out]; exact HF.out
          · rcases hat with h | h
            · left; simp [Value.ownBlock] at h; exact h.symm
            · right; have := hgb.size; first | omega | (simp at h; omega)
        clear hown' hgrow hat
        go_wp2
        go_ret
        obtain ⟨g', q⟩ := HQ.out
        exact ⟨_, g', rfl, q⟩

/-- As the program compares. -/
def cmpI (n m : Nat) : Int := if n < m then -1 else if n = m then 0 else 1
theorem cmpI_lt {n m : Nat} (h : n < m) : cmpI n m = -1 := by unfold cmpI; rw [if_pos h]
theorem cmpI_eq {n m : Nat} (h : n = m) : cmpI n m = 0 := by unfold cmpI; rw [if_neg (by omega), if_pos h]
theorem cmpI_gt {n m : Nat} (h : m < n) : cmpI n m = 1 := by unfold cmpI; rw [if_neg (by omega), if_neg (by omega)]

theorem nanInt_any (x : Int) (w : World) : Calls Tryd.prog 51 #[.int .i64 x] w fun e w' => e = .returned (.bool false) ∧ w' = w := by
  go_enter Tryd.func51, Tryd.ntmps51
  go_wp2
  go_ret
  exact ⟨by simp, rfl⟩
theorem nanU_any (x : Int) (w : World) : Calls Tryd.prog 52 #[.int .u32 x] w fun e w' => e = .returned (.bool false) ∧ w' = w := by
  go_enter Tryd.func52, Tryd.ntmps52
  go_wp2
  go_ret
  exact ⟨by simp, rfl⟩
theorem cmpInt_any (n m : Nat) (w : World) (h : n ≠ m) : Calls Tryd.prog 47 #[.int .i64 n, .int .i64 m] w fun e w' => e = .returned (.int .i64 (cmpI n m)) ∧ w' = w := by
  rcases Nat.lt_or_gt_of_ne h with c | c
  · rw [cmpI_lt c]
    have c2 : (n : Int) < (m : Int) := by omega
    go_enter Tryd.func47, Tryd.ntmps47
    go_wp2_with (go_at_call 51; refine (nanInt_any _ _).mono ?_; rintro e w' ⟨rfl, rfl⟩)
    go_ret
    exact ⟨rfl, rfl⟩
  · rw [cmpI_gt c]
    have c2 : ¬ (n : Int) < (m : Int) := by omega
    have c3 : (m : Int) < (n : Int) := by omega
    go_enter Tryd.func47, Tryd.ntmps47
    go_wp2_with (go_at_call 51; refine (nanInt_any _ _).mono ?_; rintro e w' ⟨rfl, rfl⟩)
    go_ret
    exact ⟨rfl, rfl⟩
theorem cmpU_any (n m : Nat) (w : World) (h : n ≠ m) : Calls Tryd.prog 48 #[.int .u32 n, .int .u32 m] w fun e w' => e = .returned (.int .i64 (cmpI n m)) ∧ w' = w := by
  rcases Nat.lt_or_gt_of_ne h with c | c
  · rw [cmpI_lt c]
    have c2 : (n : Int) < (m : Int) := by omega
    go_enter Tryd.func48, Tryd.ntmps48
    go_wp2_with (go_at_call 52; refine (nanU_any _ _).mono ?_; rintro e w' ⟨rfl, rfl⟩)
    go_ret
    exact ⟨rfl, rfl⟩
  · rw [cmpI_gt c]
    have c2 : ¬ (n : Int) < (m : Int) := by omega
    have c3 : (m : Int) < (n : Int) := by omega
    go_enter Tryd.func48, Tryd.ntmps48
    go_wp2_with (go_at_call 52; refine (nanU_any _ _).mono ?_; rintro e w' ⟨rfl, rfl⟩)
    go_ret
    exact ⟨rfl, rfl⟩

set_option maxHeartbeats 1000000 in
theorem compare_any (v u : Value) (g h n m : Nat) (w : World) (hR : PR w g v n) (hS : PR w h u m) :
    Calls Tryd.prog 43 #[v, u] w fun e w' => e = .returned (.int .i64 (cmpI n m)) ∧ ∃ q, w' = w.drewN q := by
  obtain ⟨ds, hP, hv, ht⟩ := hR
  obtain ⟨ms, hQ, hu, hs⟩ := hS
  have hsd : Sm ds := hP.choose_spec.2.1
  have hsm : Sm ms := hQ.choose_spec.2.1
  obtain ⟨l, hl⟩ : ∃ l, l = ds.length := ⟨_, rfl⟩
  obtain ⟨k, hk⟩ : ∃ l, l = ms.length := ⟨_, rfl⟩
  obtain ⟨cap, hcap⟩ : ∃ cap, v = .slice (some ⟨g, 0, none⟩) l cap := by obtain ⟨cap, e, _⟩ := hP; exact ⟨cap, by rw [hl]; exact e⟩
  obtain ⟨cap2, hcap2⟩ : ∃ cap, u = .slice (some ⟨h, 0, none⟩) k cap := by obtain ⟨cap, e, _⟩ := hQ; exact ⟨cap, by rw [hk]; exact e⟩
  subst hcap
  subst hcap2
  have hc1 := hP.cap.2
  have hc2 := hQ.cap.2
  have b1 : l ≤ 9223372036854775807 := by unfold maxLen at hc1; omega
  have b2 : k ≤ 9223372036854775807 := by unfold maxLen at hc2; omega
  have HC : Hid (∀ j, j < l → w.cell? ⟨g, j, none⟩ = some (.int .u32 (ds.getD j 0 : Nat))) := fun j hj => hP.cell (by omega)
  have HC2 : Hid (∀ j, j < k → w.cell? ⟨h, j, none⟩ = some (.int .u32 (ms.getD j 0 : Nat))) := fun j hj => hQ.cell (by omega)
  have HV : Hid (pv ds = n ∧ pv ms = m ∧ Tr ds ∧ Tr ms ∧ Sm ds ∧ Sm ms ∧ l = ds.length ∧ k = ms.length) := ⟨hv, hu, ht, hs, hsd, hsm, hl, hk⟩
  by_cases c : l = k
  · subst c
    clear hP hQ hv hu ht hs hsd hsm hl hk hc1 hc2
    go_enter Tryd.func43, Tryd.ntmps43
    go_wp2_with fail
    go_loopw [5] (fun t wr => ∃ (j : Nat) (q : Nat), j ≤ l ∧ t = .int .i64 ((j : Int) - 1) ∧ wr = w.drewN q ∧ Hid (pv (ds.drop j) = pv (ms.drop j))) (fun t _ => (intOf t + 1).toNat)
    case atStart =>
      refine ⟨l, 0, Nat.le_refl _, rfl, rfl, ?_⟩
      obtain ⟨_, _, _, _, _, _, e1, e2⟩ := HV.out
      show pv _ = pv _
      rw [List.drop_of_length_le (by omega), List.drop_of_length_le (by omega)]
    case round =>
      obtain ⟨j, q, hj, rfl, rfl, HI⟩ := hrel
      cases j with
      | zero =>
        have HE : Hid (cmpI n m = 0) := by
          obtain ⟨e1, e2, _⟩ := HV.out
          have := HI.out
          simp at this
          exact cmpI_eq (by omega)
        rw [show ((0 : Nat) : Int) - 1 = -1 from rfl]
        go_wp2
        go_ret
        exact ⟨by rw [HE.out]; rfl, q, rfl⟩
      | succ j =>
        obtain ⟨d, hd⟩ : ∃ d, d = ds.getD j 0 := ⟨_, rfl⟩
        obtain ⟨e, he⟩ : ∃ d, d = ms.getD j 0 := ⟨_, rfl⟩
        have c1 := HC.out j (by omega)
        have c2 := HC2.out j (by omega)
        rw [← hd] at c1
        rw [← he] at c2
        have t0 : ((j + 1 : Nat) : Int) - 1 = (j : Int) := by omega
        rw [t0]
        by_cases de : d = e
        · have HS : Hid (pv (ds.drop j) = pv (ms.drop j)) := by
            show pv _ = pv _
            rw [drop_succ ds j, drop_succ ms j, HI.out, ← hd, ← he, de]
          subst de
          clear hd he t0
          go_wp2_with fail
          go_quiet (fail)
          go_wp2
          go_roundw
          case rel => exact ⟨j, _, by omega, rfl, rfl, HS⟩
          case measure => simp [intOf]
        · have HE : Hid (cmpI d e = cmpI n m) := by
            obtain ⟨e1, e2, _, _, s1, s2, l1, l2⟩ := HV.out
            show cmpI d e = cmpI n m
            rcases Nat.lt_or_gt_of_ne de with x | x
            · rw [cmpI_lt x, cmpI_lt]
              rw [← e1, ← e2]
              exact cmp_at s1 (k := j) (by omega) (by omega) HI.out (by omega)
            · rw [cmpI_gt x, cmpI_gt]
              rw [← e1, ← e2]
              exact cmp_at s2 (k := j) (by omega) (by omega) HI.out.symm (by omega)
          have HCU : Hid (∀ w, Calls Tryd.prog 48 #[.int .u32 d, .int .u32 e] w fun e' w' => e' = .returned (.int .i64 (cmpI n m)) ∧ w' = w) := fun w => by
            have := cmpU_any d e w de
            rw [HE.out] at this
            exact this
          have hne : ((d : Int) == (e : Int)) = false := by rw [beq_eq_false_iff_ne]; omega
          clear hd he t0 de
          go_wp2_with fail
          go_quiet (fail)
          obtain ⟨wq, hwq⟩ : ∃ wq, wq = (w.drewN q).drewN nq := ⟨_, rfl⟩
          have c1q : wq.cell? ⟨g, j, none⟩ = some (.int .u32 (d : Int)) := by rw [hwq]; exact c1
          have c2q : wq.cell? ⟨h, j, none⟩ = some (.int .u32 (e : Int)) := by rw [hwq]; exact c2
          have HW : Hid (∀ t, ∃ q, wq.drewN t = w.drewN q) := fun t => ⟨q + nq + t, by rw [hwq]; unfold World.drewN; simp [Nat.add_assoc]⟩
          rw [← hwq]
          clear c1 c2 hwq
          go_wp2_with fail
          go_quiet ((go_at_call 48; exact Calls.quiet_of_same (HCU.out _)))
          go_wp2
          go_ret
          exact ⟨rfl, HW.out _⟩
  · have HE : Hid (cmpI l k = cmpI n m) := by
      show cmpI l k = cmpI n m
      rcases Nat.lt_or_gt_of_ne c with x | x
      · rw [cmpI_lt x, cmpI_lt]
        rw [← hv, ← hu]
        exact cmp_len hsd hs (by omega)
      · rw [cmpI_gt x, cmpI_gt]
        rw [← hv, ← hu]
        exact cmp_len hsm ht (by omega)
    have HCI : Hid (∀ w, Calls Tryd.prog 47 #[.int .i64 l, .int .i64 k] w fun e' w' => e' = .returned (.int .i64 (cmpI n m)) ∧ w' = w) := fun w => by
      have := cmpInt_any l k w c
      rw [HE.out] at this
      exact this
    have hne : ((l : Int) == (k : Int)) = false := by rw [beq_eq_false_iff_ne]; omega
    clear hP hQ hv hu ht hs hsd hsm hl hk hc1 hc2 c
    go_enter Tryd.func43, Tryd.ntmps43
    go_wp2_with (go_at_call 47; refine (HCI.out _).mono ?_; rintro e w' ⟨rfl, rfl⟩)
    go_ret
    exact ⟨rfl, 0, rfl⟩

end Go.Proofs.YtfhoimfjfbbhaaaDoor
