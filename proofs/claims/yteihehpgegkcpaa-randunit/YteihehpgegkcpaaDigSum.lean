/-
  The walks of the reference's Digits and Sum.
-/
import Derived.Test.YteihehpgegkcpaaDigWalk
namespace Go.Proofs.Yteihehpgegkcpaa
open Go.RowKit Dg

theorem and16 (x : Nat) (h : x < 18446744073709551616) : bits .and .u64 (x : Int) 65535 = ((x % 65536 : Nat) : Int) := by
  rw [u64_and _ _ (Int.natCast_nonneg _) (by omega) (by decide) (by decide), Int.toNat_natCast, show (65535 : Int).toNat = 2 ^ 16 - 1 from by decide, Nat.and_two_pow_sub_one_eq_mod]

theorem val_four (a b c d : Nat) : val [a, b, c, d] = a + 65536 * (b + 65536 * (c + 65536 * d)) := by simp [val]

theorem digits_any (n : Nat) (w : World) (h : n < 18446744073709551616) :
    Calls Try.prog 23 #[.int .u64 n] w fun e w' => ∃ v', e = .returned v' ∧ D w' v' n 4 ∧ Below w.heap.size w w' := by
  obtain ⟨a, ha⟩ : ∃ a, a = n % 65536 := ⟨_, rfl⟩
  obtain ⟨b, hb⟩ : ∃ a, a = n / 65536 % 65536 := ⟨_, rfl⟩
  obtain ⟨c, hc⟩ : ∃ a, a = n / 4294967296 % 65536 := ⟨_, rfl⟩
  obtain ⟨d, hd⟩ : ∃ a, a = n / 281474976710656 := ⟨_, rfl⟩
  have h1 : bits .and .u64 (n : Int) 65535 = (a : Int) := by rw [and16 n h, ha]
  have h2 : bits .and .u64 ((n : Int) / 65536) 65535 = (b : Int) := by
    have := and16 (n / 65536) (by omega)
    rw [hb, ← this]; rfl
  have h3 : bits .and .u64 ((n : Int) / 4294967296) 65535 = (c : Int) := by
    have := and16 (n / 4294967296) (by omega)
    rw [hc, ← this]; rfl
  have h4 : (n : Int) / 281474976710656 = (d : Int) := by rw [hd]; rfl
  have R : D (w.alloc (.cells #[.int .u64 a, .int .u64 b, .int .u64 c, .int .u64 d] 22)) (.slice (some ⟨w.heap.size, 0, none⟩) 4 4) n 4 := by
    refine ⟨[a, b, c, d], w.heap.size, 4, rfl, rfl, ?_, ?_, World.ownsRow_lit w #[.int .u64 a, .int .u64 b, .int .u64 c, .int .u64 d] 4 (Nat.zero_le _) (by decide) rfl⟩
    · intro x hx
      simp at hx
      omega
    · rw [val_four]; omega
  clear ha hb hc hd
  go_enter Try.func23, Try.ntmps23
  go_wp2
  go_ret
  exact ⟨_, rfl, R, (Below.refl _ _).alloc (Nat.le_refl _) _⟩

theorem ownsRow_base {w : World} {B e s n : Nat} {v : Value} {xs : List Value} (h : w.ownsRow B e s v n xs) : w.ownsRow 0 e s v n xs := by
  refine ⟨h.1, ?_⟩
  rcases h.2 with hn | ⟨g, cap, cur, rfl, h0, rest⟩
  · exact .inl hn
  · exact .inr ⟨g, cap, cur, rfl, Nat.zero_le _, rest⟩
theorem cells_snoc (ds : List Nat) (d : Nat) : cells ds ++ [.int .u64 (d : Int)] = cells (ds ++ [d]) := by unfold cells; simp
/-- One new cell, where an append lays it. -/
theorem one_new (w : World) (u : Value) (t : TypeId) : ∀ j x, [u][j]? = some x → (w.alloc (.cells #[u] t)).cell? ((⟨w.heap.size, 0, none⟩ : Addr).add j) = some x := by
  intro j x hj
  match j, hj with
  | 0, hj => simp at hj; subst hj; simp [Addr.add]

/-- What a round of Sum does to what was gathered. -/
theorem sum_step {w wr w1 : World} {v v' : Value} {os : List Nat} {k d : Nat} {B : Nat} (hown : wr.ownsRow B 22 1 v k (cells os)) (hb : Below B w wr) (hB : B ≤ wr.heap.size) {o : Obj}
    (hown' : w1.ownsRow B 22 1 v' (k + 1) (cells os ++ [.int .u64 (d : Int)])) (hgrow : (wr.alloc o).grownBy w1 v.ownBlock) :
    w1.ownsRow B 22 1 v' (k + 1) (cells (os ++ [d])) ∧ Below B w w1 ∧ B ≤ w1.heap.size := by
  rw [cells_snoc] at hown'
  refine ⟨hown', (hb.alloc hB o).grown hgrow (by simp; omega) (fun g hg => (hown.lt g hg).1), ?_⟩
  have := hgrow.size
  simp at this
  omega
theorem sum_math {n m k c p q : Nat} {os : List Nat} (hp : p = dig n k) (hq : q = dig m k) (hl : os.length = k) (h : val os + 65536 ^ k * c = n % 65536 ^ k + m % 65536 ^ k) :
    val (os ++ [(p + q + c) % 65536]) + 65536 ^ (k + 1) * ((p + q + c) / 65536) = n % 65536 ^ (k + 1) + m % 65536 ^ (k + 1) := by
  rw [val_snoc, hl, dig_step n k, dig_step m k, ← hp, ← hq, Nat.pow_succ]
  have e : 65536 ^ k * ((p + q + c) % 65536) + 65536 ^ k * 65536 * ((p + q + c) / 65536) = 65536 ^ k * p + 65536 ^ k * q + 65536 ^ k * c := by
    rw [Nat.mul_assoc, ← Nat.mul_add, ← Nat.mul_add, ← Nat.mul_add, Nat.mod_add_div]
  omega

theorem sum_end {w : World} {v : Value} {os : List Nat} {n m j c L : Nat} (h : w.ownsRow 0 22 1 v (j + 1) (cells (os ++ [c]))) (hs : Small16 os) (hc : c ≤ 1) (hl : os.length = j) (hj : j = L)
    (hn : n < 65536 ^ L) (hm : m < 65536 ^ L) (hv : val os + 65536 ^ j * c = n % 65536 ^ j + m % 65536 ^ j) : D w v (n + m) (j + 1) := by
  have hd := D.of_own_pos h (by omega) (small_snoc hs (by omega))
  rw [val_snoc, hl, hv, hj, Nat.mod_eq_of_lt hn, Nat.mod_eq_of_lt hm] at hd
  rw [hj]
  exact hd

end Go.Proofs.Yteihehpgegkcpaa
