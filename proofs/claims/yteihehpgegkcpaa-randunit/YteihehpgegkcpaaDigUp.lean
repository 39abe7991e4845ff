/-
  The walk of the reference's Up.
-/
import Derived.Test.YteihehpgegkcpaaDigProd
namespace Go.Proofs.Yteihehpgegkcpaa
open Go.RowKit Dg

theorem D.news {w : World} {n l g cap : Nat} (h : D w (.slice (some ⟨g, 0, none⟩) l cap) n l) :
    ∃ ds : List Nat, ds.length = l ∧ Small16 ds ∧ val ds = n ∧ (cells ds).length = l * 1 ∧ (∀ w', Below w.heap.size w w' → ∀ j u, (cells ds)[j]? = some u → w'.cell? ((⟨g, 0, none⟩ : Addr).add j) = some u) := by
  obtain ⟨ds, g', cap', e, h2, h3, h4, h5⟩ := h
  refine ⟨ds, h2, h3, h4, by rw [cells_length]; omega, ?_⟩
  intro w' hb
  exact (ownsRow_below h5 hb (Nat.le_refl _)).cells (g := g) rfl

theorem up_val (q : Nat) (ds : List Nat) : val (List.replicate q 0 ++ ds) = 65536 ^ q * val ds := by
  rw [val_append, val_replicate, List.length_replicate]; omega
theorem up_small {q : Nat} {ds : List Nat} (h : Small16 ds) : Small16 (List.replicate q 0 ++ ds) := by
  intro x hx
  rcases List.mem_append.1 hx with k | k
  · exact small_replicate q x k
  · exact h x k
theorem up_eq (n q r : Nat) : 65536 ^ q * n * 2 ^ r = n * 2 ^ (16 * q + r) := by
  rw [pow16, Nat.pow_add]; grind
theorem cells_app (xs ys : List Nat) : cells xs ++ cells ys = cells (xs ++ ys) := by unfold cells; rw [List.map_append]

theorem D_one (w : World) (x : Nat) (hx : x < 65536) : D (w.alloc (.cells #[.int .u64 (x : Int)] 22)) (.slice (some ⟨w.heap.size, 0, none⟩) 1 1) x 1 :=
  ⟨[x], w.heap.size, 1, rfl, rfl, by intro y hy; simp at hy; omega, by simp [val], World.ownsRow_lit w #[.int .u64 (x : Int)] 1 (Nat.zero_le _) (by decide) rfl⟩

set_option maxHeartbeats 1000000 in
theorem up_walk (v : Value) (n l k q r x : Nat) (w : World) (hD : D w v n l) (hl : l ≤ 134217728) (hk : k ≤ 1073741824) (hq : (k : Int) / 16 = (q : Int)) (hr : (k : Int) % 16 = (r : Int)) (hqr : k = 16 * q + r)
    (_hr2 : r < 16) (hx : IntKind.u64.wrap (2 ^ r) = (x : Int)) (hx2 : x = 2 ^ r) (hx3 : x < 65536) :
    Calls Try.prog 30 #[v, .int .i64 k] w fun e w' => ∃ v', e = .returned v' ∧ D w' v' (n * 2 ^ k) (dlen (n * 2 ^ k)) ∧ Below w.heap.size w w' := by
  obtain ⟨i0, hi, hz0, hz1, hz2⟩ := info_parts infoU
  obtain ⟨g, cap, rfl, hg, hlc, hcm, -⟩ := hD.shape
  unfold maxLen at hcm
  obtain ⟨ds, hlen, hsm, hval, hcl, hnews⟩ := hD.news
  have HE : Hid (65536 ^ q * n * x = n * 2 ^ k) := by
    show _ = n * 2 ^ k
    rw [hx2, hqr, up_eq]
  have HQ : Hid (k = 16 * q + r) := hqr
  have hq2 : q ≤ 67108864 := by omega
  clear hqr hx2
  have HN : Hid (∀ w', Below w.heap.size w w' → ∀ j u, (cells ds)[j]? = some u → w'.cell? ((⟨g, 0, none⟩ : Addr).add j) = some u) := hnews
  clear hnews
  go_enter Try.func30, Try.ntmps30
  go_wp2_with (at_make; refine wpList_make_full _ rfl _ _ 42 rfl w.heap.size 22 i0 (.int .u64 0) 1 Try.underlying42 hi hz0 hz1 _ _ _ _ q rfl rfl (by omega) (by omega) (by rw [hz2]; omega) (by unfold maxLen; omega) (Nat.le_refl _) ?_)
  intro w1 hown1 hgrow1
  have hR := Row.made hown1
  have hb1 : Below w.heap.size w w1 := (Below.refl _ _).grown hgrow1 (Nat.le_refl _) (by simp)
  clear hown1 hgrow1
  go_wp2_with (at_builtin; refine wpList_append_own _ rfl _ _ 42 rfl w.heap.size 22 i0 (.int .u64 0) 1 8 Try.underlying42 hi hz0 hz1 hz2 rfl (by decide) _ q (cells (List.replicate q 0)) rfl hR.2.2 ⟨g, 0, none⟩ l cap (cells ds) rfl hcl (HN.out _ hb1) (cells_one _) (by unfold maxLen; omega) (by omega) hb1.size ?_)
  intro v2 w2 hown2 hgrow2 hnil2
  have hb2 : Below w.heap.size w w2 := hb1.grown hgrow2 hb1.size (by intro k hk; simp [Value.ownBlock] at hk; omega)
  have hd2 : D w2 v2 (65536 ^ q * n) (q + l) := by
    rw [cells_app] at hown2
    have := D.of_own (ownsRow_base hown2) hnil2 (up_small hsm)
    rw [up_val, hval] at this
    exact this
  clear hown2 hgrow2 hnil2
  have hd3 := hd2.below ((Below.refl w2.heap.size w2).alloc (Nat.le_refl _) (.cells #[.int .u64 (x : Int)] 22))
  have hd4 := D_one w2 x hx3
  have hb4 : Below w.heap.size w (w2.alloc (.cells #[.int .u64 (x : Int)] 22)) := hb2.alloc hb2.size _
  go_wp2_with fail
  refine (prod_any _ _ (65536 ^ q * n) (q + l) x 1 _ hd3 hd4 (by omega) (by omega)).mono ?_
  rintro e w5 ⟨v5, rfl, hd5, hb5⟩
  have hb6 : Below w.heap.size w w5 := hb4.trans (hb5.mono hb4.size)
  rw [HE.out] at hd5
  have hlen5 : dlen (n * 2 ^ k) ≤ 1073741824 := by
    have h1 := hD.lt
    have : n * 2 ^ k < 65536 ^ (l + q + 1) := by
      rw [pow16] at h1 ⊢
      have hp : 0 < 2 ^ k := Nat.two_pow_pos k
      have h2 : n * 2 ^ k < 2 ^ (16 * l) * 2 ^ k := Nat.mul_lt_mul_of_pos_right h1 hp
      rw [← Nat.pow_add] at h2
      refine Nat.lt_of_lt_of_le h2 (Nat.pow_le_pow_right (by decide) ?_)
      have := HQ.out
      omega
    have := dlen_le this
    omega
  clear hd2 hd3 hd4 hb2 hb4 hb5 hb1
  go_wp2_with fail
  refine (trim_any _ (n * 2 ^ k) _ _ hd5 hlen5).mono ?_
  rintro e w7 ⟨v7, rfl, hd7, hb7⟩
  go_wp2
  go_ret
  exact ⟨_, rfl, hd7, hb6.trans (hb7.mono hb6.size)⟩

theorem up_any (v : Value) (n l k : Nat) (w : World) (hD : D w v n l) (hl : l ≤ 134217728) (hk : k ≤ 1073741824) :
    Calls Try.prog 30 #[v, .int .i64 k] w fun e w' => ∃ v', e = .returned v' ∧ D w' v' (n * 2 ^ k) (dlen (n * 2 ^ k)) ∧ Below w.heap.size w w' := by
  have hp : 2 ^ (k % 16) ≤ 32768 := Nat.pow_le_pow_right (n := 2) (by decide) (show k % 16 ≤ 15 by omega)
  refine up_walk v n l k (k / 16) (k % 16) (2 ^ (k % 16)) w hD hl hk (by omega) (by omega) (by omega) (by omega) ?_ rfl (by omega)
  rw [IntKind.wrap_u64, show (2 : Int) ^ (k % 16) = ((2 ^ (k % 16) : Nat) : Int) by rw [Int.natCast_pow]; rfl]
  generalize 2 ^ (k % 16) = z at *
  omega

end Go.Proofs.Yteihehpgegkcpaa
