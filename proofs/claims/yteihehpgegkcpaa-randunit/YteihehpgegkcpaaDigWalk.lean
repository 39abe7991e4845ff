/-
  Digits in memory, and the walks of the reference's smallest functions over them: at, most, Trim.
-/
import Derived.Test.YteihehpgegkcpaaRows
import Derived.Test.YteihehpgegkcpaaDig
import Derived.WalkKit
import Derived.WalkSpells
import Derived.WalkLawsBesides
import Derived.Deep.Light
namespace Go.Proofs.Yteihehpgegkcpaa
open Go.RowKit Dg

theorem infoU : (Try.prog.info? 22).map (fun i => (i.zero, i.size, i.bytes)) = some (some (.int .u64 0), 1, 8) := by kernel_rfl

def cells (ds : List Nat) : List Value := ds.map fun (d : Nat) => Value.int .u64 (d : Int)
/-- The slice v holds digits of the number n, l of them. -/
def D (w : World) (v : Value) (n l : Nat) : Prop :=
  ∃ (ds : List Nat) (g cap : Nat), v = .slice (some ⟨g, 0, none⟩) l cap ∧ ds.length = l ∧ Small16 ds ∧ val ds = n ∧ w.ownsRow 0 22 1 v l (cells ds)

theorem ownsRow_below {w w' : World} {B e s n : Nat} {v : Value} {xs : List Value} (h : w.ownsRow 0 e s v n xs) (hb : Below B w w') (hB : w.heap.size ≤ B) : w'.ownsRow 0 e s v n xs := by
  refine ⟨h.1, ?_⟩
  rcases h.2 with hn | ⟨g, cap, cur, rfl, h0, hg, rest⟩
  · exact .inl hn
  · refine .inr ⟨g, cap, cur, rfl, h0, ?_, rest⟩
    rw [hb.block g (Nat.lt_of_lt_of_le (Array.getElem?_eq_some_iff.1 hg).1 hB)]
    exact hg
theorem D.below {w w' : World} {v : Value} {n l : Nat} (h : D w v n l) (hb : Below w.heap.size w w') : D w' v n l := by
  obtain ⟨ds, g, cap, h1, h2, h3, h4, h5⟩ := h
  exact ⟨ds, g, cap, h1, h2, h3, h4, ownsRow_below h5 hb (Nat.le_refl _)⟩
theorem D.lt {w : World} {v : Value} {n l : Nat} (h : D w v n l) : n < 65536 ^ l := by
  obtain ⟨ds, g, cap, h1, h2, h3, h4, h5⟩ := h
  rw [← h4, ← h2]; exact val_lt ds h3
/-- What a walk wants to know of it. -/
theorem D.shape {w : World} {v : Value} {n l : Nat} (h : D w v n l) : ∃ g cap, v = .slice (some ⟨g, 0, none⟩) l cap ∧ g < w.heap.size ∧ l ≤ cap ∧ cap ≤ maxLen ∧ ∀ i, i < l → w.cell? ⟨g, i, none⟩ = some (.int .u64 (dig n i : Nat)) := by
  obtain ⟨ds, g, cap, rfl, h2, h3, h4, h5⟩ := h
  have hb := h5.lt g rfl
  refine ⟨g, cap, rfl, hb.2, ?_, ?_, ?_⟩
  · rcases h5.2 with ⟨k, _⟩ | ⟨g', cap', cur, e, _, _, r1, r2, _⟩
    · simp at k
    · simp at e; omega
  · rcases h5.2 with ⟨k, _⟩ | ⟨g', cap', cur, e, _, _, r1, r2, _⟩
    · simp at k
    · simp at e; rw [e.2]; exact r2
  · intro i hi
    have hi2 : i < ds.length := by omega
    rw [h5.cellAt i (by omega), cells, List.getElem?_map, List.getElem?_eq_getElem hi2, val_getElem h3 hi2, h4]
    rfl

theorem at_any (v : Value) (n l : Nat) (i : Int) (w : World) (hD : D w v n l) (h0 : 0 ≤ i) :
    Calls Try.prog 35 #[v, .int .i64 i] w fun e w' => e = .returned (.int .u64 (dig n i.toNat : Nat)) ∧ w' = w := by
  obtain ⟨g, cap, rfl, hg, hlc, hcm, hcell⟩ := hD.shape
  have hlt := hD.lt
  unfold maxLen at hcm
  obtain ⟨k, rfl⟩ := Int.eq_ofNat_of_zero_le h0
  rw [Int.toNat_natCast]
  by_cases c : k < l
  · have hc := hcell k c
    clear hcell hlt
    generalize dig n k = d at *
    go_enter Try.func35, Try.ntmps35
    go_wp2
    go_ret
    exact ⟨rfl, rfl⟩
  · have hz : dig n k = 0 := dig_ge (Nat.lt_of_lt_of_le hlt (Nat.pow_le_pow_right (by decide) (by omega)))
    rw [hz]
    clear hcell hlt hz
    go_enter Try.func35, Try.ntmps35
    go_wp2
    go_ret
    exact ⟨rfl, rfl⟩

/-- The slice of no digits. -/
theorem D_empty (w : World) : D (w.alloc (.cells #[] 22)) (.slice (some ⟨w.heap.size, 0, none⟩) 0 0) 0 0 :=
  ⟨[], w.heap.size, 0, rfl, rfl, by intro x hx; simp at hx, rfl, World.ownsRow_made w #[] 0 (Nat.zero_le _) (by decide) rfl⟩

theorem cells_take (ds : List Nat) (k : Nat) : cells (ds.take k) = (cells ds).take k := by unfold cells; rw [List.map_take]
theorem cells_length (ds : List Nat) : (cells ds).length = ds.length := by unfold cells; simp
theorem cells_one (ds : List Nat) : ∀ u ∈ cells ds, u.oneCell' = true := by
  intro u hu
  unfold cells at hu
  obtain ⟨d, _, rfl⟩ := List.mem_map.1 hu
  rfl
/-- A made row, seen as digits. -/
theorem D.of_own {w : World} {v : Value} {ds : List Nat} {l : Nat} (h : w.ownsRow 0 22 1 v l (cells ds)) (hn : v ≠ .slice none 0 0) (hs : Small16 ds) : D w v (val ds) l := by
  have hl : ds.length = l := by have := h.1; rw [cells_length] at this; omega
  rcases h.2 with ⟨k, _⟩ | ⟨g, cap, cur, e, _⟩
  · exact absurd k hn
  · exact ⟨ds, g, cap, e, hl, hs, rfl, h⟩

theorem news_of_own {w : World} {g l cap k : Nat} {ds : List Nat} (h : w.ownsRow 0 22 1 (.slice (some ⟨g, 0, none⟩) l cap) l (cells ds)) (o : Obj) :
    ∀ j u, (cells (ds.take k))[j]? = some u → (w.alloc o).cell? ((⟨g, 0, none⟩ : Addr).add j) = some u := by
  intro j u hu
  refine (h.alloc o).cells (g := g) rfl j u ?_
  rw [cells_take, List.getElem?_take] at hu
  split at hu
  · exact hu
  · cases hu

theorem D.of_own_pos {w : World} {v : Value} {ds : List Nat} {l : Nat} (h : w.ownsRow 0 22 1 v l (cells ds)) (hn : 0 < l) (hs : Small16 ds) : D w v (val ds) l := by
  refine D.of_own h ?_ hs
  intro e
  rcases h.2 with ⟨_, k⟩ | ⟨g, cap, cur, e', _⟩
  · omega
  · rw [e] at e'; cases e'
/-- Behind an append onto a slice that was just made. -/
theorem below_fresh {w w1 : World} {o : Obj} {n c : Nat} (h : (w.alloc o).grownBy w1 (Value.ownBlock (.slice (some ⟨w.heap.size, 0, none⟩) n c))) : Below w.heap.size w w1 :=
  ((Below.refl w.heap.size w).alloc (Nat.le_refl _) o).grown h (by simp) (by intro k hk; simp [Value.ownBlock] at hk; omega)
theorem trim_close {w w1 : World} {v' : Value} {ds : List Nat} {n k : Nat} {o : Obj} (hown : w1.ownsRow 0 22 1 v' (k + 1) (cells (ds.take (k + 1))))
    (hgrow : (w.alloc o).grownBy w1 (Value.ownBlock (.slice (some ⟨w.heap.size, 0, none⟩) 0 0))) (hs : Small16 (ds.take (k + 1))) (hv : val (ds.take (k + 1)) = n ∧ k + 1 = dlen n) :
    D w1 v' n (dlen n) ∧ Below w.heap.size w w1 := by
  have hd := D.of_own_pos hown (by omega) hs
  rw [hv.1, hv.2] at hd
  exact ⟨hd, below_fresh hgrow⟩

set_option maxHeartbeats 400000 in
theorem trim_any (v : Value) (n l : Nat) (w : World) (hD : D w v n l) (hl : l ≤ 1073741824) :
    Calls Try.prog 33 #[v] w fun e w' => ∃ v', e = .returned v' ∧ D w' v' n (dlen n) ∧ Below w.heap.size w w' := by
  have hsh := hD.shape
  have hlt := hD.lt
  obtain ⟨ds, g, cap, rfl, hlen, hsm, hval, hown⟩ := hD
  obtain ⟨g', cap', hv', hg, hlc, hcm, hcell⟩ := hsh
  obtain ⟨rfl, rfl⟩ : g = g' ∧ cap = cap' := by simpa using hv'
  clear hv'
  unfold maxLen at hcm
  obtain ⟨i0, hi, hz0, hz1, hz2⟩ := info_parts infoU
  go_enter Try.func33, Try.ntmps33
  go_wp2
  go_loop [3] (fun t => ∃ k : Nat, k ≤ l ∧ t = .int .i64 k ∧ n < 65536 ^ k) (fun t => (intOf t).toNat)
  case atStart => exact ⟨l, Nat.le_refl _, rfl, hlt⟩
  case round =>
    obtain ⟨k, hk, rfl, hn⟩ := hrel
    cases k with
    | zero =>
      have hz : n = 0 := by simpa using hn
      clear hcell
      go_wp2
      go_ret
      refine ⟨_, rfl, ?_, (Below.refl _ _).alloc (Nat.le_refl _) _⟩
      exact D_empty w
    | succ k =>
      have hc := hcell k (by omega)
      clear hcell
      by_cases c : dig n k = 0
      · rw [c] at hc
        go_wp2
        go_round
        case rel => exact ⟨k, by omega, by go_num, lt_of_dig hn c⟩
        case measure => simp [intOf]
      · have hcz : (((dig n k : Nat) : Int) == 0) = false := by rw [beq_eq_false_iff_ne]; omega
        have hds : (cells (ds.take (k + 1))).length = (k + 1) * 1 := by rw [cells_length, List.length_take]; omega
        have HN : Hid (∀ j u, (cells (ds.take (k + 1)))[j]? = some u → (w.alloc (.cells #[] 22)).cell? ((⟨g, 0, none⟩ : Addr).add j) = some u) := news_of_own hown _
        have hm : (w.alloc (.cells #[] 22)).ownsRow 0 22 1 (.slice (some ⟨w.heap.size, 0, none⟩) 0 0) 0 [] := World.ownsRow_made w #[] 0 (Nat.zero_le _) (by decide) rfl
        have h1 := cells_one (ds.take (k + 1))
        have hv : val (ds.take (k + 1)) = n := by rw [val_take ds (k + 1) hsm (by omega), hval, Nat.mod_eq_of_lt hn]
        have hlast : k + 1 = dlen n := dlen_eq hn (Or.inr (by simpa using c))
        have HV : Hid (val (ds.take (k + 1)) = n ∧ k + 1 = dlen n) := ⟨hv, hlast⟩
        have hs := small_take (k + 1) hsm
        clear hv hlast
        go_wp2_with (at_builtin; refine wpList_append_own _ rfl _ _ 42 rfl 0 22 i0 (.int .u64 0) 1 8 Try.underlying42 hi hz0 hz1 hz2 rfl (by decide) _ 0 [] rfl hm ⟨g, 0, none⟩ (k + 1) cap (cells (ds.take (k + 1))) rfl hds HN.out h1 (by unfold maxLen; omega) (by omega) (by simp) ?_)
        intro v' w1 hown' hgrow _
        have R := trim_close hown' hgrow hs HV.out
        clear hown' hgrow
        go_wp2
        go_ret
        exact ⟨_, rfl, R⟩

end Go.Proofs.Yteihehpgegkcpaa
