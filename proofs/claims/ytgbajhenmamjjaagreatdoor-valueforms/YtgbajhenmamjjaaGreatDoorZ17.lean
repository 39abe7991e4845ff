/-
  Ps1
-/
import Derived.Test.YtgbajhenmamjjaaGreatDoorZ16

/-
  The landed room about any number, walked.
-/
namespace Go.Proofs.YtgbajhenmamjjaaGreatDoor
set_option maxRecDepth 100000
open Go.RowKit Pt

set_option maxHeartbeats 4000000 in
theorem roomOf_any (exp : Int) (f up down bl : Nat) (ed : Bool) (w : World) (hf : f < 18446744073709551616) (h1 : -2000 ≤ exp) (h2 : exp ≤ 2000) (hbl : (bl = 1 ∧ f = 4503599627370496 ∧ -1074 < exp) ∨ (bl = 2 ∧ ¬ (f = 4503599627370496 ∧ -1074 < exp))) (HE : Hid (((f : Int) % 2 == 0) = ed))
    (hu : (up : Int) = max (exp - 2) 0) (hd : (down : Int) = max (-(exp - 2)) 0) (HP : Hid (f * 2 ^ (up + 2) < 2 ^ (64 + (up + 2)) ∧ 1 * 2 ^ down < 2 ^ (1 + down) ∧ bl * 2 ^ up < 2 ^ (2 + up) ∧ 2 * 2 ^ up < 2 ^ (2 + up))) :
    Calls Tryz.prog 41 #[.int .i64 exp, .int .u64 f] w fun e w' => ∃ g0 g1 g2 g3 v0 v1 v2 v3, e = .returned (.agg #[v0, v1, v2, v3, .bool ed]) ∧ PR w' g0 v0 (f * 2 ^ (up + 2)) ∧ PR w' g1 v1 (1 * 2 ^ down) ∧ PR w' g2 v2 (bl * 2 ^ up) ∧ PR w' g3 v3 (2 * 2 ^ up) ∧
      (g0 < g1 ∧ g1 < g2 ∧ g2 < g3 ∧ w.heap.size < g0) ∧ Below w.heap.size w w' := by
  obtain ⟨w0, hw0⟩ : ∃ w0, w0 = w.alloc (.cells #[.slice none 0 0, .slice none 0 0, .slice none 0 0, .slice none 0 0, .bool false] 61) := ⟨_, rfl⟩
  have HW0 : Hid (w0 = w.alloc (.cells #[.slice none 0 0, .slice none 0 0, .slice none 0 0, .slice none 0 0, .bool false] 61)) := hw0
  have hsz0 : w0.heap.size = w.heap.size + 1 := by rw [hw0]; simp
  have hdn : down ≤ 2100 := by omega
  have hup : up ≤ 2100 := by omega
  have hq : (exp < 2 ∨ exp = 2 ∨ 2 < exp) := by omega
  have hcase : (((f : Int) == 4503599627370496) = true ∧ -1074 < exp ∧ bl = 1) ∨ (((f : Int) == 4503599627370496) = true ∧ ¬ -1074 < exp ∧ bl = 2) ∨ (((f : Int) == 4503599627370496) = false ∧ bl = 2) := by
    by_cases c : f = 4503599627370496
    · have c1 : ((f : Int) == 4503599627370496) = true := by rw [beq_iff_eq]; omega
      by_cases c2 : -1074 < exp
      · exact Or.inl ⟨c1, c2, by omega⟩
      · exact Or.inr (Or.inl ⟨c1, c2, by omega⟩)
    · have c1 : ((f : Int) == 4503599627370496) = false := by rw [beq_eq_false_iff_ne]; omega
      exact Or.inr (Or.inr ⟨c1, by omega⟩)
  clear hbl
  rcases hcase with ⟨hb1, hx1, rfl⟩ | ⟨hb1, hx1, rfl⟩ | ⟨hb1, rfl⟩
  all_goals
    rcases hq with q1 | rfl | q1
    all_goals try (exfalso; omega)
    all_goals
        go_enter Tryz.func41, Tryz.ntmps41
        go_wp2_with fail
        rw [← hw0]
        clear hw0
        refine (partsOf_any f _ hf).mono ?_
        rintro e y0 ⟨a0, rfl, hA0, hBa0⟩
        have sA0 := hA0.lt
        have zA0 := hBa0.size
        go_wp2_with fail
        refine (timesTwos_at _ (up + 2) (by omega) a0 w0.heap.size f _ _ hA0 HP.out.1 (by omega) (by omega)).mono ?_
        rintro e x0 ⟨b0, g0, rfl, h0, hm0⟩
        have sB0 := h0.lt
        have zB0 := hm0.1.size
        have gB0 := hm0.ge (B := w0.heap.size) (by omega) (Nat.le_refl _)
        obtain ⟨l0, p0, rfl, _⟩ := h0.form
        have B0' : Below w0.heap.size w0 x0 := hBa0.trans (hm0.below (by omega) (Nat.le_refl _))
        go_wp2_with fail
        refine (partsOf_any 1 _ (by decide)).mono ?_
        rintro e y1 ⟨a1, rfl, hA1, hBa1⟩
        have sA1 := hA1.lt
        have zA1 := hBa1.size
        have h0_1 := h0.below hBa1 h0.lt
        go_wp2_with fail
        refine (timesTwos_at _ down (by omega) a1 x0.heap.size 1 _ _ hA1 HP.out.2.1 (by omega) (by omega)).mono ?_
        rintro e x1 ⟨b1, g1, rfl, h1, hm1⟩
        have sB1 := h1.lt
        have zB1 := hm1.1.size
        have gB1 := hm1.ge (B := x0.heap.size) (by omega) (Nat.le_refl _)
        have h0_1' := hm1.pr h0_1 (by omega)
        obtain ⟨l1, p1, rfl, _⟩ := h1.form
        have B1' : Below w0.heap.size w0 x1 := B0'.trans ((hBa1.trans (hm1.below (by omega) (Nat.le_refl _))).mono (by omega))
        go_wp2_with fail
        refine (partsOf_any _ _ (by decide)).mono ?_
        rintro e y2 ⟨a2, rfl, hA2, hBa2⟩
        have sA2 := hA2.lt
        have zA2 := hBa2.size
        have h0_2 := h0_1'.below hBa2 h0_1'.lt
        have h1_2 := h1.below hBa2 h1.lt
        go_wp2_with fail
        refine (timesTwos_at _ up (by omega) a2 x1.heap.size _ _ _ hA2 HP.out.2.2.1 (by omega) (by omega)).mono ?_
        rintro e x2 ⟨b2, g2, rfl, h2, hm2⟩
        have sB2 := h2.lt
        have zB2 := hm2.1.size
        have gB2 := hm2.ge (B := x1.heap.size) (by omega) (Nat.le_refl _)
        have h0_2' := hm2.pr h0_2 (by omega)
        have h1_2' := hm2.pr h1_2 (by omega)
        obtain ⟨l2, p2, rfl, _⟩ := h2.form
        have B2' : Below w0.heap.size w0 x2 := B1'.trans ((hBa2.trans (hm2.below (by omega) (Nat.le_refl _))).mono (by omega))
        go_wp2_with fail
        refine (partsOf_any 2 _ (by decide)).mono ?_
        rintro e y3 ⟨a3, rfl, hA3, hBa3⟩
        have sA3 := hA3.lt
        have zA3 := hBa3.size
        have h0_3 := h0_2'.below hBa3 h0_2'.lt
        have h1_3 := h1_2'.below hBa3 h1_2'.lt
        have h2_3 := h2.below hBa3 h2.lt
        go_wp2_with fail
        refine (timesTwos_at _ up (by omega) a3 x2.heap.size 2 _ _ hA3 HP.out.2.2.2 (by omega) (by omega)).mono ?_
        rintro e x3 ⟨b3, g3, rfl, h3, hm3⟩
        have sB3 := h3.lt
        have zB3 := hm3.1.size
        have gB3 := hm3.ge (B := x2.heap.size) (by omega) (Nat.le_refl _)
        have h0_3' := hm3.pr h0_3 (by omega)
        have h1_3' := hm3.pr h1_3 (by omega)
        have h2_3' := hm3.pr h2_3 (by omega)
        obtain ⟨l3, p3, rfl, _⟩ := h3.form
        have B3' : Below w0.heap.size w0 x3 := B2'.trans ((hBa3.trans (hm3.below (by omega) (Nat.le_refl _))).mono (by omega))
        have k0 : x3.cell? ⟨w.heap.size, 0, none⟩ = some (.slice none 0 0) := by rw [B3'.cell (p := ⟨w.heap.size, 0, none⟩) (by show w.heap.size < _; omega), HW0.out]; simp
        have k1 : x3.cell? ⟨w.heap.size, 1, none⟩ = some (.slice none 0 0) := by rw [B3'.cell (p := ⟨w.heap.size, 1, none⟩) (by show w.heap.size < _; omega), HW0.out]; simp
        have k2 : x3.cell? ⟨w.heap.size, 2, none⟩ = some (.slice none 0 0) := by rw [B3'.cell (p := ⟨w.heap.size, 2, none⟩) (by show w.heap.size < _; omega), HW0.out]; simp
        have k3 : x3.cell? ⟨w.heap.size, 3, none⟩ = some (.slice none 0 0) := by rw [B3'.cell (p := ⟨w.heap.size, 3, none⟩) (by show w.heap.size < _; omega), HW0.out]; simp
        have k4 : x3.cell? ⟨w.heap.size, 4, none⟩ = some (.bool false) := by rw [B3'.cell (p := ⟨w.heap.size, 4, none⟩) (by show w.heap.size < _; omega), HW0.out]; simp
        have fz0 : x3.frozen? ⟨w.heap.size, 0, none⟩ = false := by rw [B3'.frozen (p := ⟨w.heap.size, 0, none⟩) (by show w.heap.size < _; omega), HW0.out]; simp
        have fz1 : x3.frozen? ⟨w.heap.size, 1, none⟩ = false := by rw [B3'.frozen (p := ⟨w.heap.size, 1, none⟩) (by show w.heap.size < _; omega), HW0.out]; simp
        have fz2 : x3.frozen? ⟨w.heap.size, 2, none⟩ = false := by rw [B3'.frozen (p := ⟨w.heap.size, 2, none⟩) (by show w.heap.size < _; omega), HW0.out]; simp
        have fz3 : x3.frozen? ⟨w.heap.size, 3, none⟩ = false := by rw [B3'.frozen (p := ⟨w.heap.size, 3, none⟩) (by show w.heap.size < _; omega), HW0.out]; simp
        have fz4 : x3.frozen? ⟨w.heap.size, 4, none⟩ = false := by rw [B3'.frozen (p := ⟨w.heap.size, 4, none⟩) (by show w.heap.size < _; omega), HW0.out]; simp
        clear hm0 hm1 hm2 hm3 hBa0 hBa1 hBa2 hBa3 hA0 hA1 hA2 hA3
        go_wp2_with fail
        refine bodyPost_ret (v := .agg #[.slice (some ⟨g0, 0, none⟩) l0 p0, .slice (some ⟨g1, 0, none⟩) l1 p1, .slice (some ⟨g2, 0, none⟩) l2 p2, .slice (some ⟨g3, 0, none⟩) l3 p3, .bool ((f : Int) % 2 == 0)]) (by simp [results, Tryz.results41, go_sem, k0, k1, k2, k3, k4]) rfl ⟨g0, g1, g2, g3, _, _, _, _, by rw [HE.out], h0_3'.set5 (by omega) _ _ _ _ _, h1_3'.set5 (by omega) _ _ _ _ _, h2_3'.set5 (by omega) _ _ _ _ _, h3.set5 (by omega) _ _ _ _ _, by omega, ?_⟩
        have hB : Below w.heap.size w x3 := by
          have : Below w.heap.size w w0 := by rw [HW0.out]; exact (Below.refl _ _).alloc (Nat.le_refl _) _
          exact this.trans (B3'.mono (by omega))
        exact ((((hB.setCell (p := ⟨w.heap.size, 0, none⟩) (Nat.le_refl _) _).setCell (p := ⟨w.heap.size, 1, none⟩) (Nat.le_refl _) _).setCell (p := ⟨w.heap.size, 2, none⟩) (Nat.le_refl _) _).setCell (p := ⟨w.heap.size, 3, none⟩) (Nat.le_refl _) _).setCell (p := ⟨w.heap.size, 4, none⟩) (Nat.le_refl _) _

end Go.Proofs.YtgbajhenmamjjaaGreatDoor
