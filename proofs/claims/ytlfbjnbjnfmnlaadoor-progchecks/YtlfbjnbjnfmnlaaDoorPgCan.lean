/-
  Layer 13: the reference's can, walked: the letters of an order's operands say what the landed table says.
-/
import Derived.Test.YtlfbjnbjnfmnlaaDoorPgFlat
namespace Go.Proofs.YtlfbjnbjnfmnlaaDoor
set_option maxRecDepth 100000
open Go.RowKit Txt Pg

def opnd (x : Ins) (k : Nat) : Int := if k = 0 then x.a else if k = 1 then x.b else x.c
/-- How many a letter's operand is one of. -/
def rngL (L : Lens) (c : UInt8) : Int := if c = 82 then L.rg else if c = 75 then L.nk else if c = 85 then L.nu else if c = 80 then L.np else if c = 79 then L.nc else if c = 78 then 31 else 0
def letB (L : Lens) (x : Ins) (u : List UInt8) : Bool := (List.range u.length).all fun k => inB (opnd x k) (rngL L (u.getD k 0))
def canB (L : Lens) (x : Ins) : Bool := isOp x.op && letB L x (usesT x.op) && (!(x.op == 32) || decide (x.b < L.rg - x.a)) && (!(x.op == 36 || x.op == 37) || decide (x.a < L.rg - 2))

theorem uses_len (op : Int) : (usesT op).length ≤ 3 := by
  have h : ∀ u ∈ usesL, u.length ≤ 3 := by decide
  unfold usesT
  rw [List.getD_eq_getElem?_getD]
  cases e : usesL[op.toNat]? with
  | none => simp
  | some s => exact h s (List.mem_of_getElem? e)
theorem uses_let (op : Int) : ∀ c ∈ usesT op, c = 82 ∨ c = 75 ∨ c = 85 ∨ c = 80 ∨ c = 79 ∨ c = 78 := by
  have h : ∀ u ∈ usesL, ∀ c ∈ u, c = 82 ∨ c = 75 ∨ c = 85 ∨ c = 80 ∨ c = 79 ∨ c = 78 := by decide
  unfold usesT
  rw [List.getD_eq_getElem?_getD]
  cases e : usesL[op.toNat]? with
  | none => intro c hc; cases hc
  | some s => exact h s (List.mem_of_getElem? e)

/-- The two say the same. -/
theorem can_ord (L : Lens) (x : Ins) (h : 0 ≤ L.rg) : canB L x = ordB L x := by
  obtain ⟨op, a, b, c⟩ := x
  obtain ⟨rg, nu, nc, nk, np⟩ := L
  by_cases ho : isOp op = true
  · have hc : op = 0 ∨ op = 1 ∨ op = 2 ∨ op = 3 ∨ op = 4 ∨ op = 5 ∨ op = 6 ∨ op = 7 ∨ op = 8 ∨ op = 9 ∨ op = 10 ∨ op = 11 ∨ op = 12 ∨ op = 13 ∨ op = 14 ∨ op = 15 ∨ op = 16 ∨ op = 17 ∨ op = 18 ∨ op = 19 ∨ op = 20 ∨ op = 21 ∨ op = 22 ∨ op = 23 ∨ op = 24 ∨ op = 25 ∨ op = 26 ∨ op = 27 ∨ op = 28 ∨ op = 29 ∨ op = 30 ∨ op = 31 ∨ op = 32 ∨ op = 33 ∨ op = 34 ∨ op = 35 ∨ op = 36 ∨ op = 37 := by
      unfold isOp at ho
      simp at ho
      omega
    clear ho
    rw [Bool.eq_iff_iff]
    simp only at h
    rcases hc with rfl | rfl | rfl | rfl | rfl | rfl | rfl | rfl | rfl | rfl | rfl | rfl | rfl | rfl | rfl | rfl | rfl | rfl | rfl | rfl | rfl | rfl | rfl | rfl | rfl | rfl | rfl | rfl | rfl | rfl | rfl | rfl | rfl | rfl | rfl | rfl | rfl | rfl
    all_goals
      simp [canB, ordB, letB, usesT, usesL, rowOf, ordL, okO, isOp, opnd, rngL, rngZ, inB, List.range, List.range.loop]
      try omega
  · have h1 : isOp op = false := by simpa using ho
    unfold canB ordB
    simp [h1]

set_option maxHeartbeats 1000000 in
theorem operand_any (op a b c : Int) (k : Nat) (w : World) (hk : k < 3) : Calls Tryd.prog 43 #[.agg #[.int .i64 op, .int .i64 a, .int .i64 b, .int .i64 c], .int .i64 k] w fun e w' => e = .returned (.int .i64 (opnd ⟨op, a, b, c⟩ k)) ∧ Below w.heap.size w w' := by
  have hB : Hid (∀ o, Below w.heap.size w (w.alloc o)) := fun o => (Below.refl _ _).alloc (Nat.le_refl _) _
  have h3 : k = 0 ∨ k = 1 ∨ k = 2 := by omega
  clear hk
  rcases h3 with rfl | rfl | rfl
  · rw [show ((0 : Nat) : Int) = 0 from rfl, show opnd ⟨op, a, b, c⟩ 0 = a from rfl]
    go_enter Tryd.func43, Tryd.ntmps43
    go_wp2
    go_ret
    exact ⟨rfl, hB.out _⟩
  · rw [show ((1 : Nat) : Int) = 1 from rfl, show opnd ⟨op, a, b, c⟩ 1 = b from rfl]
    go_enter Tryd.func43, Tryd.ntmps43
    go_wp2
    go_ret
    exact ⟨rfl, hB.out _⟩
  · rw [show ((2 : Nat) : Int) = 2 from rfl, show opnd ⟨op, a, b, c⟩ 2 = c from rfl]
    go_enter Tryd.func43, Tryd.ntmps43
    go_wp2
    go_ret
    exact ⟨rfl, hB.out _⟩

theorem letB_no (L : Lens) (x : Ins) (u : List UInt8) (k : Nat) (hk : k < u.length) (h : inB (opnd x k) (rngL L (u.getD k 0)) = false) : letB L x u = false := by
  unfold letB
  rw [Bool.eq_false_iff]
  intro e
  have := List.all_eq_true.1 e k (by simpa using hk)
  rw [h] at this
  cases this
theorem letB_yes (L : Lens) (x : Ins) (u : List UInt8) (h : ∀ k, k < u.length → inB (opnd x k) (rngL L (u.getD k 0)) = true) : letB L x u = true := by
  unfold letB
  exact List.all_eq_true.2 fun k hk => h k (by simpa using hk)

set_option maxHeartbeats 8000000 in
theorem can_any (op a b c : Int) (pa rg : Int) (au ac ak ap : Option Addr) (nu cu nc cc nk ck np cp : Nat) (w : World) (h0 : 0 ≤ rg) (hg : i64 rg) (ha : i64 a) :
    Calls Tryd.prog 90 #[.agg #[.int .i64 pa, .int .i64 rg, .slice au nu cu, .slice ac nc cc, .slice ak nk ck, .slice ap np cp], .agg #[.int .i64 op, .int .i64 a, .int .i64 b, .int .i64 c]] w fun e w' => e = .returned (.bool (canB ⟨rg, nu, nc, nk, np⟩ ⟨op, a, b, c⟩)) ∧ Below w.heap.size w w' := by
  have hR : canB ⟨rg, nu, nc, nk, np⟩ ⟨op, a, b, c⟩ = (isOp op && letB ⟨rg, nu, nc, nk, np⟩ ⟨op, a, b, c⟩ (usesT op) && (!(op == 32) || decide (b < rg - a)) && (!(op == 36 || op == 37) || decide (a < rg - 2))) := rfl
  rw [hR]
  clear hR
  unfold i64 at hg ha
  have hI := fun w => ris_any op w
  obtain ⟨w0, hw0⟩ : ∃ w0, w0 = (w.alloc (.cells #[.int .i64 pa, .int .i64 rg, .slice au nu cu, .slice ac nc cc, .slice ak nk ck, .slice ap np cp] 31)).alloc (.cells #[.int .i64 op, .int .i64 a, .int .i64 b, .int .i64 c] 53) := ⟨_, rfl⟩
  have HB0 : Hid (Below w.heap.size w w0) := by rw [hw0]; exact ((Below.refl _ w).alloc (Nat.le_refl _) _).alloc (by simp) _
  have HA : Hid (∀ j, w0.cell? ⟨w.heap.size, j, none⟩ = (#[.int .i64 pa, .int .i64 rg, .slice au nu cu, .slice ac nc cc, .slice ak nk ck, .slice ap np cp] : Array Value)[j]?) := by
    intro j
    rw [hw0, World.cell?_alloc_lt _ _ _ (by simp), World.cell?_alloc_new]
  have HD : Hid (∀ j, w0.cell? ⟨w.heap.size + 1, j, none⟩ = (#[.int .i64 op, .int .i64 a, .int .i64 b, .int .i64 c] : Array Value)[j]?) := by
    intro j
    rw [hw0, World.cell?_alloc_at _ _ _ _ (by simp)]
  have d0 : w0.cell? ⟨w.heap.size + 1, 0, none⟩ = some (.int .i64 op) := HD.out 0
  by_cases ho : isOp op = true
  · have hus := fun w => uses_any op w ho
    have HUL := hide_p (uses_len op)
    have HUC := hide_p (uses_let op)
    rw [ho]
    rw [ho] at hI
    obtain ⟨u, hu⟩ : ∃ u, u = usesT op := ⟨_, rfl⟩
    rw [← hu] at hus HUL HUC ⊢
    have hul := HUL.out
    have hsz := bs_size u
    have HU := hide_p hu
    have HSG : Hid (∀ k (h : k < u.length) (h' : k < (bs u).size), (bs u)[k]'h' = u[k]'h) := fun k h h' => bs_get u k h'
    generalize bs u = S at *
    clear hu ho
    go_enter Tryd.func90, Tryd.ntmps90
    go_upto_region 1 with fail
    rw [← hw0]
    clear hw0
    go_wp2_with fail
    refine (hI _).mono ?_
    rintro e w1 ⟨rfl, rfl⟩
    go_wp2_with fail
    refine (hus _).mono ?_
    rintro e w2 ⟨rfl, rfl⟩
    go_wp2_with fail
    clear hI hus d0
    go_loopw [6, 7, 8] (fun t6 t7 t8 wr => ∃ (k : Nat), k ≤ u.length ∧ t6 = .int .i64 k ∧ Hid (∀ j, j < k → inB (opnd ⟨op, a, b, c⟩ j) (rngL ⟨rg, nu, nc, nk, np⟩ (u.getD j 0)) = true) ∧ Hid (Below w2.heap.size w2 wr)) (fun t6 _ _ _ => u.length - (intOf t6).toNat)
    case atStart => exact ⟨0, Nat.zero_le _, rfl, fun j h => absurd h (Nat.not_lt_zero _), Below.refl _ _⟩
    case round =>
      obtain ⟨k, hk, rfl, HJ, HB⟩ := hrel
      have HBw : Hid (Below w.heap.size w wr) := HB0.out.trans (HB.out.mono HB0.out.size)
      have r1 : wr.cell? ⟨w.heap.size, 1, none⟩ = some (.int .i64 rg) := box6 HA.out HB.out (Nat.le_refl _) rfl
      have e0 : wr.cell? ⟨w.heap.size + 1, 0, none⟩ = some (.int .i64 op) := box6 HD.out HB.out (Nat.le_refl _) rfl
      have e1 : wr.cell? ⟨w.heap.size + 1, 1, none⟩ = some (.int .i64 a) := box6 HD.out HB.out (Nat.le_refl _) rfl
      have e2 : wr.cell? ⟨w.heap.size + 1, 2, none⟩ = some (.int .i64 b) := box6 HD.out HB.out (Nat.le_refl _) rfl
      by_cases ck2 : k < u.length
      · have e3 : wr.cell? ⟨w.heap.size + 1, 3, none⟩ = some (.int .i64 c) := box6 HD.out HB.out (Nat.le_refl _) rfl
        have hop := operand_any op a b c k wr (by omega)
        have HNO := hide_p (letB_no ⟨rg, nu, nc, nk, np⟩ ⟨op, a, b, c⟩ u k ck2)
        have hcl := HUC.out (u.getD k 0) (by rw [List.getD_eq_getElem?_getD, List.getElem?_eq_getElem ck2]; exact List.getElem_mem ck2)
        have hkk : k < S.size := by omega
        have hgk : S[k] = u.getD k 0 := by rw [HSG.out k ck2 hkk, List.getD_eq_getElem?_getD, List.getElem?_eq_getElem ck2]; rfl
        have HJ2 : Hid (inB (opnd ⟨op, a, b, c⟩ k) (rngL ⟨rg, nu, nc, nk, np⟩ (u.getD k 0)) = true → ∀ j, j < k + 1 → inB (opnd ⟨op, a, b, c⟩ j) (rngL ⟨rg, nu, nc, nk, np⟩ (u.getD j 0)) = true) := by
          intro e j hj
          by_cases e2 : j = k
          · subst e2; exact e
          · exact HJ.out j (by omega)
        generalize u.getD k 0 = cl at *
        generalize opnd ⟨op, a, b, c⟩ k = xo at *
        have ck3 : (k : Int) < (u.length : Int) := by omega
        have r2 : wr.cell? ⟨w.heap.size, 2, none⟩ = some (.slice au nu cu) := box6 HA.out HB.out (Nat.le_refl _) rfl
        have r3 : wr.cell? ⟨w.heap.size, 3, none⟩ = some (.slice ac nc cc) := box6 HA.out HB.out (Nat.le_refl _) rfl
        have r4 : wr.cell? ⟨w.heap.size, 4, none⟩ = some (.slice ak nk ck) := box6 HA.out HB.out (Nat.le_refl _) rfl
        have r5 : wr.cell? ⟨w.heap.size, 5, none⟩ = some (.slice ap np cp) := box6 HA.out HB.out (Nat.le_refl _) rfl
        have hlt : w.heap.size + 1 < wr.heap.size := World.block_lt_of_cell? wr _ e0
        rcases hcl with rfl | rfl | rfl | rfl | rfl | rfl
        · have hb : (S[k].toNat : Int) = 82 := by rw [hgk]; rfl
          have hr : rngL ⟨rg, nu, nc, nk, np⟩ 82 = rg := rfl
          rw [hr] at HNO HJ2
          clear hr hgk HUC
          go_wp2_with fail
          refine hop.mono ?_
          rintro e w3 ⟨rfl, hb3⟩
          have HB3 : Hid (Below w2.heap.size w2 w3) := HB.out.trans (hb3.mono HB.out.size)
          have HB3w : Hid (Below w.heap.size w w3) := HBw.out.trans (hb3.mono HBw.out.size)
          have s1 : w3.cell? ⟨w.heap.size, 1, none⟩ = some (.int .i64 rg) := cell_kept hb3 (Nat.le_refl _) r1
          have s2 : w3.cell? ⟨w.heap.size, 2, none⟩ = some (.slice au nu cu) := cell_kept hb3 (Nat.le_refl _) r2
          have s3 : w3.cell? ⟨w.heap.size, 3, none⟩ = some (.slice ac nc cc) := cell_kept hb3 (Nat.le_refl _) r3
          have s4 : w3.cell? ⟨w.heap.size, 4, none⟩ = some (.slice ak nk ck) := cell_kept hb3 (Nat.le_refl _) r4
          have s5 : w3.cell? ⟨w.heap.size, 5, none⟩ = some (.slice ap np cp) := cell_kept hb3 (Nat.le_refl _) r5
          clear hb3 hop r1 r2 r3 r4 r5 e0 e1 e2 e3
          by_cases x0 : xo < 0
          · have HN := hide_p (HNO.out (by unfold inB; simp; omega))
            clear HNO HJ2
            go_wp2
            go_ret
            exact ⟨by rw [HN.out]; simp, HB3w.out⟩
          · by_cases x1 : xo ≥ rg
            · have HN := hide_p (HNO.out (by unfold inB; simp; omega))
              clear HNO HJ2
              go_wp2
              go_ret
              exact ⟨by rw [HN.out]; simp, HB3w.out⟩
            · have HY := hide_p (HJ2.out (by unfold inB; simp; omega))
              clear HNO HJ2
              go_wp2
              go_roundw
              case rel => exact ⟨k + 1, by omega, by go_num, HY, HB3⟩
              case measure => simp [intOf]; omega
        · have hb : (S[k].toNat : Int) = 75 := by rw [hgk]; rfl
          have hr : rngL ⟨rg, nu, nc, nk, np⟩ 75 = (nk : Int) := rfl
          rw [hr] at HNO HJ2
          clear hr hgk HUC
          go_wp2_with fail
          refine hop.mono ?_
          rintro e w3 ⟨rfl, hb3⟩
          have HB3 : Hid (Below w2.heap.size w2 w3) := HB.out.trans (hb3.mono HB.out.size)
          have HB3w : Hid (Below w.heap.size w w3) := HBw.out.trans (hb3.mono HBw.out.size)
          have s1 : w3.cell? ⟨w.heap.size, 1, none⟩ = some (.int .i64 rg) := cell_kept hb3 (Nat.le_refl _) r1
          have s2 : w3.cell? ⟨w.heap.size, 2, none⟩ = some (.slice au nu cu) := cell_kept hb3 (Nat.le_refl _) r2
          have s3 : w3.cell? ⟨w.heap.size, 3, none⟩ = some (.slice ac nc cc) := cell_kept hb3 (Nat.le_refl _) r3
          have s4 : w3.cell? ⟨w.heap.size, 4, none⟩ = some (.slice ak nk ck) := cell_kept hb3 (Nat.le_refl _) r4
          have s5 : w3.cell? ⟨w.heap.size, 5, none⟩ = some (.slice ap np cp) := cell_kept hb3 (Nat.le_refl _) r5
          clear hb3 hop r1 r2 r3 r4 r5 e0 e1 e2 e3
          by_cases x0 : xo < 0
          · have HN := hide_p (HNO.out (by unfold inB; simp; omega))
            clear HNO HJ2
            go_wp2
            go_ret
            exact ⟨by rw [HN.out]; simp, HB3w.out⟩
          · by_cases x1 : xo ≥ (nk : Int)
            · have HN := hide_p (HNO.out (by unfold inB; simp; omega))
              clear HNO HJ2
              go_wp2
              go_ret
              exact ⟨by rw [HN.out]; simp, HB3w.out⟩
            · have HY := hide_p (HJ2.out (by unfold inB; simp; omega))
              clear HNO HJ2
              go_wp2
              go_roundw
              case rel => exact ⟨k + 1, by omega, by go_num, HY, HB3⟩
              case measure => simp [intOf]; omega
        · have hb : (S[k].toNat : Int) = 85 := by rw [hgk]; rfl
          have hr : rngL ⟨rg, nu, nc, nk, np⟩ 85 = (nu : Int) := rfl
          rw [hr] at HNO HJ2
          clear hr hgk HUC
          go_wp2_with fail
          refine hop.mono ?_
          rintro e w3 ⟨rfl, hb3⟩
          have HB3 : Hid (Below w2.heap.size w2 w3) := HB.out.trans (hb3.mono HB.out.size)
          have HB3w : Hid (Below w.heap.size w w3) := HBw.out.trans (hb3.mono HBw.out.size)
          have s1 : w3.cell? ⟨w.heap.size, 1, none⟩ = some (.int .i64 rg) := cell_kept hb3 (Nat.le_refl _) r1
          have s2 : w3.cell? ⟨w.heap.size, 2, none⟩ = some (.slice au nu cu) := cell_kept hb3 (Nat.le_refl _) r2
          have s3 : w3.cell? ⟨w.heap.size, 3, none⟩ = some (.slice ac nc cc) := cell_kept hb3 (Nat.le_refl _) r3
          have s4 : w3.cell? ⟨w.heap.size, 4, none⟩ = some (.slice ak nk ck) := cell_kept hb3 (Nat.le_refl _) r4
          have s5 : w3.cell? ⟨w.heap.size, 5, none⟩ = some (.slice ap np cp) := cell_kept hb3 (Nat.le_refl _) r5
          clear hb3 hop r1 r2 r3 r4 r5 e0 e1 e2 e3
          by_cases x0 : xo < 0
          · have HN := hide_p (HNO.out (by unfold inB; simp; omega))
            clear HNO HJ2
            go_wp2
            go_ret
            exact ⟨by rw [HN.out]; simp, HB3w.out⟩
          · by_cases x1 : xo ≥ (nu : Int)
            · have HN := hide_p (HNO.out (by unfold inB; simp; omega))
              clear HNO HJ2
              go_wp2
              go_ret
              exact ⟨by rw [HN.out]; simp, HB3w.out⟩
            · have HY := hide_p (HJ2.out (by unfold inB; simp; omega))
              clear HNO HJ2
              go_wp2
              go_roundw
              case rel => exact ⟨k + 1, by omega, by go_num, HY, HB3⟩
              case measure => simp [intOf]; omega
        · have hb : (S[k].toNat : Int) = 80 := by rw [hgk]; rfl
          have hr : rngL ⟨rg, nu, nc, nk, np⟩ 80 = (np : Int) := rfl
          rw [hr] at HNO HJ2
          clear hr hgk HUC
          go_wp2_with fail
          refine hop.mono ?_
          rintro e w3 ⟨rfl, hb3⟩
          have HB3 : Hid (Below w2.heap.size w2 w3) := HB.out.trans (hb3.mono HB.out.size)
          have HB3w : Hid (Below w.heap.size w w3) := HBw.out.trans (hb3.mono HBw.out.size)
          have s1 : w3.cell? ⟨w.heap.size, 1, none⟩ = some (.int .i64 rg) := cell_kept hb3 (Nat.le_refl _) r1
          have s2 : w3.cell? ⟨w.heap.size, 2, none⟩ = some (.slice au nu cu) := cell_kept hb3 (Nat.le_refl _) r2
          have s3 : w3.cell? ⟨w.heap.size, 3, none⟩ = some (.slice ac nc cc) := cell_kept hb3 (Nat.le_refl _) r3
          have s4 : w3.cell? ⟨w.heap.size, 4, none⟩ = some (.slice ak nk ck) := cell_kept hb3 (Nat.le_refl _) r4
          have s5 : w3.cell? ⟨w.heap.size, 5, none⟩ = some (.slice ap np cp) := cell_kept hb3 (Nat.le_refl _) r5
          clear hb3 hop r1 r2 r3 r4 r5 e0 e1 e2 e3
          by_cases x0 : xo < 0
          · have HN := hide_p (HNO.out (by unfold inB; simp; omega))
            clear HNO HJ2
            go_wp2
            go_ret
            exact ⟨by rw [HN.out]; simp, HB3w.out⟩
          · by_cases x1 : xo ≥ (np : Int)
            · have HN := hide_p (HNO.out (by unfold inB; simp; omega))
              clear HNO HJ2
              go_wp2
              go_ret
              exact ⟨by rw [HN.out]; simp, HB3w.out⟩
            · have HY := hide_p (HJ2.out (by unfold inB; simp; omega))
              clear HNO HJ2
              go_wp2
              go_roundw
              case rel => exact ⟨k + 1, by omega, by go_num, HY, HB3⟩
              case measure => simp [intOf]; omega
        · have hb : (S[k].toNat : Int) = 79 := by rw [hgk]; rfl
          have hr : rngL ⟨rg, nu, nc, nk, np⟩ 79 = (nc : Int) := rfl
          rw [hr] at HNO HJ2
          clear hr hgk HUC
          go_wp2_with fail
          refine hop.mono ?_
          rintro e w3 ⟨rfl, hb3⟩
          have HB3 : Hid (Below w2.heap.size w2 w3) := HB.out.trans (hb3.mono HB.out.size)
          have HB3w : Hid (Below w.heap.size w w3) := HBw.out.trans (hb3.mono HBw.out.size)
          have s1 : w3.cell? ⟨w.heap.size, 1, none⟩ = some (.int .i64 rg) := cell_kept hb3 (Nat.le_refl _) r1
          have s2 : w3.cell? ⟨w.heap.size, 2, none⟩ = some (.slice au nu cu) := cell_kept hb3 (Nat.le_refl _) r2
          have s3 : w3.cell? ⟨w.heap.size, 3, none⟩ = some (.slice ac nc cc) := cell_kept hb3 (Nat.le_refl _) r3
          have s4 : w3.cell? ⟨w.heap.size, 4, none⟩ = some (.slice ak nk ck) := cell_kept hb3 (Nat.le_refl _) r4
          have s5 : w3.cell? ⟨w.heap.size, 5, none⟩ = some (.slice ap np cp) := cell_kept hb3 (Nat.le_refl _) r5
          clear hb3 hop r1 r2 r3 r4 r5 e0 e1 e2 e3
          by_cases x0 : xo < 0
          · have HN := hide_p (HNO.out (by unfold inB; simp; omega))
            clear HNO HJ2
            go_wp2
            go_ret
            exact ⟨by rw [HN.out]; simp, HB3w.out⟩
          · by_cases x1 : xo ≥ (nc : Int)
            · have HN := hide_p (HNO.out (by unfold inB; simp; omega))
              clear HNO HJ2
              go_wp2
              go_ret
              exact ⟨by rw [HN.out]; simp, HB3w.out⟩
            · have HY := hide_p (HJ2.out (by unfold inB; simp; omega))
              clear HNO HJ2
              go_wp2
              go_roundw
              case rel => exact ⟨k + 1, by omega, by go_num, HY, HB3⟩
              case measure => simp [intOf]; omega
        · have hb : (S[k].toNat : Int) = 78 := by rw [hgk]; rfl
          have hr : rngL ⟨rg, nu, nc, nk, np⟩ 78 = 31 := rfl
          rw [hr] at HNO HJ2
          clear hr hgk HUC
          go_wp2_with fail
          refine hop.mono ?_
          rintro e w3 ⟨rfl, hb3⟩
          have HB3 : Hid (Below w2.heap.size w2 w3) := HB.out.trans (hb3.mono HB.out.size)
          have HB3w : Hid (Below w.heap.size w w3) := HBw.out.trans (hb3.mono HBw.out.size)
          have s1 : w3.cell? ⟨w.heap.size, 1, none⟩ = some (.int .i64 rg) := cell_kept hb3 (Nat.le_refl _) r1
          have s2 : w3.cell? ⟨w.heap.size, 2, none⟩ = some (.slice au nu cu) := cell_kept hb3 (Nat.le_refl _) r2
          have s3 : w3.cell? ⟨w.heap.size, 3, none⟩ = some (.slice ac nc cc) := cell_kept hb3 (Nat.le_refl _) r3
          have s4 : w3.cell? ⟨w.heap.size, 4, none⟩ = some (.slice ak nk ck) := cell_kept hb3 (Nat.le_refl _) r4
          have s5 : w3.cell? ⟨w.heap.size, 5, none⟩ = some (.slice ap np cp) := cell_kept hb3 (Nat.le_refl _) r5
          clear hb3 hop r1 r2 r3 r4 r5 e0 e1 e2 e3
          by_cases x0 : xo < 0
          · have HN := hide_p (HNO.out (by unfold inB; simp; omega))
            clear HNO HJ2
            go_wp2
            go_ret
            exact ⟨by rw [HN.out]; simp, HB3w.out⟩
          · by_cases x1 : xo ≥ 31
            · have HN := hide_p (HNO.out (by unfold inB; simp; omega))
              clear HNO HJ2
              go_wp2
              go_ret
              exact ⟨by rw [HN.out]; simp, HB3w.out⟩
            · have HY := hide_p (HJ2.out (by unfold inB; simp; omega))
              clear HNO HJ2
              go_wp2
              go_roundw
              case rel => exact ⟨k + 1, by omega, by go_num, HY, HB3⟩
              case measure => simp [intOf]; omega
      · have e : k = u.length := by omega
        have HL : Hid (letB ⟨rg, nu, nc, nk, np⟩ ⟨op, a, b, c⟩ u = true) := letB_yes _ _ _ (fun j hj => HJ.out j (by omega))
        have HA0 : Hid (op = 32 → 0 ≤ a ∧ a < rg) := by
          intro e32
          have h1 := HJ.out 0 (by rw [e, HU.out, e32]; decide)
          rw [HU.out, e32] at h1
          have e4 : rngL ⟨rg, nu, nc, nk, np⟩ ((usesT 32).getD 0 0) = rg := rfl
          rw [e4] at h1
          unfold inB opnd at h1
          simp at h1
          omega
        clear HUC
        by_cases o32 : op = 32
        · subst o32
          have hA0 := HA0.out rfl
          by_cases x1 : b ≥ rg - a
          · go_wp2
            go_ret
            exact ⟨by rw [HL.out]; simp; omega, HBw.out⟩
          · go_wp2
            go_ret
            refine ⟨?_, HBw.out⟩
            rw [HL.out]
            simp
        · have q32 : (op == 32) = false := by simp [o32]
          by_cases o36 : op = 36
          · subst o36
            go_wp2
            go_ret
            exact ⟨by rw [HL.out]; simp, HBw.out⟩
          · by_cases o37 : op = 37
            · subst o37
              go_wp2
              go_ret
              exact ⟨by rw [HL.out]; simp, HBw.out⟩
            · have q36 : (op != 36) = true := by simp [o36]
              have q37 : (op != 37) = true := by simp [o37]
              go_wp2
              go_ret
              exact ⟨by rw [HL.out]; simp [o32, o36, o37], HBw.out⟩
  · have h1 : isOp op = false := by simpa using ho
    rw [h1]
    rw [h1] at hI
    go_enter Tryd.func90, Tryd.ntmps90
    go_upto_region 1 with fail
    rw [← hw0]
    clear hw0
    go_wp2_with fail
    refine (hI _).mono ?_
    rintro e w1 ⟨rfl, rfl⟩
    go_wp2
    go_ret
    exact ⟨by simp, HB0.out⟩

end Go.Proofs.YtlfbjnbjnfmnlaaDoor
