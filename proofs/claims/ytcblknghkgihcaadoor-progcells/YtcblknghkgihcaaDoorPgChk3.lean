/-
  Layer 13: the landed isOrder, walked.
-/
import Derived.Test.YtcblknghkgihcaaDoorPgChk2
namespace Go.Proofs.YtcblknghkgihcaaDoor
set_option maxRecDepth 100000
open Go.RowKit Txt Pg Flo

def rowGood (x : Rw) : Bool := (0 ≤ x.2.2.1 && x.2.2.1 ≤ 7 && 0 ≤ x.2.2.2.1 && x.2.2.2.1 ≤ 7 && 0 ≤ x.2.2.2.2 && x.2.2.2.2 ≤ 7) && x.2.2.1 != 6 && x.2.2.2.2 != 6 && (x.2.2.2.1 != 6 || x.2.2.1 == 1)
theorem rows_good : ∀ x ∈ noRow :: ordL, rowGood x = true := by decide
theorem rowOf_mem (op : Int) : rowOf op ∈ noRow :: ordL := by
  unfold rowOf
  split
  · next h =>
    have hl : op.toNat < ordL.length := by show op.toNat < 38; omega
    rw [List.getD_eq_getElem?_getD, List.getElem?_eq_getElem hl]
    exact List.mem_cons_of_mem _ (List.getElem_mem hl)
  · exact List.mem_cons_self
theorem row_good (op : Int) : let x := rowOf op; (0 ≤ x.2.2.1 ∧ x.2.2.1 ≤ 7) ∧ (0 ≤ x.2.2.2.1 ∧ x.2.2.2.1 ≤ 7) ∧ (0 ≤ x.2.2.2.2 ∧ x.2.2.2.2 ≤ 7) ∧ x.2.2.1 ≠ 6 ∧ x.2.2.2.2 ≠ 6 ∧ (x.2.2.2.1 = 6 → x.2.2.1 = 1) := by
  have h := rows_good _ (rowOf_mem op)
  generalize rowOf op = x at *
  unfold rowGood at h
  simp only [Bool.and_eq_true, decide_eq_true_eq, bne_iff_ne, Bool.or_eq_true, beq_iff_eq] at h
  show _ ∧ _
  omega

structure Lens where
  rg : Int
  nu : Nat
  nc : Nat
  nk : Nat
  np : Nat
def okO (L : Lens) (a o x : Int) : Bool := (o == 0) || inB x (rngZ L.rg L.nu L.nc L.nk L.np a o)
def ordB (L : Lens) (x : Ins) : Bool := okO L x.a (rowOf x.op).2.2.1 x.a && okO L x.a (rowOf x.op).2.2.2.1 x.b && okO L x.a (rowOf x.op).2.2.2.2 x.c && isOp x.op

theorem idx3 (a b c : Value) (w : World) : Sem.run Tryd.prog (Instr.index 122 (.agg #[a, b, c]) (.int .i64 0)) w = .ok a w ∧ Sem.run Tryd.prog (Instr.index 122 (.agg #[a, b, c]) (.int .i64 1)) w = .ok b w ∧ Sem.run Tryd.prog (Instr.index 122 (.agg #[a, b, c]) (.int .i64 2)) w = .ok c w := ⟨by kernel_rfl, by kernel_rfl, by kernel_rfl⟩

set_option maxHeartbeats 4000000 in
theorem isOrder_any (op a b c : Int) (pa rg : Int) (au ac ak ap : Option Addr) (nu cu nc cc nk ck np cp : Nat) (w : World) (h0 : 0 ≤ rg) (hg : i64 rg) (hT : Ot w) :
    Calls Tryd.prog 64 #[.agg #[.int .i64 op, .int .i64 a, .int .i64 b, .int .i64 c], .agg #[.int .i64 pa, .int .i64 rg, .slice au nu cu, .slice ac nc cc, .slice ak nk ck, .slice ap np cp]] w fun e w' => e = .returned (.bool (ordB ⟨rg, nu, nc, nk, np⟩ ⟨op, a, b, c⟩)) ∧ Below w.heap.size w w' := by
  have hgood := row_good op
  have HO := fun w h => orderOf_any op w h
  have hR : ordB ⟨rg, nu, nc, nk, np⟩ ⟨op, a, b, c⟩ = (okO ⟨rg, nu, nc, nk, np⟩ a (rowOf op).2.2.1 a && okO ⟨rg, nu, nc, nk, np⟩ a (rowOf op).2.2.2.1 b && okO ⟨rg, nu, nc, nk, np⟩ a (rowOf op).2.2.2.2 c && isOp op) := rfl
  rw [hR]
  clear hR
  unfold rowV at HO
  generalize rowOf op = x at *
  obtain ⟨xa, xb, o0, o1, o2⟩ := x
  simp only at HO hgood ⊢
  generalize bs xa = S at *
  obtain ⟨g0, g1, g2, g3, g4, g5⟩ := hgood
  have HRN : Hid (∀ (o : Int) (w : World), 0 ≤ o ∧ o ≤ 7 → (o = 6 → 0 ≤ a ∧ a ≤ rg) → Calls Tryd.prog 75 #[.int .i64 o, .int .i64 a, .agg #[.int .i64 pa, .int .i64 rg, .slice au nu cu, .slice ac nc cc, .slice ak nk ck, .slice ap np cp]] w fun e w' => e = .returned (.int .i64 (rngZ rg nu nc nk np a o)) ∧ Below w.heap.size w w') := fun o w => rangeOf_any pa rg au ac ak ap nu cu nc cc nk ck np cp a o w h0 hg
  have HT : Hid (Ot w) := hT
  have HG : Hid ((0 ≤ o0 ∧ o0 ≤ 7) ∧ (0 ≤ o1 ∧ o1 ≤ 7) ∧ (0 ≤ o2 ∧ o2 ≤ 7) ∧ o0 ≠ 6 ∧ o2 ≠ 6 ∧ (o1 = 6 → o0 = 1)) := ⟨g0, g1, g2, g3, g4, g5⟩
  have h00 := hT.1
  generalize isOp op = is at *
  clear hT g0 g1 g2 g3 g4 g5 hg h0
  obtain ⟨w0, hw0⟩ : ∃ w0, w0 = (w.alloc (.cells #[.int .i64 op, .int .i64 a, .int .i64 b, .int .i64 c] 58)).alloc (.cells #[.int .i64 pa, .int .i64 rg, .slice au nu cu, .slice ac nc cc, .slice ak nk ck, .slice ap np cp] 27) := ⟨_, rfl⟩
  have HB0 : Hid (Below w.heap.size w w0) := by rw [hw0]; exact ((Below.refl _ w).alloc (Nat.le_refl _) _).alloc (by simp) _
  have hs0 : w0.heap.size = w.heap.size + 2 := by rw [hw0]; simp
  have A0 : ∀ j, w0.cell? ⟨w.heap.size, j, none⟩ = (#[.int .i64 op, .int .i64 a, .int .i64 b, .int .i64 c] : Array Value)[j]? := by
    intro j
    rw [hw0, World.cell?_alloc_lt _ _ _ (by simp), World.cell?_alloc_new]
  have B0 : ∀ j, w0.cell? ⟨w.heap.size + 1, j, none⟩ = (#[.int .i64 pa, .int .i64 rg, .slice au nu cu, .slice ac nc cc, .slice ak nk ck, .slice ap np cp] : Array Value)[j]? := by
    intro j
    rw [hw0, World.cell?_alloc_at _ _ _ _ (by simp)]
  have HOr := HO w0 (HT.out.below HB0.out h00)
  clear HO
  go_enter Tryd.func64, Tryd.ntmps64
  go_wp2_with fail
  rw [← hw0]
  refine HOr.mono ?_
  rintro e w1 ⟨rfl, hb1⟩
  obtain ⟨w3, hw3⟩ : ∃ w3, w3 = w1.alloc (.cells #[.string S, .int .i64 xb, .int .i64 o0, .int .i64 o1, .int .i64 o2] 119) := ⟨_, rfl⟩
  have hs1 := hb1.size
  have HB3 : Hid (Below w0.heap.size w0 w3) := by rw [hw3]; exact hb1.alloc hs1 _
  have HB3w : Hid (Below w.heap.size w w3) := HB0.out.trans (HB3.out.mono (by omega))
  obtain ⟨g3, hg3⟩ : ∃ g3, g3 = w1.heap.size := ⟨_, rfl⟩
  have C0 : ∀ j, w3.cell? ⟨g3, j, none⟩ = (#[.string S, .int .i64 xb, .int .i64 o0, .int .i64 o1, .int .i64 o2] : Array Value)[j]? := by
    intro j
    rw [hw3, hg3, World.cell?_alloc_new]
  have a0 : w1.cell? ⟨w.heap.size, 0, none⟩ = some (.int .i64 op) := cell_kept hb1 (Nat.le_refl _) (A0 0)
  have a1 : w1.cell? ⟨w.heap.size, 1, none⟩ = some (.int .i64 a) := cell_kept hb1 (Nat.le_refl _) (A0 1)
  have a2 : w1.cell? ⟨w.heap.size, 2, none⟩ = some (.int .i64 b) := cell_kept hb1 (Nat.le_refl _) (A0 2)
  have a3 : w1.cell? ⟨w.heap.size, 3, none⟩ = some (.int .i64 c) := cell_kept hb1 (Nat.le_refl _) (A0 3)
  have hlt : w.heap.size < w1.heap.size := by omega
  clear HOr hw0
  go_wp2_with fail
  rw [← hg3, ← hw3]
  have HW3 : Hid (w3.heap.size = g3 + 1) := by rw [hw3, hg3]; show (w1.alloc _).heap.size = _; simp
  clear a0 a1 a2 a3 hw3 hb1 hlt hg3 hs1
  go_loopw [23] (fun t23 wr => ∃ i : Int, (i = 0 ∨ i = 1 ∨ i = 2 ∨ i = 3) ∧ t23 = .int .i64 i ∧ Hid ((0 < i → okO ⟨rg, nu, nc, nk, np⟩ a o0 a = true) ∧ (1 < i → okO ⟨rg, nu, nc, nk, np⟩ a o1 b = true) ∧ (2 < i → okO ⟨rg, nu, nc, nk, np⟩ a o2 c = true)) ∧ Hid (Below w3.heap.size w3 wr)) (fun t23 _ => 3 - (intOf t23).toNat)
  case atStart => exact ⟨0, Or.inl rfl, rfl, ⟨by omega, by omega, by omega⟩, Below.refl _ _⟩
  case round =>
    obtain ⟨i, hi, rfl, HK, HB⟩ := hrel
    have hbx : Below w0.heap.size w0 wr := HB3.out.trans (HB.out.mono HB3.out.size)
    have HBW : Hid (Below w.heap.size w wr) := HB0.out.trans (hbx.mono (by omega))
    have a1 : wr.cell? ⟨w.heap.size, 1, none⟩ = some (.int .i64 a) := cell_kept hbx (Nat.le_refl _) (A0 1)
    have b0 : wr.cell? ⟨w.heap.size + 1, 0, none⟩ = some (.int .i64 pa) := cell_kept hbx (Nat.le_refl _) (B0 0)
    have b1 : wr.cell? ⟨w.heap.size + 1, 1, none⟩ = some (.int .i64 rg) := cell_kept hbx (Nat.le_refl _) (B0 1)
    have b2 : wr.cell? ⟨w.heap.size + 1, 2, none⟩ = some (.slice au nu cu) := cell_kept hbx (Nat.le_refl _) (B0 2)
    have b3 : wr.cell? ⟨w.heap.size + 1, 3, none⟩ = some (.slice ac nc cc) := cell_kept hbx (Nat.le_refl _) (B0 3)
    have b4 : wr.cell? ⟨w.heap.size + 1, 4, none⟩ = some (.slice ak nk ck) := cell_kept hbx (Nat.le_refl _) (B0 4)
    have b5 : wr.cell? ⟨w.heap.size + 1, 5, none⟩ = some (.slice ap np cp) := cell_kept hbx (Nat.le_refl _) (B0 5)
    have c2 : wr.cell? ⟨g3, 2, none⟩ = some (.int .i64 o0) := cell_kept HB.out (Nat.le_refl _) (C0 2)
    have c3 : wr.cell? ⟨g3, 3, none⟩ = some (.int .i64 o1) := cell_kept HB.out (Nat.le_refl _) (C0 3)
    have c4 : wr.cell? ⟨g3, 4, none⟩ = some (.int .i64 o2) := cell_kept HB.out (Nat.le_refl _) (C0 4)
    have hix := fun w => (idx3 (.int .i64 a) (.int .i64 b) (.int .i64 c) w).1
    have hiy := fun w => (idx3 (.int .i64 a) (.int .i64 b) (.int .i64 c) w).2.1
    have hiz := fun w => (idx3 (.int .i64 a) (.int .i64 b) (.int .i64 c) w).2.2
    clear hbx
    rcases hi with rfl | rfl | rfl | rfl
    case inr.inr.inr =>
      have hk := HK.out
      have HR : Hid ((okO ⟨rg, nu, nc, nk, np⟩ a o0 a && okO ⟨rg, nu, nc, nk, np⟩ a o1 b && okO ⟨rg, nu, nc, nk, np⟩ a o2 c && is) = is) := by
        show _ = _
        rw [hk.1 (by omega), hk.2.1 (by omega), hk.2.2 (by omega)]
        simp
      clear hk
      go_wp2
      go_ret
      exact ⟨by rw [HR.out]; rfl, HBW.out⟩
    case inl =>
      by_cases co : o0 = 0
      · have E : okO ⟨rg, nu, nc, nk, np⟩ a o0 a = true := by unfold okO; simp [co]
        have HK2 : Hid ((0 < (1 : Int) → okO ⟨rg, nu, nc, nk, np⟩ a o0 a = true) ∧ (1 < (1 : Int) → okO ⟨rg, nu, nc, nk, np⟩ a o1 b = true) ∧ (2 < (1 : Int) → okO ⟨rg, nu, nc, nk, np⟩ a o2 c = true)) := ⟨fun _ => E, by omega, by omega⟩
        have co2 : (o0 != 0) = false := by simp [co]
        clear E
        go_wp2
        go_roundw
        case rel => exact ⟨1, by omega, rfl, HK2, HB⟩
        case measure => simp [intOf]
      · have co2 : (o0 != 0) = true := by simp [co]
        have hcall := HRN.out o0 wr HG.out.1 (fun e => absurd e HG.out.2.2.2.1)
        have E0 : okO ⟨rg, nu, nc, nk, np⟩ a o0 a = inB a (rngZ rg nu nc nk np a o0) := by unfold okO; simp [co]
        generalize rngZ rg nu nc nk np a o0 = Z at *
        have hin := fun w => isIn_any a Z w
        have HF : Hid (inB a Z = false → (okO ⟨rg, nu, nc, nk, np⟩ a o0 a && okO ⟨rg, nu, nc, nk, np⟩ a o1 b && okO ⟨rg, nu, nc, nk, np⟩ a o2 c && is) = false) := by
          intro E
          rw [← E0] at E
          simp [E]
        have HY : Hid (inB a Z = true → (0 < (1 : Int) → okO ⟨rg, nu, nc, nk, np⟩ a o0 a = true) ∧ (1 < (1 : Int) → okO ⟨rg, nu, nc, nk, np⟩ a o1 b = true) ∧ (2 < (1 : Int) → okO ⟨rg, nu, nc, nk, np⟩ a o2 c = true)) := by
          intro E
          rw [← E0] at E
          exact ⟨fun _ => E, by omega, by omega⟩
        generalize inB a Z = z at *
        clear E0
        go_wp2_with fail
        refine hcall.mono ?_
        rintro e w4 ⟨rfl, hb4⟩
        have HB4 : Hid (Below w3.heap.size w3 w4) := HB.out.trans (hb4.mono HB.out.size)
        have HBW4 : Hid (Below w.heap.size w w4) := HBW.out.trans (hb4.mono HBW.out.size)
        clear hb4 a1 b0 b1 b2 b3 b4 b5 c2 c3 c4 hcall
        go_wp2_with fail
        refine (hin _).mono ?_
        rintro e w5 ⟨rfl, rfl⟩
        cases z with
        | false =>
          have HF2 : Hid _ := HF.out rfl
          go_wp2
          go_ret
          exact ⟨by rw [HF2.out]; rfl, HBW4.out⟩
        | true =>
          have HY2 : Hid ((0 < (1 : Int) → okO ⟨rg, nu, nc, nk, np⟩ a o0 a = true) ∧ (1 < (1 : Int) → okO ⟨rg, nu, nc, nk, np⟩ a o1 b = true) ∧ (2 < (1 : Int) → okO ⟨rg, nu, nc, nk, np⟩ a o2 c = true)) := HY.out rfl
          go_wp2
          go_roundw
          case rel => exact ⟨1, by omega, rfl, HY2, HB4⟩
          case measure => simp [intOf]
    case inr.inl =>
      have hr6 : o1 = 6 → 0 ≤ a ∧ a ≤ rg := by
        intro e
        have e0 := HG.out.2.2.2.2.2 e
        have := HK.out.1 (by omega)
        rw [e0] at this
        unfold okO inB rngZ at this
        simp at this
        omega
      by_cases co : o1 = 0
      · have E : okO ⟨rg, nu, nc, nk, np⟩ a o1 b = true := by unfold okO; simp [co]
        have HK2 : Hid ((0 < (2 : Int) → okO ⟨rg, nu, nc, nk, np⟩ a o0 a = true) ∧ (1 < (2 : Int) → okO ⟨rg, nu, nc, nk, np⟩ a o1 b = true) ∧ (2 < (2 : Int) → okO ⟨rg, nu, nc, nk, np⟩ a o2 c = true)) := ⟨fun _ => HK.out.1 (by omega), fun _ => E, by omega⟩
        have co2 : (o1 != 0) = false := by simp [co]
        clear E
        go_wp2
        go_roundw
        case rel => exact ⟨2, by omega, rfl, HK2, HB⟩
        case measure => simp [intOf]
      · have co2 : (o1 != 0) = true := by simp [co]
        have hcall := HRN.out o1 wr HG.out.2.1 (fun e => hr6 e)
        have E0 : okO ⟨rg, nu, nc, nk, np⟩ a o1 b = inB b (rngZ rg nu nc nk np a o1) := by unfold okO; simp [co]
        generalize rngZ rg nu nc nk np a o1 = Z at *
        have hin := fun w => isIn_any b Z w
        have HF : Hid (inB b Z = false → (okO ⟨rg, nu, nc, nk, np⟩ a o0 a && okO ⟨rg, nu, nc, nk, np⟩ a o1 b && okO ⟨rg, nu, nc, nk, np⟩ a o2 c && is) = false) := by
          intro E
          rw [← E0] at E
          simp [E]
        have HY : Hid (inB b Z = true → (0 < (2 : Int) → okO ⟨rg, nu, nc, nk, np⟩ a o0 a = true) ∧ (1 < (2 : Int) → okO ⟨rg, nu, nc, nk, np⟩ a o1 b = true) ∧ (2 < (2 : Int) → okO ⟨rg, nu, nc, nk, np⟩ a o2 c = true)) := by
          intro E
          rw [← E0] at E
          exact ⟨fun _ => HK.out.1 (by omega), fun _ => E, by omega⟩
        generalize inB b Z = z at *
        clear E0
        go_wp2_with fail
        refine hcall.mono ?_
        rintro e w4 ⟨rfl, hb4⟩
        have HB4 : Hid (Below w3.heap.size w3 w4) := HB.out.trans (hb4.mono HB.out.size)
        have HBW4 : Hid (Below w.heap.size w w4) := HBW.out.trans (hb4.mono HBW.out.size)
        clear hb4 a1 b0 b1 b2 b3 b4 b5 c2 c3 c4 hcall
        go_wp2_with fail
        refine (hin _).mono ?_
        rintro e w5 ⟨rfl, rfl⟩
        cases z with
        | false =>
          have HF2 : Hid _ := HF.out rfl
          go_wp2
          go_ret
          exact ⟨by rw [HF2.out]; rfl, HBW4.out⟩
        | true =>
          have HY2 : Hid ((0 < (2 : Int) → okO ⟨rg, nu, nc, nk, np⟩ a o0 a = true) ∧ (1 < (2 : Int) → okO ⟨rg, nu, nc, nk, np⟩ a o1 b = true) ∧ (2 < (2 : Int) → okO ⟨rg, nu, nc, nk, np⟩ a o2 c = true)) := HY.out rfl
          go_wp2
          go_roundw
          case rel => exact ⟨2, by omega, rfl, HY2, HB4⟩
          case measure => simp [intOf]
    case inr.inr.inl =>
      by_cases co : o2 = 0
      · have E : okO ⟨rg, nu, nc, nk, np⟩ a o2 c = true := by unfold okO; simp [co]
        have HK2 : Hid ((0 < (3 : Int) → okO ⟨rg, nu, nc, nk, np⟩ a o0 a = true) ∧ (1 < (3 : Int) → okO ⟨rg, nu, nc, nk, np⟩ a o1 b = true) ∧ (2 < (3 : Int) → okO ⟨rg, nu, nc, nk, np⟩ a o2 c = true)) := ⟨fun _ => HK.out.1 (by omega), fun _ => HK.out.2.1 (by omega), fun _ => E⟩
        have co2 : (o2 != 0) = false := by simp [co]
        clear E
        go_wp2
        go_roundw
        case rel => exact ⟨3, by omega, rfl, HK2, HB⟩
        case measure => simp [intOf]
      · have co2 : (o2 != 0) = true := by simp [co]
        have hcall := HRN.out o2 wr HG.out.2.2.1 (fun e => absurd e HG.out.2.2.2.2.1)
        have E0 : okO ⟨rg, nu, nc, nk, np⟩ a o2 c = inB c (rngZ rg nu nc nk np a o2) := by unfold okO; simp [co]
        generalize rngZ rg nu nc nk np a o2 = Z at *
        have hin := fun w => isIn_any c Z w
        have HF : Hid (inB c Z = false → (okO ⟨rg, nu, nc, nk, np⟩ a o0 a && okO ⟨rg, nu, nc, nk, np⟩ a o1 b && okO ⟨rg, nu, nc, nk, np⟩ a o2 c && is) = false) := by
          intro E
          rw [← E0] at E
          simp [E]
        have HY : Hid (inB c Z = true → (0 < (3 : Int) → okO ⟨rg, nu, nc, nk, np⟩ a o0 a = true) ∧ (1 < (3 : Int) → okO ⟨rg, nu, nc, nk, np⟩ a o1 b = true) ∧ (2 < (3 : Int) → okO ⟨rg, nu, nc, nk, np⟩ a o2 c = true)) := by
          intro E
          rw [← E0] at E
          exact ⟨fun _ => HK.out.1 (by omega), fun _ => HK.out.2.1 (by omega), fun _ => E⟩
        generalize inB c Z = z at *
        clear E0
        go_wp2_with fail
        refine hcall.mono ?_
        rintro e w4 ⟨rfl, hb4⟩
        have HB4 : Hid (Below w3.heap.size w3 w4) := HB.out.trans (hb4.mono HB.out.size)
        have HBW4 : Hid (Below w.heap.size w w4) := HBW.out.trans (hb4.mono HBW.out.size)
        clear hb4 a1 b0 b1 b2 b3 b4 b5 c2 c3 c4 hcall
        go_wp2_with fail
        refine (hin _).mono ?_
        rintro e w5 ⟨rfl, rfl⟩
        cases z with
        | false =>
          have HF2 : Hid _ := HF.out rfl
          go_wp2
          go_ret
          exact ⟨by rw [HF2.out]; rfl, HBW4.out⟩
        | true =>
          have HY2 : Hid ((0 < (3 : Int) → okO ⟨rg, nu, nc, nk, np⟩ a o0 a = true) ∧ (1 < (3 : Int) → okO ⟨rg, nu, nc, nk, np⟩ a o1 b = true) ∧ (2 < (3 : Int) → okO ⟨rg, nu, nc, nk, np⟩ a o2 c = true)) := HY.out rfl
          go_wp2
          go_roundw
          case rel => exact ⟨3, by omega, rfl, HY2, HB4⟩
          case measure => simp [intOf]

end Go.Proofs.YtcblknghkgihcaaDoor
