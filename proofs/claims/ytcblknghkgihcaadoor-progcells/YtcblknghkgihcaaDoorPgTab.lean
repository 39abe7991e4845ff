/-
  Layer 13: the table of orders; the landed Name and Cost, walked.
-/
import Derived.Test.YtcblknghkgihcaaDoorPgMem
import Derived.Test.YtcblknghkgihcaaDoorTxtMath
import Derived.Deep.MidRow
import Derived.WalkSmall
namespace Go.Proofs.YtcblknghkgihcaaDoor
set_option maxRecDepth 100000
open Go.RowKit Txt Pg

/-- The table: a name, a cost, what the three operands are. -/
def ordL : List (List UInt8 × Int × Int × Int × Int) := [
  ([99, 111, 110, 115, 116], 1, 1, 3, 0),
  ([109, 111, 118, 101], 1, 1, 1, 0),
  ([115, 104, 105, 102, 116], 0, 1, 1, 0),
  ([99, 108, 101, 97, 114], 0, 1, 0, 0),
  ([110, 101, 119, 98, 111, 120], 0, 1, 1, 0),
  ([103, 101, 116, 98, 111, 120], 1, 1, 1, 0),
  ([115, 101, 116, 98, 111, 120], 1, 1, 1, 0),
  ([103, 101, 116, 117, 112], 1, 1, 4, 0),
  ([115, 101, 116, 117, 112], 1, 4, 1, 0),
  ([103, 101, 116, 103, 108, 111, 98, 97, 108], 1, 1, 3, 0),
  ([115, 101, 116, 103, 108, 111, 98, 97, 108], 1, 3, 1, 0),
  ([105, 110, 100, 101, 120], 1, 1, 1, 1),
  ([115, 101, 116, 105, 110, 100, 101, 120], 1, 1, 1, 1),
  ([109, 97, 107, 101], 1, 1, 0, 0),
  ([110, 111, 116], 1, 1, 1, 0),
  ([110, 101, 103], 1, 1, 1, 0),
  ([108, 101, 110], 1, 1, 1, 0),
  ([97, 100, 100], 1, 1, 1, 1),
  ([115, 117, 98], 1, 1, 1, 1),
  ([109, 117, 108], 1, 1, 1, 1),
  ([100, 105, 118], 1, 1, 1, 1),
  ([109, 111, 100], 1, 1, 1, 1),
  ([99, 111, 110, 99, 97, 116], 1, 1, 1, 1),
  ([101, 113], 1, 1, 1, 1),
  ([110, 101], 1, 1, 1, 1),
  ([108, 116], 1, 1, 1, 1),
  ([108, 101], 1, 1, 1, 1),
  ([103, 116], 1, 1, 1, 1),
  ([103, 101], 1, 1, 1, 1),
  ([106, 117, 109, 112], 0, 5, 0, 0),
  ([106, 117, 109, 112, 105, 102], 0, 1, 5, 0),
  ([106, 117, 109, 112, 110, 111, 116], 0, 1, 5, 0),
  ([99, 97, 108, 108], 1, 1, 6, 0),
  ([114, 101, 116, 117, 114, 110], 1, 1, 0, 0),
  ([101, 110, 100], 0, 0, 0, 0),
  ([99, 108, 111, 115, 117, 114, 101], 1, 1, 7, 0),
  ([102, 111, 114, 99, 104, 101, 99, 107], 1, 2, 5, 0),
  ([102, 111, 114, 115, 116, 101, 112], 1, 2, 5, 0)]
abbrev Rw := List UInt8 × Int × Int × Int × Int
def noRow : Rw := ([110, 111, 110, 101], 0, 0, 0, 0)
def rowOf (op : Int) : Rw := if 0 ≤ op ∧ op < 38 then ordL.getD op.toNat noRow else noRow
def isOp (op : Int) : Bool := decide (0 ≤ op) && decide (op ≤ 37)

/-- The table lies in block 0. -/
def Ot (w : World) : Prop := 0 < w.heap.size ∧ ∀ r, r < 38 → w.cell? ⟨0, r * 5, none⟩ = some (.string (bs (ordL.getD r noRow).1)) ∧ w.cell? ⟨0, r * 5 + 1, none⟩ = some (.int .i64 (ordL.getD r noRow).2.1) ∧ w.cell? ⟨0, r * 5 + 2, none⟩ = some (.int .i64 (ordL.getD r noRow).2.2.1) ∧ w.cell? ⟨0, r * 5 + 3, none⟩ = some (.int .i64 (ordL.getD r noRow).2.2.2.1) ∧ w.cell? ⟨0, r * 5 + 4, none⟩ = some (.int .i64 (ordL.getD r noRow).2.2.2.2)
theorem Ot.below {w w' : World} {B : Nat} (h : Ot w) (hg : Below B w w') (hB : 0 < B) : Ot w' :=
  ⟨Nat.lt_of_lt_of_le h.1 hg.size, fun r hr => ⟨(hg.cell hB).trans (h.2 r hr).1, (hg.cell hB).trans (h.2 r hr).2.1, (hg.cell hB).trans (h.2 r hr).2.2.1, (hg.cell hB).trans (h.2 r hr).2.2.2.1, (hg.cell hB).trans (h.2 r hr).2.2.2.2⟩⟩
def rowV (x : Rw) : Value := .agg #[.string (bs x.1), .int .i64 x.2.1, .int .i64 x.2.2.1, .int .i64 x.2.2.2.1, .int .i64 x.2.2.2.2]

set_option maxHeartbeats 1000000 in
theorem orderOf_any (op : Int) (w : World) (hT : Ot w) :
    Calls Tryd.prog 69 #[.int .i64 op] w fun e w' => e = .returned (.tuple #[rowV (rowOf op), .bool (isOp op)]) ∧ Below w.heap.size w w' := by
  have h00 := hT.1
  by_cases c : 0 ≤ op ∧ op < 38
  · obtain ⟨r, rfl⟩ := Int.eq_ofNat_of_zero_le c.1
    have hr : r < 38 := by omega
    have hI : isOp (r : Int) = true := by unfold isOp; simp; omega
    have hR : rowOf (r : Int) = ordL.getD r noRow := by unfold rowOf; rw [if_pos c]; rfl
    obtain ⟨c0, c1, c2, c3, c4⟩ := hT.2 r hr
    rw [hI, hR]
    unfold rowV
    generalize ordL.getD r noRow = x at *
    obtain ⟨xa, xb, xc, xd, xe⟩ := x
    simp only at c0 c1 c2 c3 c4 ⊢
    generalize bs xa = S at *
    have d1 : ¬ (r : Int) < 0 := by omega
    have d2 : ¬ (r : Int) ≥ 38 := by omega
    clear hT hI hR c
    go_enter Tryd.func69, Tryd.ntmps69
    go_wp2
    refine bodyPost_ret (v := .tuple #[.agg #[.string S, .int .i64 xb, .int .i64 xc, .int .i64 xd, .int .i64 xe], .bool true]) (by simp [results, Tryd.results69, go_sem]) rfl ⟨rfl, ?_⟩
    exact (Below.refl _ _).alloc (Nat.le_refl _) _
  · have hI : isOp op = false := by unfold isOp; simp; omega
    have hR : rowOf op = noRow := by unfold rowOf; rw [if_neg c]
    rw [hI, hR]
    have hd : op < 0 ∨ (¬ op < 0 ∧ op ≥ 38) := by omega
    clear hT hI hR c
    rcases hd with hd | ⟨hd, hd2⟩
    all_goals
      go_enter Tryd.func69, Tryd.ntmps69
      go_wp2
      refine bodyPost_ret (v := .tuple #[.agg #[.string ⟨#[110, 111, 110, 101]⟩, .int .i64 0, .int .i64 0, .int .i64 0, .int .i64 0], .bool false]) (by simp [results, Tryd.results69, go_sem]) rfl ⟨rfl, ?_⟩
      exact (Below.refl _ _).alloc (Nat.le_refl _) _

set_option maxHeartbeats 1000000 in
theorem pname_any (op : Int) (w : World) (hT : Ot w) :
    Calls Tryd.prog 68 #[.int .i64 op] w fun e w' => e = .returned (.string (bs (rowOf op).1)) ∧ Below w.heap.size w w' := by
  have H := orderOf_any op w hT
  unfold rowV at H
  generalize rowOf op = x at *
  obtain ⟨xa, xb, xc, xd, xe⟩ := x
  simp only at H ⊢
  generalize bs xa = S at *
  clear hT
  go_enter Tryd.func68, Tryd.ntmps68
  go_wp2_with fail
  refine H.mono ?_
  rintro e w1 ⟨rfl, hb⟩
  go_wp2
  go_ret
  exact ⟨rfl, hb.alloc hb.size _⟩

theorem ris_any (op : Int) (w : World) : Calls Tryd.prog 79 #[.int .i64 op] w fun e w' => e = .returned (.bool (isOp op)) ∧ w' = w := by
  by_cases c : op ≥ 0
  · have hI : isOp op = decide (op ≤ 37) := by unfold isOp; simp; omega
    rw [hI]
    go_enter Tryd.func79, Tryd.ntmps79
    go_wp2
    go_ret
    exact ⟨rfl, rfl⟩
  · have hI : isOp op = false := by unfold isOp; simp; omega
    rw [hI]
    go_enter Tryd.func79, Tryd.ntmps79
    go_wp2
    go_ret
    exact ⟨rfl, rfl⟩

end Go.Proofs.YtcblknghkgihcaaDoor
