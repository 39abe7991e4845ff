/-
  HpNew3, HpTab, HpGetH, HpSet, HpSet2, HpTd
-/
import Derived.Deep.RegionHeld3
import Derived.Test.YthmocdabakkfhaaGreatDoorZ21

/-
  Layer 9: add, Table.
-/
namespace Go.Proofs.YthmocdabakkfhaaGreatDoor
set_option maxRecDepth 100000
open Go.RowKit Flo

set_option maxHeartbeats 1000000 in
theorem hadd_any (hb lim used : Nat) (R : Value) (os : List Ob) (Z : Nat → Prop) (o : Ob) (w : World) (h : Hv w hb lim used R os Z) (hv : Obv w o) (hX : ∀ k, o.X k → k < w.heap.size ∧ ¬ Z k ∧ k ≠ 1) (hM : o.M.K = 0) (hes : o.es = []) (hwt : used + 1 + o.sl.length ≤ lim) :
    Calls Tryz.prog 50 #[.pointer (some ⟨hb, 0, none⟩), .agg #[.int .i64 o.k, .int .i64 o.a, .int .i64 o.b, o.slV, .pointer o.ptr]] w fun e w' => e = .returned (.int .i64 ((os.length + 1 : Nat) : Int)) ∧
      ∃ R', Hv w' hb lim (used + 1 + o.sl.length) R' (os ++ [o]) (fun k => Zn Z w.heap.size w'.heap.size k ∨ o.X k) ∧ Wx Z w w' := by
  have hlen : os.length ≤ used := by have := sum_len os; have := h.sum; omega
  have hlim := h.hl
  obtain ⟨a, cap, hR⟩ : ∃ a cap, R = .slice a os.length cap := by
    rcases rowForm h.row with ⟨e, e0⟩ | ⟨g, cap, e, _⟩
    · exact ⟨none, 0, by rw [e, e0]⟩
    · exact ⟨_, cap, e⟩
  obtain ⟨sa, sc, hsl⟩ : ∃ sa sc, o.slV = .slice sa o.sl.length sc := by
    unfold Ob.slV
    cases ht : o.tb with
    | some t => exact ⟨none, 0, by have := ((hv.tab t ht).1.2.2.2); simp [this]⟩
    | none => exact ⟨_, _, rfl⟩
  obtain ⟨i0, hi0⟩ : ∃ i, Tryz.prog.info? 85 = some i := by
    cases hq : Tryz.prog.info? 85 with
    | none => have := infoOb; rw [hq] at this; cases this
    | some q => exact ⟨q, rfl⟩
  have hinfo := infoOb
  rw [hi0] at hinfo
  simp only [Option.map_some, Option.some.injEq, Prod.mk.injEq] at hinfo
  obtain ⟨hz0, hz1, hz2⟩ := hinfo
  have hcells : o.cells = [.int .i64 o.k, .int .i64 o.a, .int .i64 o.b, .slice sa o.sl.length sc, .pointer o.ptr] := by unfold Ob.cells; rw [hsl]
  subst hR
  have k2 := h.c2
  have k1 := h.c1
  have z2 := h.hfree 2
  have z1 := h.hfree 1
  have hhl := h.lt hb h.zh
  have hrow := h.row
  have HS : Hid (∀ (w1 w2 : World) (g cap2 : Nat), Below w.heap.size w w1 → w2.ownsRow 0 85 5 (.slice (some ⟨g, 0, none⟩) (os.length + 1) cap2) (os.length + 1) (obC os ++ o.cells) → w1.grownBy w2 (Value.slice a os.length cap).ownBlock → ((Value.slice a os.length cap).ownBlock = some g ∨ g = w1.heap.size) →
    w2.cell? ⟨hb, 2, none⟩ = some (.slice a os.length cap) ∧ w2.cell? ⟨hb, 1, none⟩ = some (.int .i64 used) ∧ (∀ i, w2.frozen? ⟨hb, i, none⟩ = false) ∧
    ∀ w4, (w4.heap = ((w2.setCell ⟨hb, 2, none⟩ (.slice (some ⟨g, 0, none⟩) (os.length + 1) cap2)).setCell ⟨hb, 1, none⟩ (.int .i64 ((used + 1 + o.sl.length : Nat) : Int))).heap) → w4.os = w2.os → w4.tape = w2.tape → w4.output = w2.output →
      Hv w4 hb lim (used + 1 + o.sl.length) (.slice (some ⟨g, 0, none⟩) (os.length + 1) cap2) (os ++ [o]) (fun k => Zn Z w.heap.size w4.heap.size k ∨ o.X k) ∧ Wx Z w w4) :=
    fun w1 w2 g cap2 a1 a2 a3 a4 => h.snoc hv hX hM hes hwt a1 a2 a3 a4
  rw [hsl]
  rw [hcells] at HS
  clear hv hX hM hes h hsl hcells
  generalize o.k = ok at *
  generalize o.a = oa at *
  generalize o.b = ob at *
  generalize o.ptr = op at *
  generalize o.sl.length = sn at *
  generalize os.length = n at *
  have HBW : Hid (Below w.heap.size w ((w.alloc (.cells #[.int .i64 ok, .int .i64 oa, .int .i64 ob, .slice sa sn sc, .pointer op] 85)).alloc (.cells #[.int .i64 ok, .int .i64 oa, .int .i64 ob, .slice sa sn sc, .pointer op] 85)).drew) := ((((Below.refl _ w).alloc (Nat.le_refl _) _).alloc (by simp) _).drew)
  have HOW : Hid (((w.alloc (.cells #[.int .i64 ok, .int .i64 oa, .int .i64 ob, .slice sa sn sc, .pointer op] 85)).alloc (.cells #[.int .i64 ok, .int .i64 oa, .int .i64 ob, .slice sa sn sc, .pointer op] 85)).drew.ownsRow 0 85 5 (.slice a n cap) n (obC os)) := rowStay hrow (fun g hg => HBW.out.block g (World.ownsRow.lt hrow g hg).2)
  have hnews : ∀ j u, ([.int .i64 ok, .int .i64 oa, .int .i64 ob, .slice sa sn sc, .pointer op] : List Value)[j]? = some u → ((w.alloc (.cells #[.int .i64 ok, .int .i64 oa, .int .i64 ob, .slice sa sn sc, .pointer op] 85)).alloc (.cells #[.int .i64 ok, .int .i64 oa, .int .i64 ob, .slice sa sn sc, .pointer op] 85)).drew.cell? ((⟨w.heap.size + 1, 0, none⟩ : Addr).add j) = some u :=
    World.news_of_block (w := ((w.alloc (.cells #[.int .i64 ok, .int .i64 oa, .int .i64 ob, .slice sa sn sc, .pointer op] 85)).alloc (.cells #[.int .i64 ok, .int .i64 oa, .int .i64 ob, .slice sa sn sc, .pointer op] 85)).drew) (B := w.heap.size + 1) (cs := #[.int .i64 ok, .int .i64 oa, .int .i64 ob, .slice sa sn sc, .pointer op]) (t := 85) (fr := (0, 0)) (by have q := heap_alloc_new (w.alloc (.cells #[.int .i64 ok, .int .i64 oa, .int .i64 ob, .slice sa sn sc, .pointer op] 85)) (.cells #[.int .i64 ok, .int .i64 oa, .int .i64 ob, .slice sa sn sc, .pointer op] 85); rw [show (w.alloc (.cells #[.int .i64 ok, .int .i64 oa, .int .i64 ob, .slice sa sn sc, .pointer op] 85)).heap.size = w.heap.size + 1 by simp] at q; exact q)
  have hrl : Hid (∀ k, (Value.slice a n cap).ownBlock = some k → k < w.heap.size) := fun k hk => (World.ownsRow.lt hrow k hk).2
  have hone : ∀ u ∈ ([.int .i64 ok, .int .i64 oa, .int .i64 ob, .slice sa sn sc, .pointer op] : List Value), u.oneCell' = true := by
    intro u hu; simp at hu; rcases hu with rfl | rfl | rfl | rfl | rfl <;> rfl
  go_enter Tryz.func50, Tryz.ntmps50
  go_wp2_with fail
  go_region_law (refine step_append_lies _ rfl (.tmp 9) (.tmp 11) 74 rfl 0 85 i0 _ 5 56 Tryz.underlying74 hi0 hz0 hz1 hz2 rfl (by decide) (.slice a n cap) n (obC os) (by simp [Act.eval]) HOW.out ⟨w.heap.size + 1, 0, none⟩ 1 1 [.int .i64 ok, .int .i64 oa, .int .i64 ob, .slice sa sn sc, .pointer op] (by simp [Act.eval]) rfl hnews hone (by decide) (by unfold maxLen; omega) (by omega) (Nat.zero_le _) _ rfl ?_; intro g cap2 w2 q1 q2 q3 q4; obtain ⟨y2, y1, yf, yh⟩ := HS.out _ w2 g cap2 HBW.out q1 q2 q3; have z2' := yf 2; have z1' := yf 1; have HY : Hid _ := yh; have ybox : w2.cell? ⟨w.heap.size, 3, none⟩ = some (.slice sa sn sc) := (q2.cell_far ⟨w.heap.size, 3, none⟩ (by simp <;> omega) (fun e => by have := hrl.out _ e.symm; simp only at this; omega)).trans (by go_simp); clear q1 q2 q3 yh yf)
  clear HS HBW HOW hnews hone hrow
  all_goals go_wp2_with fail
  all_goals go_region
  all_goals go_wp2
  all_goals go_ret
  all_goals refine ⟨?_, _, HY.out _ ?_ rfl rfl rfl⟩
  all_goals first | rfl | skip
  all_goals (rw [show ((used + 1 + sn : Nat) : Int) = (used : Int) + (1 + (sn : Int)) by omega])
  all_goals rfl

end Go.Proofs.YthmocdabakkfhaaGreatDoor

/-
  Layer 9: Table, Used.
-/
namespace Go.Proofs.YthmocdabakkfhaaGreatDoor
set_option maxRecDepth 100000
open Go.RowKit Flo

/-- A new table's object. -/
def tabO (b : Nat) : Ob := ⟨5, 0, 0, 0, [], some b, [], V0, fun k => k = b⟩
theorem hp_drewN (w : World) (q : Nat) : Below w.heap.size w (w.drewN q) := ⟨rfl, rfl, rfl, Nat.le_refl _, fun _ _ => rfl⟩

set_option maxHeartbeats 1000000 in
theorem table_hv {w : World} {hb lim used : Nat} {R : Value} {os : List Ob} {Z : Nat → Prop} (h : Hv w hb lim used R os Z) (hlt : used < lim) :
    Calls Tryz.prog 16 #[.pointer (some ⟨hb, 0, none⟩)] w fun e w' => e = .returned (.tuple #[.int .i64 ((os.length + 1 : Nat) : Int), .int .i64 0]) ∧
      ∃ R' Z', Hv w' hb lim (used + 1) R' (os ++ [tabO w.heap.size]) Z' ∧ Wx Z w w' ∧ ∀ k, Z' k → Z k ∨ w.heap.size ≤ k := by
  have hl := left_any hb lim used w h.c0 h.c1 ⟨by omega, by have := h.hl; omega⟩ ⟨by omega, by have := h.hl; have := h.hu; omega⟩
  have hc : ¬ ((lim : Int) - (used : Int) < 1) := by omega
  have HA : Hid (∀ q : Nat, Calls Tryz.prog 50 #[.pointer (some ⟨hb, 0, none⟩), .agg #[.int .i64 5, .int .i64 0, .int .i64 0, .slice none 0 0, .pointer (some ⟨w.heap.size, 0, none⟩)]] ((w.drewN q).alloc (.cells #[.int .i64 0, .int .u64 0, .string ⟨#[]⟩, .int .i64 0, .int .i64 0, .pointer none, .pointer none, .slice none 0 0, .slice none 0 0, .int .i64 0] 65)) fun e w' => e = .returned (.int .i64 ((os.length + 1 : Nat) : Int)) ∧
      ∃ R' Z', Hv w' hb lim (used + 1) R' (os ++ [tabO w.heap.size]) Z' ∧ Wx Z w w' ∧ ∀ k, Z' k → Z k ∨ w.heap.size ≤ k) := by
    intro q
    have hb1 : Below w.heap.size w ((w.drewN q).alloc (.cells #[.int .i64 0, .int .u64 0, .string ⟨#[]⟩, .int .i64 0, .int .i64 0, .pointer none, .pointer none, .slice none 0 0, .slice none 0 0, .int .i64 0] 65)) := (hp_drewN w q).alloc (Nat.le_refl _) _
    have ht := fresh_tab (w.drewN q) (h.below (hp_drewN w q)).db
    have hv1 := h.below hb1
    have hs : ((w.drewN q).alloc (.cells #[.int .i64 0, .int .u64 0, .string ⟨#[]⟩, .int .i64 0, .int .i64 0, .pointer none, .pointer none, .slice none 0 0, .slice none 0 0, .int .i64 0] 65)).heap.size = w.heap.size + 1 := by
      have : (w.drewN q).heap.size = w.heap.size := rfl
      simp
    have two := h.two
    refine (hadd_any hb lim used R os Z (tabO w.heap.size) _ hv1 ⟨fun tb e => ?_, fun e => by cases e⟩ (fun k hk => ?_) rfl rfl (by show used + 1 + 0 ≤ lim; omega)).mono ?_
    · have e1 : w.heap.size = tb := Option.some.inj e
      subst e1
      exact ⟨⟨rfl, rfl, rfl, rfl⟩, ht, fun e he => (by cases he)⟩
    · have hk1 : k = w.heap.size := hk
      subst hk1
      exact ⟨by omega, fun c => by have := h.lt _ c; omega, by omega⟩
    · rintro e w' ⟨h1, R', h2, h3⟩
      refine ⟨h1, R', _, h2, (Wx.of_below Z hb1).trans h3 (fun k hk => Or.inl hk), fun k hk => ?_⟩
      rcases hk with (c | c) | c
      · exact Or.inl c
      · exact Or.inr (by omega)
      · have c1 : k = w.heap.size := c
        exact Or.inr (by omega)
  clear h
  go_enter Tryz.func16, Tryz.ntmps16
  go_wp2_with fail
  refine hl.mono ?_
  rintro e w1 ⟨rfl, q, rfl⟩
  clear hl
  go_wp2_with fail
  refine (HA.out q).mono ?_
  rintro e w1 ⟨rfl, hq⟩
  have HQ : Hid _ := hq
  clear hq HA
  go_wp2
  go_ret2
  exact ⟨rfl, HQ.out⟩

theorem used_hv {w : World} {hb lim used : Nat} {R : Value} {os : List Ob} {Z : Nat → Prop} (h : Hv w hb lim used R os Z) :
    Calls Tryz.prog 20 #[.pointer (some ⟨hb, 0, none⟩)] w fun e w' => e = .returned (.int .i64 (used : Int)) ∧ w' = w := by
  have k1 := h.c1
  clear h
  go_enter Tryz.func20, Tryz.ntmps20
  go_wp2
  go_ret
  exact ⟨rfl, rfl⟩

end Go.Proofs.YthmocdabakkfhaaGreatDoor

/-
  Layer 9: Get.
-/
namespace Go.Proofs.YthmocdabakkfhaaGreatDoor
set_option maxRecDepth 100000
open Go.RowKit Flo

/-- What a heap has under a key. -/
def getV (os : List Ob) (o K N : Int) (S : ByteArray) (O : Int) : V4 := match tabOf os o with
  | none => V0
  | some x => if kok K N then fndV (ofKey (yK K N) (yN K N) (yS K N S) (yO K N O) x.es) else V0

theorem set41 {B b : Nat} {W w1 : World} (h : Below B W w1) (hb : B ≤ b) (v0 v1 v2 v3 : Value) :
    Below B W ((((w1.setCell ⟨b, 0, none⟩ v0).setCell ⟨b, 1, none⟩ v1).setCell ⟨b, 2, none⟩ v2).setCell ⟨b, 3, none⟩ v3) :=
  (((h.setCell (p := ⟨b, 0, none⟩) hb _).setCell (p := ⟨b, 1, none⟩) hb _).setCell (p := ⟨b, 2, none⟩) hb _).setCell (p := ⟨b, 3, none⟩) hb _

theorem keep4 {W w' : World} {b : Nat} {v0 v1 v2 v3 : Value} (h : W.cell? ⟨b, 0, none⟩ = some v0 ∧ W.cell? ⟨b, 1, none⟩ = some v1 ∧ W.cell? ⟨b, 2, none⟩ = some v2 ∧ W.cell? ⟨b, 3, none⟩ = some v3) (hb : Below W.heap.size W w') :
    w'.cell? ⟨b, 0, none⟩ = some v0 ∧ w'.cell? ⟨b, 1, none⟩ = some v1 ∧ w'.cell? ⟨b, 2, none⟩ = some v2 ∧ w'.cell? ⟨b, 3, none⟩ = some v3 := by
  have hl : b < W.heap.size := World.block_lt_of_cell? W _ h.1
  exact ⟨(hb.cell (p := ⟨b, 0, none⟩) hl).trans h.1, (hb.cell (p := ⟨b, 1, none⟩) hl).trans h.2.1, (hb.cell (p := ⟨b, 2, none⟩) hl).trans h.2.2.1, (hb.cell (p := ⟨b, 3, none⟩) hl).trans h.2.2.2⟩
theorem keep4' {W : World} {b c : Nat} {v0 v1 v2 v3 u0 u1 u2 u3 : Value} (h : W.cell? ⟨b, 0, none⟩ = some v0 ∧ W.cell? ⟨b, 1, none⟩ = some v1 ∧ W.cell? ⟨b, 2, none⟩ = some v2 ∧ W.cell? ⟨b, 3, none⟩ = some v3) (hne : ¬ b = c) :
    ((((W.setCell ⟨c, 0, none⟩ u0).setCell ⟨c, 1, none⟩ u1).setCell ⟨c, 2, none⟩ u2).setCell ⟨c, 3, none⟩ u3).cell? ⟨b, 0, none⟩ = some v0 ∧ ((((W.setCell ⟨c, 0, none⟩ u0).setCell ⟨c, 1, none⟩ u1).setCell ⟨c, 2, none⟩ u2).setCell ⟨c, 3, none⟩ u3).cell? ⟨b, 1, none⟩ = some v1 ∧
    ((((W.setCell ⟨c, 0, none⟩ u0).setCell ⟨c, 1, none⟩ u1).setCell ⟨c, 2, none⟩ u2).setCell ⟨c, 3, none⟩ u3).cell? ⟨b, 2, none⟩ = some v2 ∧ ((((W.setCell ⟨c, 0, none⟩ u0).setCell ⟨c, 1, none⟩ u1).setCell ⟨c, 2, none⟩ u2).setCell ⟨c, 3, none⟩ u3).cell? ⟨b, 3, none⟩ = some v3 := by
  have e : ((((W.setCell ⟨c, 0, none⟩ u0).setCell ⟨c, 1, none⟩ u1).setCell ⟨c, 2, none⟩ u2).setCell ⟨c, 3, none⟩ u3).heap[b]? = W.heap[b]? := by
    rw [heap_setCell_other _ _ _ _ hne, heap_setCell_other _ _ _ _ hne, heap_setCell_other _ _ _ _ hne, heap_setCell_other _ _ _ _ hne]
  exact ⟨(World.cell?_of_block (w := W) (a := ⟨b, 0, none⟩) e).trans h.1, (World.cell?_of_block (w := W) (a := ⟨b, 1, none⟩) e).trans h.2.1, (World.cell?_of_block (w := W) (a := ⟨b, 2, none⟩) e).trans h.2.2.1, (World.cell?_of_block (w := W) (a := ⟨b, 3, none⟩) e).trans h.2.2.2⟩
theorem below_undrew {B : Nat} {w w' : World} (h : Below B w.drew w') : Below B w w' := ⟨h.os, h.tape, h.output, h.size, h.block⟩

set_option maxHeartbeats 4000000 in
theorem get_hv {w : World} {hb lim used : Nat} {R : Value} {os : List Ob} {Z : Nat → Prop} (h : Hv w hb lim used R os Z) (o K N : Int) (S : ByteArray) (O : Int) (hN : U64 N) (hS : S.size ≤ 9223372036854775807) :
    Calls Tryz.prog 9 #[.pointer (some ⟨hb, 0, none⟩), .int .i64 o, .agg #[.int .i64 K, .int .u64 N, .string S, .int .i64 O]] w fun e w' => e = .returned (getV os o K N S O).val ∧ Below w.heap.size w w' := by
  have hb0 : Below w.heap.size w ((w.alloc (.cells #[.int .i64 K, .int .u64 N, .string S, .int .i64 O] 37)).alloc (.cells #[.int .i64 0, .int .u64 0, .string ⟨#[]⟩, .int .i64 0] 37)) := ((Below.refl _ _).alloc (Nat.le_refl _) _).alloc (by simp) _
  have HT := tableOf_hv (h.below hb0) o
  have HK : Hid (∀ w, Calls Tryz.prog 23 #[.agg #[.int .i64 K, .int .u64 N, .string S, .int .i64 O]] w fun e w' => e = .returned (.tuple #[.agg #[.int .i64 (yK K N), .int .u64 (yN K N), .string (yS K N S), .int .i64 (yO K N O)], .bool (kok K N)]) ∧ Below w.heap.size w w') := fun w => key_any K N S O w hN
  have HB : Hid (Below w.heap.size w ((w.alloc (.cells #[.int .i64 K, .int .u64 N, .string S, .int .i64 O] 37)).alloc (.cells #[.int .i64 0, .int .u64 0, .string ⟨#[]⟩, .int .i64 0] 37))) := hb0
  unfold getV
  unfold ptrOf at HT
  cases hx : tabOf os o with
  | none =>
    rw [hx] at HT
    simp only [Option.bind_none] at HT
    clear h hx hb0
    generalize yK K N = YK at *
    generalize yN K N = YN at *
    generalize yS K N S = YS at *
    generalize yO K N O = YO at *
    generalize kok K N = ko at *
    go_enter Tryz.func9, Tryz.ntmps9
    go_wp2_with fail
    refine HT.mono ?_
    rintro e w1 ⟨rfl, rfl⟩
    clear HT
    go_wp2_with fail
    refine (HK.out _).mono ?_
    rintro e w1 ⟨rfl, hb1⟩
    have hc : ∀ i, w1.cell? ⟨w.heap.size + 1, i, none⟩ = ((w.alloc (.cells #[.int .i64 K, .int .u64 N, .string S, .int .i64 O] 37)).alloc (.cells #[.int .i64 0, .int .u64 0, .string ⟨#[]⟩, .int .i64 0] 37)).cell? ⟨w.heap.size + 1, i, none⟩ := fun i => hb1.cell (by simp)
    have z0 : w1.cell? ⟨w.heap.size + 1, 0, none⟩ = some (.int .i64 0) := by rw [hc]; go_simp
    have z1 : w1.cell? ⟨w.heap.size + 1, 1, none⟩ = some (.int .u64 0) := by rw [hc]; go_simp
    have z2 : w1.cell? ⟨w.heap.size + 1, 2, none⟩ = some (.string ⟨#[]⟩) := by rw [hc]; go_simp
    have z3 : w1.cell? ⟨w.heap.size + 1, 3, none⟩ = some (.int .i64 0) := by rw [hc]; go_simp
    have hf : ∀ i, w1.frozen? ⟨w.heap.size + 1, i, none⟩ = false := fun i => (hb1.frozen (by simp)).trans (by go_simp)
    have HB1 : Hid (Below w.heap.size w w1) := HB.out.trans (hb1.mono (by simp; omega))
    have hsz : w.heap.size + 1 < w1.heap.size := by have := hb1.size; simp at this; omega
    clear hb1 hc HB HK
    go_wp2
    exact bodyPost_ret (v := V0.val) (by simp [results, Tryz.results9, go_sem, V0, V4.val, vl4, z0, z1, z2, z3, hsz]) rfl ⟨rfl, (set41 HB1.out (by omega) _ _ _ _).alloc (by simp; omega) _⟩
  | some x =>
    obtain ⟨i, tb, ho, hi, ht⟩ := tabOf_some hx
    rw [hx] at HT
    rw [show (some x).bind Ob.ptr = some ⟨tb, 0, none⟩ by simp [Ob.ptr, ht]] at HT
    have HTV : Hid (∀ w', Below w.heap.size w w' → Tv w' tb x.X x.es x.M) := fun w' hb => (((h.below hb).ob i x hi).tab tb ht).2.1
    have HSY : Hid ((yS K N S).size ≤ 9223372036854775807) := by
      show (yS K N S).size ≤ _
      unfold yS nS
      split
      · split
        · exact hS
        · exact Nat.zero_le _
      · exact Nat.zero_le _
    simp only
    cases hko : kok K N with
    | false =>
      rw [if_neg (by decide)]
      rw [hko] at HK
      clear h hx hb0 HTV ho hi ht hko HSY
      generalize yK K N = YK at *
      generalize yN K N = YN at *
      generalize yS K N S = YS at *
      generalize yO K N O = YO at *
      go_enter Tryz.func9, Tryz.ntmps9
      go_wp2_with fail
      refine HT.mono ?_
      rintro e w1 ⟨rfl, rfl⟩
      clear HT
      go_wp2_with fail
      refine (HK.out _).mono ?_
      rintro e w1 ⟨rfl, hb1⟩
      have hc : ∀ i, w1.cell? ⟨w.heap.size + 1, i, none⟩ = ((w.alloc (.cells #[.int .i64 K, .int .u64 N, .string S, .int .i64 O] 37)).alloc (.cells #[.int .i64 0, .int .u64 0, .string ⟨#[]⟩, .int .i64 0] 37)).cell? ⟨w.heap.size + 1, i, none⟩ := fun i => hb1.cell (by simp)
      have z0 : w1.cell? ⟨w.heap.size + 1, 0, none⟩ = some (.int .i64 0) := by rw [hc]; go_simp
      have z1 : w1.cell? ⟨w.heap.size + 1, 1, none⟩ = some (.int .u64 0) := by rw [hc]; go_simp
      have z2 : w1.cell? ⟨w.heap.size + 1, 2, none⟩ = some (.string ⟨#[]⟩) := by rw [hc]; go_simp
      have z3 : w1.cell? ⟨w.heap.size + 1, 3, none⟩ = some (.int .i64 0) := by rw [hc]; go_simp
      have hf : ∀ i, w1.frozen? ⟨w.heap.size + 1, i, none⟩ = false := fun i => (hb1.frozen (by simp)).trans (by go_simp)
      have HB1 : Hid (Below w.heap.size w w1) := HB.out.trans (hb1.mono (by simp; omega))
      have hsz : w.heap.size + 1 < w1.heap.size := by have := hb1.size; simp at this; omega
      clear hb1 hc HB HK
      go_wp2
      exact bodyPost_ret (v := V0.val) (by simp [results, Tryz.results9, go_sem, V0, V4.val, vl4, z0, z1, z2, z3, hsz]) rfl ⟨rfl, (set41 HB1.out (by omega) _ _ _ _).alloc (by simp; omega) _⟩
    | true =>
      rw [if_pos rfl]
      rw [hko] at HK
      have HG : Hid (∀ w', Below w.heap.size w w' → Calls Tryz.prog 26 #[.pointer (some ⟨tb, 0, none⟩), .agg #[.int .i64 (yK K N), .int .u64 (yN K N), .string (yS K N S), .int .i64 (yO K N O)], .int .u64 (hZ (yK K N) (yN K N) (yS K N S) (yO K N O))] w' fun e w2 => e = .returned (.agg #[.int .i64 (fndV (ofKey (yK K N) (yN K N) (yS K N S) (yO K N O) x.es)).K, .int .u64 (fndV (ofKey (yK K N) (yN K N) (yS K N S) (yO K N O) x.es)).N, .string (fndV (ofKey (yK K N) (yN K N) (yS K N S) (yO K N O) x.es)).S, .int .i64 (fndV (ofKey (yK K N) (yN K N) (yS K N S) (yO K N O) x.es)).O]) ∧ Below w'.heap.size w' w2) := fun w' hb => tab_get (HTV.out w' hb) _ _ _ _
      have HH : Hid (∀ w', Calls Tryz.prog 25 #[.agg #[.int .i64 (yK K N), .int .u64 (yN K N), .string (yS K N S), .int .i64 (yO K N O)]] w' fun e w2 => e = .returned (.int .u64 (hZ (yK K N) (yN K N) (yS K N S) (yO K N O))) ∧ Below w'.heap.size w' w2) := fun w' => hash_any _ _ _ _ w' HSY.out
      clear h hx hb0 HTV ho hi ht hko HSY
      generalize fndV (ofKey (yK K N) (yN K N) (yS K N S) (yO K N O) x.es) = V at *
      generalize hZ (yK K N) (yN K N) (yS K N S) (yO K N O) = HZ at *
      generalize yK K N = YK at *
      generalize yN K N = YN at *
      generalize yS K N S = YS at *
      generalize yO K N O = YO at *
      go_enter Tryz.func9, Tryz.ntmps9
      go_wp2_with fail
      refine HT.mono ?_
      rintro e w1 ⟨rfl, rfl⟩
      clear HT
      go_wp2_with fail
      refine (HK.out _).mono ?_
      rintro e w1 ⟨rfl, hb1⟩
      have hc : ∀ i, w1.cell? ⟨w.heap.size + 1, i, none⟩ = ((w.alloc (.cells #[.int .i64 K, .int .u64 N, .string S, .int .i64 O] 37)).alloc (.cells #[.int .i64 0, .int .u64 0, .string ⟨#[]⟩, .int .i64 0] 37)).cell? ⟨w.heap.size + 1, i, none⟩ := fun i => hb1.cell (by simp)
      have z0 : w1.cell? ⟨w.heap.size + 1, 0, none⟩ = some (.int .i64 0) := by rw [hc]; go_simp
      have z1 : w1.cell? ⟨w.heap.size + 1, 1, none⟩ = some (.int .u64 0) := by rw [hc]; go_simp
      have z2 : w1.cell? ⟨w.heap.size + 1, 2, none⟩ = some (.string ⟨#[]⟩) := by rw [hc]; go_simp
      have z3 : w1.cell? ⟨w.heap.size + 1, 3, none⟩ = some (.int .i64 0) := by rw [hc]; go_simp
      have hf : ∀ i, w1.frozen? ⟨w.heap.size + 1, i, none⟩ = false := fun i => (hb1.frozen (by simp)).trans (by go_simp)
      have HB1 : Hid (Below w.heap.size w w1) := HB.out.trans (hb1.mono (by simp; omega))
      have hsz : w.heap.size + 1 < w1.heap.size := by have := hb1.size; simp at this; omega
      clear hb1 hc HB HK
      go_wp2_with fail
      have hne1 : ¬ w1.heap.size = w.heap.size + 1 := by omega
      have hne2 : ¬ w.heap.size + 1 = w1.heap.size := by omega
      go_region_held3 (fun w' => w'.cell? ⟨w1.heap.size, 0, none⟩ = some (.int .i64 YK) ∧ w'.cell? ⟨w1.heap.size, 1, none⟩ = some (.int .u64 YN) ∧ w'.cell? ⟨w1.heap.size, 2, none⟩ = some (.string YS) ∧ w'.cell? ⟨w1.heap.size, 3, none⟩ = some (.int .i64 YO))
        (first
          | go_keep
          | exact keep4 (by assumption) hb3
          | exact keep4 (by assumption) hb2
          | exact keep4' (by assumption) hne1)
        (first
          | (go_at_call 25; refine (HH.out _).mono ?_; rintro e w2 ⟨rfl, hb2⟩)
          | (go_at_call 26; refine (HG.out _ (by have h9 := (HB1.out.alloc (Nat.le_of_lt (Nat.lt_of_succ_lt hsz)) _).trans ((below_undrew hb2).mono (by simp; omega)); exact h9)).mono ?_; rintro e w3 ⟨rfl, hb3⟩; have hb13 : Below w1.heap.size w1 w3 := (((Below.refl _ w1).alloc (Nat.le_refl _) _).trans ((below_undrew hb2).mono (by simp))).trans (hb3.mono (by have := hb2.size; simp at this; omega)); obtain ⟨t0, t1, t2, t3⟩ := keep4 ⟨z0, z1, z2, z3⟩ hb13; have hf3 : ∀ i, w3.frozen? ⟨w.heap.size + 1, i, none⟩ = false := fun i => (hb13.frozen hsz).trans (hf i)))
      go_wp2
      exact bodyPost_ret (v := V.val) (by simp [results, Tryz.results9, go_sem, V4.val, vl4, t0, t1, t2, t3]) rfl ⟨rfl, set41 (HB1.out.trans (hb13.mono (by omega))) (by omega) _ _ _ _⟩

end Go.Proofs.YthmocdabakkfhaaGreatDoor

/-
  Layer 9: Set: a key that is not there.
-/
namespace Go.Proofs.YthmocdabakkfhaaGreatDoor
set_option maxRecDepth 100000
open Go.RowKit Flo

/-- The heap behind a key that came. -/
theorem Hv.came {w w4 w5 : World} {hb lim used i tb : Nat} {R : Value} {os : List Ob} {Z : Nat → Prop} {x : Ob} (h : Hv w hb lim used R os Z) (hi : os[i]? = some x) (ht : x.tb = some tb) (e : En) (hk : keyOk e) (hb4 : Below w.heap.size w w4) (heb : w.heap.size ≤ e.b) {X' : Nat → Prop}
    (hT : Tv w5 tb X' (x.es ++ [e]) x.M) (hW : Wx (fun k => x.X k ∨ k = e.b) w4 w5) (hX' : ∀ k, X' k → (x.X k ∨ k = e.b) ∨ w4.heap.size ≤ k) (hul : used + 1 ≤ lim) :
    Hv (w5.setCell ⟨hb, 1, none⟩ (.int .i64 ((used + 1 : Nat) : Int))) hb lim (used + 1) R (os.set i { x with es := x.es ++ [e], X := X' }) (Zn Z w.heap.size (w5.setCell ⟨hb, 1, none⟩ (.int .i64 ((used + 1 : Nat) : Int))).heap.size) ∧ Wx Z w (w5.setCell ⟨hb, 1, none⟩ (.int .i64 ((used + 1 : Nat) : Int))) := by
  have hs4 := hb4.size
  have hv := h.ob i x hi
  have h0 := hv.tab tb ht
  refine h.put (o' := { x with es := x.es ++ [e], X := X' }) hi (Y := fun k => x.X k ∨ k = e.b) ((Wx.of_below _ hb4).trans hW (fun k hk => Or.inl hk)) (fun j hj => ?_) rfl ⟨fun t e1 => ?_, fun e1 => ?_⟩ (fun j hj => ?_) (fun j hj => hT.lt j hj) rfl (h.mt i x hi) ?_ hul
  · rcases hj with c | c
    · exact Or.inl c
    · exact Or.inr (by omega)
  · have e2 : x.tb = some t := e1
    rw [ht] at e2
    injection e2 with e2
    subst e2
    refine ⟨h0.1, hT, fun f hf => ?_⟩
    have hf2 : f ∈ x.es ++ [e] := hf
    rcases List.mem_append.1 hf2 with c | c
    · exact h0.2.2 f c
    · rw [List.mem_singleton.1 c]; exact hk
  · have e2 : x.tb = none := e1
    rw [ht] at e2; cases e2
  · rcases hX' j hj with (c | c) | c
    · exact Or.inl c
    · exact Or.inr (by omega)
    · exact Or.inr (by omega)
  · simp only [Ob.wt, List.length_append, List.length_singleton]; omega

/-- A key in its form. -/
def keyP (K N : Int) (S : ByteArray) (O : Int) : Prop := kok K N = true ∧ nK K = K ∧ kN K N = N ∧ nS K S = S ∧ nO K O = O
/-- What a heap is behind a new key. -/
def Came (w : World) (hb lim used i : Nat) (R : Value) (os : List Ob) (Z : Nat → Prop) (x : Ob) (K N : Int) (S : ByteArray) (O vK vN : Int) (vS : ByteArray) (vO : Int) (w' : World) : Prop :=
  ∃ (b : Nat) (X' : Nat → Prop), Hv w' hb lim (used + 1) R (os.set i { x with es := x.es ++ [⟨b, K, N, S, O, hN K N S O, vK, vN, vS, vO⟩], X := X' }) (Zn Z w.heap.size w'.heap.size) ∧ Wx Z w w'

theorem entry_new {w2 : World} {q : Nat} {X : Nat → Prop} {es : List En} (K N : Int) (S : ByteArray) (O vK vN : Int) (vS : ByteArray) (vO : Int) (hN2 : U64 N) (hX : ∀ k, X k → k < w2.heap.size) (two : 1 < w2.heap.size) (hnone : ofKey K N S O es = none) :
    Nw ((w2.drewN q).alloc (.cells #[.int .i64 K, .int .u64 N, .string S, .int .i64 O, .int .i64 vK, .int .u64 vN, .string vS, .int .i64 vO, .int .u64 (hZ K N S O), .pointer none, .pointer none, .pointer none] 72)) X es ⟨w2.heap.size, K, N, S, O, hN K N S O, vK, vN, vS, vO⟩ := by
  have hc : ∀ o, ((w2.drewN q).alloc (.cells #[.int .i64 K, .int .u64 N, .string S, .int .i64 O, .int .i64 vK, .int .u64 vN, .string vS, .int .i64 vO, .int .u64 (hZ K N S O), .pointer none, .pointer none, .pointer none] 72)).cell? ⟨w2.heap.size, o, none⟩ = (#[.int .i64 K, .int .u64 N, .string S, .int .i64 O, .int .i64 vK, .int .u64 vN, .string vS, .int .i64 vO, .int .u64 (hZ K N S O), .pointer none, .pointer none, .pointer none] : Array Value)[o]? := fun o => World.cell?_alloc_at _ _ _ _ rfl
  refine ⟨⟨⟨hc 0, hc 1, hc 2, hc 3, hc 4, hc 5, hc 6, hc 7, ?_⟩, ?_⟩, rfl, hN2, hc 9, hc 10, hc 11, fun o => World.frozen?_alloc_at _ _ _ _ rfl, ?_, fun c => ?_, ?_, fun f hf c => ?_⟩
  · rw [show ((⟨w2.heap.size, K, N, S, O, hN K N S O, vK, vN, vS, vO⟩ : En).H : Int) = hZ K N S O from hN_eq K N S O]
    exact hc 8
  · show w2.heap.size < _
    simp
  · exact ⟨_, _, heap_alloc_new (w2.drewN q) _⟩
  · have : w2.heap.size < w2.heap.size := hX _ c
    omega
  · show w2.heap.size ≠ 1
    omega
  · have := List.find?_eq_none.1 hnone f hf
    exact this (decide_eq_true ⟨c.1.symm, c.2.1.symm, c.2.2.1.symm, c.2.2.2.symm⟩)

theorem add_came {w : World} {hb lim used i tb : Nat} {R : Value} {os : List Ob} {Z : Nat → Prop} {x : Ob} (h : Hv w hb lim used R os Z) (hi : os[i]? = some x) (ht : x.tb = some tb) (K N : Int) (S : ByteArray) (O vK vN : Int) (vS : ByteArray) (vO : Int) (hk : keyP K N S O) (hN2 : U64 N) (hnone : ofKey K N S O x.es = none) (hlt : used < lim)
    (w2 : World) (q : Nat) (hb2 : Below w.heap.size w w2) :
    Calls Tryz.prog 68 #[.pointer (some ⟨tb, 0, none⟩), .pointer (some ⟨w2.heap.size, 0, none⟩)] ((w2.drewN q).alloc (.cells #[.int .i64 K, .int .u64 N, .string S, .int .i64 O, .int .i64 vK, .int .u64 vN, .string vS, .int .i64 vO, .int .u64 (hZ K N S O), .pointer none, .pointer none, .pointer none] 72)) fun e w5 => e = .returned (.tuple #[]) ∧ w5.cell? ⟨hb, 1, none⟩ = some (.int .i64 (used : Int)) ∧ w5.frozen? ⟨hb, 1, none⟩ = false ∧
      Came w hb lim used i R os Z x K N S O vK vN vS vO (w5.setCell ⟨hb, 1, none⟩ (.int .i64 ((used : Int) + 1))) := by
  have hb4 : Below w.heap.size w ((w2.drewN q).alloc (.cells #[.int .i64 K, .int .u64 N, .string S, .int .i64 O, .int .i64 vK, .int .u64 vN, .string vS, .int .i64 vO, .int .u64 (hZ K N S O), .pointer none, .pointer none, .pointer none] 72)) := (hb2.trans ((hp_drewN w2 q).mono hb2.size)).alloc hb2.size _
  have hv4 := h.below hb4
  have hT := ((hv4.ob i x hi).tab tb ht).2.1
  have hXl : ∀ k, x.X k → k < w2.heap.size := fun k hk => by have := h.lt k (h.zx i x hi k hk).1; have := hb2.size; omega
  have two : 1 < w2.heap.size := by have := h.two; have := hb2.size; omega
  have hwt := sum_ge os i x hi
  have hes : x.es.length < 1048576 := by have := h.sum; have := h.hl; have hx : x.wt = 1 + x.es.length + x.sl.length := rfl; omega
  refine (tab_add hT (entry_new K N S O vK vN vS vO hN2 hXl two hnone) hes).mono ?_
  rintro e w5 ⟨rfl, X', h1, h2, h3⟩
  have hnb : ¬ (x.X hb ∨ hb = w2.heap.size) := by
    rintro (c | c)
    · exact (h.zx i x hi hb c).2.1 rfl
    · have := h.lt hb h.zh; have := hb2.size; omega
  have hc := h.came hi ht ⟨w2.heap.size, K, N, S, O, hN K N S O, vK, vN, vS, vO⟩ hk hb4 hb2.size h1 h2 h3 (by omega)
  refine ⟨rfl, h2.cell hnb hv4.c1, (h2.frozen (hv4.lt hb hv4.zh) hnb).trans (hv4.hfree 1), w2.heap.size, X', ?_⟩
  rw [show ((used : Int) + 1) = ((used + 1 : Nat) : Int) by omega]
  exact hc

set_option maxHeartbeats 4000000 in
theorem set_add {w : World} {hb lim used i tb : Nat} {R : Value} {os : List Ob} {Z : Nat → Prop} {x : Ob} (h : Hv w hb lim used R os Z) (hi : os[i]? = some x) (ht : x.tb = some tb) (K N : Int) (S : ByteArray) (O vK vN : Int) (vS : ByteArray) (vO : Int) (hk : keyP K N S O) (hN2 : U64 N) (hS : S.size ≤ 9223372036854775807) (hvK : vK ≠ 0) (hnone : ofKey K N S O x.es = none) (hlt : used < lim) :
    Calls Tryz.prog 51 #[.pointer (some ⟨hb, 0, none⟩), .pointer (some ⟨tb, 0, none⟩), .agg #[.int .i64 K, .int .u64 N, .string S, .int .i64 O], .agg #[.int .i64 vK, .int .u64 vN, .string vS, .int .i64 vO]] w fun e w' => e = .returned (.int .i64 0) ∧ Came w hb lim used i R os Z x K N S O vK vN vS vO w' := by
  have HB : Hid (Below w.heap.size w ((w.alloc (.cells #[.int .i64 K, .int .u64 N, .string S, .int .i64 O] 37)).alloc (.cells #[.int .i64 vK, .int .u64 vN, .string vS, .int .i64 vO] 37))) := ((Below.refl _ _).alloc (Nat.le_refl _) _).alloc (by simp) _
  have HH : Hid (∀ w', Calls Tryz.prog 25 #[.agg #[.int .i64 K, .int .u64 N, .string S, .int .i64 O]] w' fun e w2 => e = .returned (.int .u64 (hZ K N S O)) ∧ Below w'.heap.size w' w2) := fun w' => hash_any _ _ _ _ w' hS
  have HF : Hid (∀ w', Below w.heap.size w w' → Calls Tryz.prog 24 #[.pointer (some ⟨tb, 0, none⟩), .agg #[.int .i64 K, .int .u64 N, .string S, .int .i64 O], .int .u64 (hZ K N S O)] w' fun e w2 => e = .returned (.pointer none) ∧ Below w'.heap.size w' w2) := fun w' hb' => by
    have := tab_find (((h.below hb').ob i x hi).tab tb ht).2.1 K N S O
    rw [hnone] at this
    exact this
  have HL : Hid (∀ w', Below w.heap.size w w' → Calls Tryz.prog 49 #[.pointer (some ⟨hb, 0, none⟩)] w' fun e w2 => e = .returned (.int .i64 ((lim : Int) - used)) ∧ ∃ q, w2 = w'.drewN q) := fun w' hb' => by
    have h' := h.below hb'
    exact left_any hb lim used w' h'.c0 h'.c1 ⟨by omega, by have := h.hl; omega⟩ ⟨by omega, by have := h.hl; have := h.hu; omega⟩
  have HA : Hid (∀ w2 q, Below w.heap.size w w2 → Calls Tryz.prog 68 #[.pointer (some ⟨tb, 0, none⟩), .pointer (some ⟨w2.heap.size, 0, none⟩)] ((w2.drewN q).alloc (.cells #[.int .i64 K, .int .u64 N, .string S, .int .i64 O, .int .i64 vK, .int .u64 vN, .string vS, .int .i64 vO, .int .u64 (hZ K N S O), .pointer none, .pointer none, .pointer none] 72)) fun e w5 => e = .returned (.tuple #[]) ∧ w5.cell? ⟨hb, 1, none⟩ = some (.int .i64 (used : Int)) ∧ w5.frozen? ⟨hb, 1, none⟩ = false ∧
      Came w hb lim used i R os Z x K N S O vK vN vS vO (w5.setCell ⟨hb, 1, none⟩ (.int .i64 ((used : Int) + 1)))) := fun w2 q hb2 => add_came h hi ht K N S O vK vN vS vO hk hN2 hnone hlt w2 q hb2
  have hlt2 : ¬ ((lim : Int) - (used : Int) < 1) := by omega
  have hu1 : used < 1048576 := by have := h.hl; omega
  clear h hi ht hk hnone hlt
  generalize hZ K N S O = H at *
  go_enter Tryz.func51, Tryz.ntmps51
  go_wp2_with fail
  refine (HH.out _).mono ?_
  rintro e w1 ⟨rfl, hb1⟩
  have hk1 := keep4 (b := w.heap.size) (v0 := .int .i64 K) (v1 := .int .u64 N) (v2 := .string S) (v3 := .int .i64 O) ⟨by go_simp, by go_simp, by go_simp, by go_simp⟩ hb1
  have hv1 := keep4 (b := w.heap.size + 1) (v0 := .int .i64 vK) (v1 := .int .u64 vN) (v2 := .string vS) (v3 := .int .i64 vO) ⟨by go_simp, by go_simp, by go_simp, by go_simp⟩ hb1
  have HB1 : Hid (Below w.heap.size w w1) := HB.out.trans (hb1.mono (by simp; omega))
  obtain ⟨p0, p1, p2, p3⟩ := hk1
  have HV1 : Hid (_ ∧ _) := hv1
  have HK1 : Hid (_ ∧ _ ∧ _ ∧ _) := ⟨p0, p1, p2, p3⟩
  clear hb1 HB HH hv1
  go_wp2_with fail
  refine (HF.out _ HB1.out).mono ?_
  rintro e w2 ⟨rfl, hb2⟩
  obtain ⟨q0, q1, q2, q3⟩ := keep4 HK1.out hb2
  obtain ⟨u0, u1, u2, u3⟩ := keep4 HV1.out hb2
  have HB2 : Hid (Below w.heap.size w w2) := HB1.out.trans (hb2.mono HB1.out.size)
  clear hb2 HB1 HK1 HV1 HF p0 p1 p2 p3
  go_wp2_with fail
  refine (HL.out _ HB2.out).mono ?_
  rintro e w3 ⟨rfl, q, rfl⟩
  clear HL
  go_wp2_with fail
  refine (HA.out w2 q HB2.out).mono ?_
  rintro e w5 ⟨rfl, c1, f1, hc⟩
  have HC : Hid _ := hc
  clear hc HA HB2
  go_wp2
  go_ret
  exact ⟨rfl, HC.out⟩

end Go.Proofs.YthmocdabakkfhaaGreatDoor

/-
  Layer 9: Set of a key that is not there.
-/
namespace Go.Proofs.YthmocdabakkfhaaGreatDoor
set_option maxRecDepth 100000
open Go.RowKit Flo

set_option maxHeartbeats 4000000 in
theorem set_nil {w : World} {hb lim used i tb : Nat} {R : Value} {os : List Ob} {Z : Nat → Prop} {x : Ob} (h : Hv w hb lim used R os Z) (hi : os[i]? = some x) (ht : x.tb = some tb) (K N : Int) (S : ByteArray) (O vN : Int) (vS : ByteArray) (vO : Int) (hS : S.size ≤ 9223372036854775807) (hnone : ofKey K N S O x.es = none) :
    Calls Tryz.prog 51 #[.pointer (some ⟨hb, 0, none⟩), .pointer (some ⟨tb, 0, none⟩), .agg #[.int .i64 K, .int .u64 N, .string S, .int .i64 O], .agg #[.int .i64 0, .int .u64 vN, .string vS, .int .i64 vO]] w fun e w' => e = .returned (.int .i64 0) ∧ Below w.heap.size w w' := by
  have HB : Hid (Below w.heap.size w ((w.alloc (.cells #[.int .i64 K, .int .u64 N, .string S, .int .i64 O] 37)).alloc (.cells #[.int .i64 0, .int .u64 vN, .string vS, .int .i64 vO] 37))) := ((Below.refl _ _).alloc (Nat.le_refl _) _).alloc (by simp) _
  have HH : Hid (∀ w', Calls Tryz.prog 25 #[.agg #[.int .i64 K, .int .u64 N, .string S, .int .i64 O]] w' fun e w2 => e = .returned (.int .u64 (hZ K N S O)) ∧ Below w'.heap.size w' w2) := fun w' => hash_any _ _ _ _ w' hS
  have HF : Hid (∀ w', Below w.heap.size w w' → Calls Tryz.prog 24 #[.pointer (some ⟨tb, 0, none⟩), .agg #[.int .i64 K, .int .u64 N, .string S, .int .i64 O], .int .u64 (hZ K N S O)] w' fun e w2 => e = .returned (.pointer none) ∧ Below w'.heap.size w' w2) := fun w' hb' => by
    have := tab_find (((h.below hb').ob i x hi).tab tb ht).2.1 K N S O
    rw [hnone] at this
    exact this
  clear h hi ht hnone
  generalize hZ K N S O = H at *
  go_enter Tryz.func51, Tryz.ntmps51
  go_wp2_with fail
  refine (HH.out _).mono ?_
  rintro e w1 ⟨rfl, hb1⟩
  obtain ⟨p0, p1, p2, p3⟩ := keep4 (b := w.heap.size) (v0 := .int .i64 K) (v1 := .int .u64 N) (v2 := .string S) (v3 := .int .i64 O) ⟨by go_simp, by go_simp, by go_simp, by go_simp⟩ hb1
  have hv1 := keep4 (b := w.heap.size + 1) (v0 := .int .i64 0) (v1 := .int .u64 vN) (v2 := .string vS) (v3 := .int .i64 vO) ⟨by go_simp, by go_simp, by go_simp, by go_simp⟩ hb1
  have HB1 : Hid (Below w.heap.size w w1) := HB.out.trans (hb1.mono (by simp; omega))
  have HV1 : Hid (_ ∧ _) := hv1
  clear hb1 HB HH hv1
  go_wp2_with fail
  refine (HF.out _ HB1.out).mono ?_
  rintro e w2 ⟨rfl, hb2⟩
  obtain ⟨u0, u1, u2, u3⟩ := keep4 HV1.out hb2
  have HB2 : Hid (Below w.heap.size w w2) := HB1.out.trans (hb2.mono HB1.out.size)
  clear hb2 HB1 HV1 HF p0 p1 p2 p3
  go_wp2
  go_ret
  exact ⟨rfl, HB2.out⟩

set_option maxHeartbeats 4000000 in
theorem Set_no {w : World} {hb lim used i tb : Nat} {R : Value} {os : List Ob} {Z : Nat → Prop} {x : Ob} (h : Hv w hb lim used R os Z) (hi : os[i]? = some x) (ht : x.tb = some tb) (o : Int) (ho : o = (i : Int) + 1) (K N : Int) (S : ByteArray) (O vK vN : Int) (vS : ByteArray) (vO : Int) (hN2 : U64 N) (hko : kok K N = false) :
    Calls Tryz.prog 17 #[.pointer (some ⟨hb, 0, none⟩), .int .i64 o, .agg #[.int .i64 K, .int .u64 N, .string S, .int .i64 O], .agg #[.int .i64 vK, .int .u64 vN, .string vS, .int .i64 vO]] w fun e w' => e = .returned (.int .i64 1) ∧ Below w.heap.size w w' := by
  have HT : Hid (∀ w', Below w.heap.size w w' → Calls Tryz.prog 21 #[.pointer (some ⟨hb, 0, none⟩), .int .i64 o] w' fun e w2 => e = .returned (.pointer (some ⟨tb, 0, none⟩)) ∧ w2 = w') := fun w' hb' => by
    have := tableOf_hv (h.below hb') o
    rw [show ptrOf os o = some ⟨tb, 0, none⟩ by unfold ptrOf; rw [ho, tabOf_of hi ht]; simp [Ob.ptr, ht]] at this
    exact this
  have HK : Hid (∀ w, Calls Tryz.prog 23 #[.agg #[.int .i64 K, .int .u64 N, .string S, .int .i64 O]] w fun e w' => e = .returned (.tuple #[.agg #[.int .i64 (yK K N), .int .u64 (yN K N), .string (yS K N S), .int .i64 (yO K N O)], .bool (kok K N)]) ∧ Below w.heap.size w w') := fun w => key_any K N S O w hN2
  have HB : Hid (Below w.heap.size w ((w.alloc (.cells #[.int .i64 K, .int .u64 N, .string S, .int .i64 O] 37)).alloc (.cells #[.int .i64 vK, .int .u64 vN, .string vS, .int .i64 vO] 37))) := ((Below.refl _ _).alloc (Nat.le_refl _) _).alloc (by simp) _
  rw [hko] at HK
  clear h hi ht ho hko
  generalize yK K N = YK at *
  generalize yN K N = YN at *
  generalize yS K N S = YS at *
  generalize yO K N O = YO at *
  go_enter Tryz.func17, Tryz.ntmps17
  go_wp2_with fail
  refine (HT.out _ HB.out).mono ?_
  rintro e w1 ⟨rfl, rfl⟩
  clear HT
  go_wp2_with fail
  refine (HK.out _).mono ?_
  rintro e w1 ⟨rfl, hb1⟩
  have HB1 : Hid (Below w.heap.size w w1) := HB.out.trans (hb1.mono (by simp; omega))
  clear hb1 HB HK
  go_wp2
  go_ret
  exact ⟨rfl, HB1.out.alloc HB1.out.size _⟩

/-- What becomes of a heap by a value under a key that is not there. -/
def SetP (w : World) (hb lim used i : Nat) (R : Value) (os : List Ob) (Z : Nat → Prop) (x : Ob) (K N : Int) (S : ByteArray) (O vK vN : Int) (vS : ByteArray) (vO : Int) (w' : World) : Prop :=
  (vK = 0 → Hv w' hb lim used R os Z ∧ Wx Z w w') ∧ (vK ≠ 0 → Came w hb lim used i R os Z x K N S O vK vN vS vO w')
theorem Came.from {w w1 : World} {hb lim used i : Nat} {R : Value} {os : List Ob} {Z : Nat → Prop} {x : Ob} {K N : Int} {S : ByteArray} {O vK vN : Int} {vS : ByteArray} {vO : Int} {w' : World} (h : Hv w hb lim used R os Z) (hb1 : Below w.heap.size w w1) (hc : Came w1 hb lim used i R os Z x K N S O vK vN vS vO w') : Came w hb lim used i R os Z x K N S O vK vN vS vO w' := by
  obtain ⟨b, X', h1, h2⟩ := hc
  have hs := hb1.size
  have two := h.two
  refine ⟨b, X', ?_, (Wx.of_below Z hb1).trans h2 (fun k hk => Or.inl hk)⟩
  exact ⟨h1.c0, h1.c1, h1.c2, h1.hfree, h1.row, h1.hl, h1.hu, h1.sum, h1.ob, h1.mt, fun k hk => by
      rcases hk with c | c
      · have := h.lt k c; have := h2.size; omega
      · exact c.2,
    fun c => by
      rcases c with c | c
      · exact h.no1 c
      · omega,
    Or.inl h.zh, fun g hg => ⟨by
      rcases (h1.zr g hg).1 with c | c
      · exact Or.inl c
      · exact Or.inr ⟨by omega, c.2⟩, (h1.zr g hg).2⟩,
    fun j p hp k hk => ⟨by
      rcases (h1.zx j p hp k hk).1 with c | c
      · exact Or.inl c
      · exact Or.inr ⟨by omega, c.2⟩, (h1.zx j p hp k hk).2⟩, h1.xx, h1.db⟩
theorem keyP_y {K N : Int} (S : ByteArray) (O : Int) (h : kok K N = true) : keyP (yK K N) (yN K N) (yS K N S) (yO K N O) := by
  unfold yK yN yS yO keyP
  rw [if_pos h, if_pos h, if_pos h, if_pos h]
  exact key_key S O h
theorem yS_size {K N : Int} {S : ByteArray} (hS : S.size ≤ 9223372036854775807) : (yS K N S).size ≤ 9223372036854775807 := by
  have h2 : (nS K S).size ≤ 9223372036854775807 := by
    unfold nS
    split
    · exact hS
    · exact Nat.zero_le _
  unfold yS
  split
  · exact h2
  · exact Nat.zero_le _
theorem yN_u64 {K N : Int} (h : U64 N) : U64 (yN K N) := by
  unfold yN
  split
  · exact kN_u64 h
  · exact ⟨by decide, by decide⟩
theorem set_any0 {w : World} {hb lim used i tb : Nat} {R : Value} {os : List Ob} {Z : Nat → Prop} {x : Ob} (h : Hv w hb lim used R os Z) (hi : os[i]? = some x) (ht : x.tb = some tb) (K N : Int) (S : ByteArray) (O vK vN : Int) (vS : ByteArray) (vO : Int) (hk : keyP K N S O) (hN2 : U64 N) (hS : S.size ≤ 9223372036854775807) (hnone : ofKey K N S O x.es = none) (hlt : used < lim) (w1 : World) (hb1 : Below w.heap.size w w1) :
    Calls Tryz.prog 51 #[.pointer (some ⟨hb, 0, none⟩), .pointer (some ⟨tb, 0, none⟩), .agg #[.int .i64 K, .int .u64 N, .string S, .int .i64 O], .agg #[.int .i64 vK, .int .u64 vN, .string vS, .int .i64 vO]] w1 fun e w' => e = .returned (.int .i64 0) ∧ SetP w hb lim used i R os Z x K N S O vK vN vS vO w' ∧ Wx Z w1 w' := by
  by_cases c : vK = 0
  · subst c
    refine (set_nil (h.below hb1) hi ht K N S O vN vS vO hS hnone).mono ?_
    rintro e w' ⟨rfl, hb2⟩
    exact ⟨rfl, ⟨fun _ => ⟨(h.below hb1).below hb2, (Wx.of_below Z hb1).trans (Wx.of_below Z hb2) (fun k hk => Or.inl hk)⟩, fun c => absurd rfl c⟩, Wx.of_below Z hb2⟩
  · refine (set_add (h.below hb1) hi ht K N S O vK vN vS vO hk hN2 hS c hnone hlt).mono ?_
    rintro e w' ⟨rfl, hc⟩
    refine ⟨rfl, ⟨fun k => absurd k c, fun _ => hc.from h hb1⟩, ?_⟩
    obtain ⟨b, X', _, h2⟩ := hc
    exact h2

theorem keep8 {W w' : World} {b c : Nat} {v0 v1 v2 v3 u0 u1 u2 u3 : Value} (h : (W.cell? ⟨b, 0, none⟩ = some v0 ∧ W.cell? ⟨b, 1, none⟩ = some v1 ∧ W.cell? ⟨b, 2, none⟩ = some v2 ∧ W.cell? ⟨b, 3, none⟩ = some v3) ∧ W.cell? ⟨c, 0, none⟩ = some u0 ∧ W.cell? ⟨c, 1, none⟩ = some u1 ∧ W.cell? ⟨c, 2, none⟩ = some u2 ∧ W.cell? ⟨c, 3, none⟩ = some u3) (hb : Below W.heap.size W w') :
    (w'.cell? ⟨b, 0, none⟩ = some v0 ∧ w'.cell? ⟨b, 1, none⟩ = some v1 ∧ w'.cell? ⟨b, 2, none⟩ = some v2 ∧ w'.cell? ⟨b, 3, none⟩ = some v3) ∧ w'.cell? ⟨c, 0, none⟩ = some u0 ∧ w'.cell? ⟨c, 1, none⟩ = some u1 ∧ w'.cell? ⟨c, 2, none⟩ = some u2 ∧ w'.cell? ⟨c, 3, none⟩ = some u3 :=
  ⟨keep4 h.1 hb, keep4 h.2 hb⟩
theorem keep8x {W w' : World} {Z : Nat → Prop} {b c : Nat} {v0 v1 v2 v3 u0 u1 u2 u3 : Value} (h : (W.cell? ⟨b, 0, none⟩ = some v0 ∧ W.cell? ⟨b, 1, none⟩ = some v1 ∧ W.cell? ⟨b, 2, none⟩ = some v2 ∧ W.cell? ⟨b, 3, none⟩ = some v3) ∧ W.cell? ⟨c, 0, none⟩ = some u0 ∧ W.cell? ⟨c, 1, none⟩ = some u1 ∧ W.cell? ⟨c, 2, none⟩ = some u2 ∧ W.cell? ⟨c, 3, none⟩ = some u3) (hx : Wx Z W w') (hb : ¬ Z b) (hc : ¬ Z c) :
    (w'.cell? ⟨b, 0, none⟩ = some v0 ∧ w'.cell? ⟨b, 1, none⟩ = some v1 ∧ w'.cell? ⟨b, 2, none⟩ = some v2 ∧ w'.cell? ⟨b, 3, none⟩ = some v3) ∧ w'.cell? ⟨c, 0, none⟩ = some u0 ∧ w'.cell? ⟨c, 1, none⟩ = some u1 ∧ w'.cell? ⟨c, 2, none⟩ = some u2 ∧ w'.cell? ⟨c, 3, none⟩ = some u3 :=
  ⟨⟨hx.cell hb h.1.1, hx.cell hb h.1.2.1, hx.cell hb h.1.2.2.1, hx.cell hb h.1.2.2.2⟩, hx.cell hc h.2.1, hx.cell hc h.2.2.1, hx.cell hc h.2.2.2.1, hx.cell hc h.2.2.2.2⟩

set_option maxHeartbeats 4000000 in
theorem Set_new {w : World} {hb lim used i tb : Nat} {R : Value} {os : List Ob} {Z : Nat → Prop} {x : Ob} (h : Hv w hb lim used R os Z) (hi : os[i]? = some x) (ht : x.tb = some tb) (o : Int) (ho : o = (i : Int) + 1) (K N : Int) (S : ByteArray) (O vK vN : Int) (vS : ByteArray) (vO : Int) (hN2 : U64 N) (hvN : U64 vN) (hS : S.size ≤ 9223372036854775807) (hko : kok K N = true) (hnone : ofKey (yK K N) (yN K N) (yS K N S) (yO K N O) x.es = none) (hlt : used < lim) :
    Calls Tryz.prog 17 #[.pointer (some ⟨hb, 0, none⟩), .int .i64 o, .agg #[.int .i64 K, .int .u64 N, .string S, .int .i64 O], .agg #[.int .i64 vK, .int .u64 vN, .string vS, .int .i64 vO]] w fun e w' => e = .returned (.int .i64 0) ∧ SetP w hb lim used i R os Z x (yK K N) (yN K N) (yS K N S) (yO K N O) (nK vK) (nN vK vN) (nS vK vS) (nO vK vO) w' := by
  have HT : Hid (∀ w', Below w.heap.size w w' → Calls Tryz.prog 21 #[.pointer (some ⟨hb, 0, none⟩), .int .i64 o] w' fun e w2 => e = .returned (.pointer (some ⟨tb, 0, none⟩)) ∧ w2 = w') := fun w' hb' => by
    have := tableOf_hv (h.below hb') o
    rw [show ptrOf os o = some ⟨tb, 0, none⟩ by unfold ptrOf; rw [ho, tabOf_of hi ht]; simp [Ob.ptr, ht]] at this
    exact this
  have HK : Hid (∀ w, Calls Tryz.prog 23 #[.agg #[.int .i64 K, .int .u64 N, .string S, .int .i64 O]] w fun e w' => e = .returned (.tuple #[.agg #[.int .i64 (yK K N), .int .u64 (yN K N), .string (yS K N S), .int .i64 (yO K N O)], .bool (kok K N)]) ∧ Below w.heap.size w w') := fun w => key_any K N S O w hN2
  have HB : Hid (Below w.heap.size w ((w.alloc (.cells #[.int .i64 K, .int .u64 N, .string S, .int .i64 O] 37)).alloc (.cells #[.int .i64 vK, .int .u64 vN, .string vS, .int .i64 vO] 37))) := ((Below.refl _ _).alloc (Nat.le_refl _) _).alloc (by simp) _
  rw [hko] at HK
  have HSY : (yS K N S).size ≤ 9223372036854775807 := yS_size hS
  have HN : Hid (∀ w, Calls Tryz.prog 22 #[.agg #[.int .i64 vK, .int .u64 vN, .string vS, .int .i64 vO]] w fun e w' => e = .returned (.agg #[.int .i64 (nK vK), .int .u64 (nN vK vN), .string (nS vK vS), .int .i64 (nO vK vO)]) ∧ Below w.heap.size w w') := fun w => normal_any vK vN vS vO w hvN
  have HS : Hid (∀ w1, Below w.heap.size w w1 → Calls Tryz.prog 51 #[.pointer (some ⟨hb, 0, none⟩), .pointer (some ⟨tb, 0, none⟩), .agg #[.int .i64 (yK K N), .int .u64 (yN K N), .string (yS K N S), .int .i64 (yO K N O)], .agg #[.int .i64 (nK vK), .int .u64 (nN vK vN), .string (nS vK vS), .int .i64 (nO vK vO)]] w1 fun e w' => e = .returned (.int .i64 0) ∧ SetP w hb lim used i R os Z x (yK K N) (yN K N) (yS K N S) (yO K N O) (nK vK) (nN vK vN) (nS vK vS) (nO vK vO) w' ∧ Wx Z w1 w') :=
    fun w1 hb1 => set_any0 h hi ht _ _ _ _ _ _ _ _ (keyP_y S O hko) (yN_u64 hN2) HSY hnone hlt w1 hb1
  have HZ : Hid (∀ k, w.heap.size ≤ k → ¬ Z k) := fun k hk c => by have := h.lt k c; omega
  clear h hi ht ho hko hnone HSY
  generalize yK K N = YK at *
  generalize yN K N = YN at *
  generalize yS K N S = YS at *
  generalize yO K N O = YO at *
  generalize nK vK = NK at *
  generalize nN vK vN = NN at *
  generalize nS vK vS = NS at *
  generalize nO vK vO = NO at *
  go_enter Tryz.func17, Tryz.ntmps17
  go_wp2_with fail
  refine (HT.out _ HB.out).mono ?_
  rintro e w1 ⟨rfl, rfl⟩
  clear HT
  go_wp2_with fail
  refine (HK.out _).mono ?_
  rintro e w1 ⟨rfl, hb1⟩
  have hk1 := keep4 (b := w.heap.size + 1) (v0 := .int .i64 vK) (v1 := .int .u64 vN) (v2 := .string vS) (v3 := .int .i64 vO) ⟨by go_simp, by go_simp, by go_simp, by go_simp⟩ hb1
  obtain ⟨p0, p1, p2, p3⟩ := hk1
  have HB1 : Hid (Below w.heap.size w w1) := HB.out.trans (hb1.mono (by simp; omega))
  have hsz : w.heap.size + 1 < w1.heap.size := by have := hb1.size; simp at this; omega
  clear hb1 HB HK
  go_wp2_with fail
  go_region_held3 (fun w' => (w'.cell? ⟨w1.heap.size, 0, none⟩ = some (.int .i64 YK) ∧ w'.cell? ⟨w1.heap.size, 1, none⟩ = some (.int .u64 YN) ∧ w'.cell? ⟨w1.heap.size, 2, none⟩ = some (.string YS) ∧ w'.cell? ⟨w1.heap.size, 3, none⟩ = some (.int .i64 YO)) ∧
      w'.cell? ⟨w.heap.size + 1, 0, none⟩ = some (.int .i64 vK) ∧ w'.cell? ⟨w.heap.size + 1, 1, none⟩ = some (.int .u64 vN) ∧ w'.cell? ⟨w.heap.size + 1, 2, none⟩ = some (.string vS) ∧ w'.cell? ⟨w.heap.size + 1, 3, none⟩ = some (.int .i64 vO))
    (first
      | go_keep
      | exact keep8x (by assumption) hx3 (HZ.out _ (by omega)) (HZ.out _ (by omega))
      | exact keep8 (by assumption) hb2)
    (first
      | (go_at_call 22; refine (HN.out _).mono ?_; rintro e w2 ⟨rfl, hb2⟩)
      | (go_at_call 51; refine (HS.out _ (by have h9 := (HB1.out.alloc (Nat.le_of_lt (Nat.lt_of_succ_lt hsz)) _).trans ((below_undrew hb2).mono (by simp; omega)); exact h9)).mono ?_; rintro e w3 ⟨rfl, hsp, hx3⟩; have HSP : Hid _ := hsp; clear hsp))
  go_wp2
  go_ret
  exact ⟨rfl, HSP.out⟩

end Go.Proofs.YthmocdabakkfhaaGreatDoor

/-
  Layer 9: a key that goes out of a table, on tables as a whole.
-/
namespace Go.Proofs.YthmocdabakkfhaaGreatDoor
set_option maxRecDepth 100000
open Go.RowKit Flo

/-- Numbers of one place are one. -/
theorem bit_same {m : Nat} {K N K' N' : Int} (hN : U64 N) (hN' : U64 N') (h : bitB m K N = true) (h' : bitB m K' N' = true) (e : bitN m K N = bitN m K' N') : K = 3 ∧ K' = 3 ∧ N = N' := by
  have a := of_decide_eq_true (by unfold bitB at h; exact h)
  have a' := of_decide_eq_true (by unfold bitB at h'; exact h')
  unfold bitN at e
  rw [if_pos h, if_pos h'] at e
  have e2 : toI N = toI N' := by omega
  refine ⟨a.1, a'.1, ?_⟩
  have tzN : toI N = tz N := by unfold toI; rw [if_pos a.2.1]
  have tzN' : toI N' = tz N' := by unfold toI; rw [if_pos a'.2.1]
  have isN : isZ N = true := by have := a.2.1; unfold toB at this; simp at this; exact this.1
  have isN' : isZ N' = true := by have := a'.2.1; unfold toB at this; simp at this; exact this.1
  have mz : ∀ x : Int, 1 ≤ tz x → MZ x ≠ 0 := fun x hx c => by
    unfold tz at hx
    rw [c, Nat.zero_div] at hx
    unfold sz at hx
    split at hx <;> simp at hx
  have b := back_word hN isN (mz N (by omega))
  have b' := back_word hN' isN' (mz N' (by omega))
  rw [← b, ← b', ← tzN, ← tzN', e2]

/-- A key that goes, out of what is counted. -/
theorem sz_drop {m s : Nat} {W : Nat → Nat} {xo yo : List En} {e : En} (h : Sz m W s (hasP m (xo ++ e :: yo))) (hu : ∀ f ∈ xo ++ e :: yo, U64 f.N)
    (hn : ∀ f ∈ xo ++ yo, ¬ (e.K = 3 ∧ f.K = 3 ∧ e.N = f.N)) : Sz m (disW m W e.K e.N) (disS m s e.K e.N) (hasP m (xo ++ yo)) := by
  refine (h.discount e.K e.N).same fun p _ => ?_
  unfold hasP
  constructor
  · rintro ⟨⟨f, hf, h1, h2⟩, h3⟩
    rcases List.mem_append.1 hf with c | c
    · exact ⟨f, List.mem_append_left _ c, h1, h2⟩
    · rcases List.mem_cons.1 c with d | d
      · subst d; exact absurd ⟨h1, h2⟩ h3
      · exact ⟨f, List.mem_append_right _ d, h1, h2⟩
  · rintro ⟨f, hf, h1, h2⟩
    have hf2 : f ∈ xo ++ e :: yo := by
      rcases List.mem_append.1 hf with c | c
      · exact List.mem_append_left _ c
      · exact List.mem_append_right _ (List.mem_cons_of_mem _ c)
    refine ⟨⟨f, hf2, h1, h2⟩, fun c => ?_⟩
    have := bit_same (hu e (by simp)) (hu f hf2) c.1 h1 (c.2.symm.trans h2)
    exact hn f hf ⟨this.1, this.2.1, this.2.2⟩

/-- A key that is there goes. -/
theorem tab_drop {w : World} {tb : Nat} {X : Nat → Prop} {xo yo : List En} {e : En} {M : V4} (h : Tv w tb X (xo ++ e :: yo) M) (hn : ∀ f ∈ xo ++ yo, ¬ (e.K = 3 ∧ f.K = 3 ∧ e.N = f.N)) :
    Calls Tryz.prog 67 #[.pointer (some ⟨tb, 0, none⟩), .pointer (some ⟨e.b, 0, none⟩)] w fun x w' => x = .returned (.tuple #[]) ∧
      ∃ X', Tv w' tb X' (xo ++ yo) M ∧ Wx X w w' ∧ ∀ k, X' k → X k ∨ w.heap.size ≤ k := by
  have hmem : ∀ f ∈ xo ++ yo, f ∈ xo ++ e :: yo := fun f hf => by
    rcases List.mem_append.1 hf with c | c
    · exact List.mem_append_left _ c
    · exact List.mem_append_right _ (List.mem_cons_of_mem _ c)
  rcases h.bod with ⟨e0, _⟩ | ⟨g, n, c, m, cs, W, s, t⟩
  · simp at e0
  have hlen : (xo ++ e :: yo).length = xo.length + yo.length + 1 := by simp; omega
  have hlen2 : (xo ++ yo).length = xo.length + yo.length := by simp
  have hfew := h.few
  have hg1 : g ≠ 1 := fun k => h.no1 (k ▸ t.xg)
  have hdr : Dr w tb g n c m cs W s xo e yo :=
    ⟨h.ord, t.kb, t.kc, t.row.1, fun o => h.free tb o h.own, fun f hf o => h.free f.b o (h.ent f hf).1, t.row.2, h.u64 e (by simp), h.db, t.gt, t.gc, hg1, fun k => h.no1 (k ▸ h.own), t.ec, fun f hf k => h.no1 (k ▸ (h.ent f hf).1), fun f hf => (h.ent f hf).2⟩
  have hu : ∀ f ∈ xo ++ yo, U64 f.N := fun f hf => h.u64 f (hmem f hf)
  have hent : ∀ f ∈ xo ++ yo, X f.b ∧ Blk w f.b := fun f hf => h.ent f (hmem f hf)
  have hfull := t.full
  have hj := bk_lt e.H t.kb.pos
  -- what is written ahead of a spreading
  have hA3 : ∀ (p r : List En), cs (bk e.H n) = p ++ e :: r → ∀ k o, (k, o) ∈ ([linkOf g (bk e.H n) p] ++ dropA tb xo yo) ++ [(c, bitN m e.K e.N / 64), (tb, 9)] → X k ∧ (k = tb → 4 ≤ o) := by
    intro p r hc k o hm
    rcases List.mem_append.1 hm with hm | hm
    · rcases List.mem_append.1 hm with hm | hm
      · rcases linkOf_cases (List.mem_singleton.1 hm) with ⟨q1, q2⟩ | ⟨q1, x, hx, q2⟩
        · exact ⟨q1 ▸ t.xg, fun k1 => absurd (q1.symm.trans k1) t.gt⟩
        · have hx2 := ((t.kb.mem _ hj x).1 (by rw [hc]; exact List.mem_append_left _ hx)).1
          exact ⟨q2 ▸ (h.ent x hx2).1, fun _ => by omega⟩
      · rcases dropA_cases hm with ⟨q1, q2⟩ | ⟨q1, z, hz, q2⟩ | ⟨q1, y, l, hy, q2⟩
        · exact ⟨q1 ▸ h.own, fun _ => by omega⟩
        · exact ⟨q2 ▸ (h.ent z (List.mem_append_left _ (List.mem_of_getLast? hz))).1, fun _ => by omega⟩
        · exact ⟨q2 ▸ (h.ent y (by rw [hy]; simp)).1, fun _ => by omega⟩
    · simp only [List.mem_cons, Prod.mk.injEq, List.not_mem_nil, or_false] at hm
      rcases hm with ⟨q1, _⟩ | ⟨q1, q2⟩
      · exact ⟨q1 ▸ t.xc, fun k1 => absurd (k1.symm.trans q1) t.kc.ne⟩
      · exact ⟨q1 ▸ h.own, fun _ => by omega⟩
  have hsz := sz_drop t.sz h.u64 hn
  obtain ⟨kn, hkn⟩ := t.n4
  by_cases hs : 4 < n ∧ xo.length + yo.length < n / 4
  · refine (drop_shrink tb g n c m cs W s xo e yo w hdr hs hu (n / 2) ((n / 2 + 63) / 64) rfl rfl (by omega)).mono ?_
    rintro x w' ⟨rfl, p, r, w1, w2, w3, hc, a1, a2, a3, b1, b2, b3, w4, W1, d1, d2, d3⟩
    refine ⟨rfl, ?_⟩
    obtain ⟨kn, rfl⟩ : ∃ k, kn = k + 1 := by
      cases kn with
      | zero => omega
      | succ k => exact ⟨k, rfl⟩
    have hn4 : ∃ k, n / 2 = 4 * 2 ^ k := ⟨kn, by rw [hkn, Nat.pow_succ]; omega⟩
    have hpos : 1 ≤ 2 ^ kn := Nat.one_le_two_pow
    have hnb : 8 ≤ n := by rw [hkn, Nat.pow_succ]; omega
    have ht := ((((a1.trans a2).trans a3).trans d1).trans d2.wr).trans d3.wt
    have hs4 : w.heap.size ≤ w4.heap.size := by have := a1.size; have := a2.size; have := a3.size; have := d1.size; omega
    have hs1 := d2.size
    obtain ⟨cs', hcs'⟩ := d3.bx
    have hfl : ∀ f ∈ xo ++ yo, f.b < w.heap.size := fun f hf => h.lt _ (hent f hf).1
    have htl := h.lt tb h.own
    have hsp : ∀ k o, (k, o) ∈ spA tb w4.heap.size (w4.heap.size + 1) (n / 2) ((n / 2 + 63) / 64) (xo ++ yo) → (X k ∧ (k = tb → 4 ≤ o) ∧ k < w.heap.size ∧ (o = 9)) ∨ w.heap.size ≤ k := by
      intro k o hm
      rcases spA_mem hm with ⟨f, hf, q1, q2⟩ | q1 | q1 | ⟨q1, q2⟩
      · exact Or.inl ⟨q1 ▸ (hent f hf).1, fun _ => by omega, by rw [q1]; exact hfl f hf, q2⟩
      · exact Or.inr (by omega)
      · exact Or.inr (by omega)
      · exact Or.inl ⟨q1 ▸ h.own, fun _ => by omega, by rw [q1]; exact htl, q2⟩
    have hor : Or w' tb (xo ++ yo) := by
      have o1 := b1.wr d1 (by simp) (by simp) (by simp) (fun f hf => ⟨by simp, by simp⟩)
      have o2 := o1.wr d2.wr (by simp) (by simp) (by simp) (fun f hf => by
        have := h.ord.apart f (hmem f hf)
        simp only [List.mem_cons, Prod.mk.injEq, List.not_mem_nil, or_false]
        omega)
      refine o2.wr d3.wt ?_ ?_ ?_ (fun f hf => ⟨?_, ?_⟩)
      all_goals
        intro hm
        rcases hsp _ _ hm with ⟨_, _, _, q⟩ | q
        · omega
        · first
            | omega
            | (have := hfl f hf; omega)
    have hrow : Rw w' tb w4.heap.size (n / 2) := by
      refine ⟨d3.wt.cell (fun hm => ?_) d2.c7, fun j => (d3.wt.2.1 _ j (by omega)).trans (d2.zg j)⟩
      rcases hsp _ _ hm with ⟨_, _, _, q⟩ | q <;> omega
    refine Tv.mk' (Y := X) h.own h.lt h.no1 h.free h.db h.mt ht (fun k o hm => ?_) hor (by omega) hu hent ⟨hcs', d3.cx, cntF_sz _ _, hrow, by omega, by omega, hn4, by have := t.nfew; omega, trivial, trivial, by omega, by omega, fun f hf => by have := hfl f hf; omega⟩ (Or.inr (by omega)) (Or.inr (by omega))
    rcases List.mem_append.1 hm with hm | hm
    · rcases List.mem_append.1 hm with hm | hm
      · rcases List.mem_append.1 hm with hm | hm
        · exact Or.inl (hA3 p r hc k o hm)
        · cases hm
      · simp only [List.mem_cons, Prod.mk.injEq, List.not_mem_nil, or_false] at hm
        have hk : k = tb := by omega
        exact Or.inl ⟨hk ▸ h.own, fun _ => by omega⟩
    · rcases hsp k o hm with ⟨q1, q2, _⟩ | q
      · exact Or.inl ⟨q1, q2⟩
      · exact Or.inr q
  · refine (drop_stay tb g n c m cs W s xo e yo w hdr hs (by omega)).mono ?_
    rintro x w' ⟨rfl, p, r, w1, w2, w3, hc, a1, a2, a3, b1, b2, b3, d1⟩
    refine ⟨rfl, ?_⟩
    have ht3 := (a1.trans a2).trans a3
    have ht := ht3.trans d1
    have hrow : Rw w' tb g n := by
      have htr : ∀ o, o = 7 → (tb, o) ∉ ([linkOf g (bk e.H n) p] ++ dropA tb xo yo) ++ [(c, bitN m e.K e.N / 64), (tb, 9)] := by
        intro o ho hm
        rcases List.mem_append.1 hm with hm | hm
        · rcases List.mem_append.1 hm with hm | hm
          · rcases linkOf_cases (List.mem_singleton.1 hm) with ⟨q1, _⟩ | ⟨q1, _⟩
            · exact t.gt q1.symm
            · omega
          · rcases dropA_cases hm with ⟨_, q2⟩ | ⟨q1, _⟩ | ⟨q1, _⟩ <;> omega
        · simp only [List.mem_cons, Prod.mk.injEq, List.not_mem_nil, or_false] at hm
          rcases hm with ⟨q1, _⟩ | ⟨_, q2⟩
          · exact t.kc.ne q1
          · omega
      refine ⟨d1.cell (by simp) (ht3.cell (htr 7 rfl) t.row.1), fun j => (ht.2.1 g j t.kb.lt).trans (t.row.2 j)⟩
    refine Tv.mk' (Y := X) h.own h.lt h.no1 h.free h.db h.mt ht (fun k o hm => ?_) (b1.wr d1 (by simp) (by simp) (by simp) (fun f hf => ⟨by simp, by simp⟩)) (by omega) hu hent
      ⟨b2.wr d1 (fun j => by simp) (fun f hf o _ => by simp), b3.wr d1 (by simp) (by simp) (fun i => by simp), hsz, hrow, by omega, t.words, t.n4, t.nfew, trivial, trivial, t.gt, t.gc, fun f hf => t.ec f (hmem f hf)⟩ (Or.inl t.xg) (Or.inl t.xc)
    rcases List.mem_append.1 hm with hm | hm
    · exact Or.inl (hA3 p r hc k o hm)
    · cases hm

end Go.Proofs.YthmocdabakkfhaaGreatDoor
