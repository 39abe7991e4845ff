/-
  HpObjectB
-/
import Derived.Test.YthmocdabakkfhaaGreatDoorZ42

/-
  Layer 9: the landed heap's Object, of what is no table; of any.
-/
namespace Go.Proofs.YthmocdabakkfhaaGreatDoor
set_option maxRecDepth 100000
open Go.RowKit Flo

/-- The slots copied. -/
def Cd (w0 w : World) (sl : List V4) (n : Nat) (v : Value) : Prop := ∃ sa sc, v = .slice sa n sc ∧ Vp w sa sl ∧ ∀ g, sa = some ⟨g, 0, none⟩ → w0.heap.size ≤ g
/-- Ten cells in the block b. -/
def Fo (w : World) (b : Nat) (v0 v1 v2 v3 v4 v5 v6 v7 v8 v9 : Value) : Prop := w.cell? ⟨b, 0, none⟩ = some v0 ∧ w.cell? ⟨b, 1, none⟩ = some v1 ∧ w.cell? ⟨b, 2, none⟩ = some v2 ∧ w.cell? ⟨b, 3, none⟩ = some v3 ∧ w.cell? ⟨b, 4, none⟩ = some v4 ∧ w.cell? ⟨b, 5, none⟩ = some v5 ∧ w.cell? ⟨b, 6, none⟩ = some v6 ∧ w.cell? ⟨b, 7, none⟩ = some v7 ∧ w.cell? ⟨b, 8, none⟩ = some v8 ∧ w.cell? ⟨b, 9, none⟩ = some v9
theorem fo_set (w : World) (b : Nat) {u0 u1 u2 u3 u4 u5 u6 u7 u8 u9 : Value} (z0 : w.cell? ⟨b, 0, none⟩ = some u0) (z1 : w.cell? ⟨b, 1, none⟩ = some u1) (z2 : w.cell? ⟨b, 2, none⟩ = some u2) (z3 : w.cell? ⟨b, 3, none⟩ = some u3) (z4 : w.cell? ⟨b, 4, none⟩ = some u4) (z5 : w.cell? ⟨b, 5, none⟩ = some u5) (z6 : w.cell? ⟨b, 6, none⟩ = some u6) (z7 : w.cell? ⟨b, 7, none⟩ = some u7) (z8 : w.cell? ⟨b, 8, none⟩ = some u8) (z9 : w.cell? ⟨b, 9, none⟩ = some u9) (v0 v1 v2 v3 v4 v5 v6 v7 v8 v9 : Value) :
    Fo ((((((((((w.setCell ⟨b, 0, none⟩ v0).setCell ⟨b, 1, none⟩ v1).setCell ⟨b, 2, none⟩ v2).setCell ⟨b, 3, none⟩ v3).setCell ⟨b, 4, none⟩ v4).setCell ⟨b, 5, none⟩ v5).setCell ⟨b, 6, none⟩ v6).setCell ⟨b, 7, none⟩ v7).setCell ⟨b, 8, none⟩ v8).setCell ⟨b, 9, none⟩ v9) b v0 v1 v2 v3 v4 v5 v6 v7 v8 v9 := by
  refine ⟨?_, ?_, ?_, ?_, ?_, ?_, ?_, ?_, ?_, ?_⟩ <;> go_simp

set_option maxHeartbeats 2000000 in
theorem obj_oth (w w0 : World) (hb g p n sb : Nat) (kk ka kb : Int) (sl : List V4)
    (hw0 : w0 = w.alloc (.cells #[.int .i64 0, .slice none 0 0, .slice none 0 0, .int .i64 0, .int .u64 0, .string ⟨#[]⟩, .int .i64 0, .int .i64 0, .int .i64 0, .slice none 0 0] 39))
    (hg : g < w.heap.size) (Z : Ending → World → Prop)
    (HF : Hid (Calls Tryz.prog 46 #[.pointer (some ⟨hb, 0, none⟩), .int .i64 ((p : Int) + 1)] w0 fun e w' => e = .returned (.pointer (some ⟨g, p * 5, none⟩)) ∧ w' = w0))
    (HC : Hid (∀ w', Below w.heap.size w w' → Calls Tryz.prog 48 #[.slice (some ⟨sb, 0, none⟩) n n] w' fun e w2 => (∃ a c, e = .returned (.slice a n c) ∧ Vp w2 a sl ∧ ∀ g, a = some ⟨g, 0, none⟩ → w'.heap.size ≤ g) ∧ Below w'.heap.size w' w2))
    (j0 : w0.cell? ⟨g, p * 5, none⟩ = some (.int .i64 kk)) (j1 : w0.cell? ⟨g, p * 5 + 1, none⟩ = some (.int .i64 ka)) (j2 : w0.cell? ⟨g, p * 5 + 2, none⟩ = some (.int .i64 kb)) (j3 : w0.cell? ⟨g, p * 5 + 3, none⟩ = some (.slice (some ⟨sb, 0, none⟩) n n)) (j4 : w0.cell? ⟨g, p * 5 + 4, none⟩ = some (.pointer none))
    (HQ : Hid (∀ W sa sc, Vp W sa sl → Below w.heap.size w0 W → Z (.returned (.tuple #[.agg #[.int .i64 kk, .slice none 0 0, .slice none 0 0, .int .i64 0, .int .u64 0, .string ⟨#[]⟩, .int .i64 0, .int .i64 ka, .int .i64 kb, .slice sa n sc], .bool true])) W)) :
    Calls Tryz.prog 13 #[.pointer (some ⟨hb, 0, none⟩), .int .i64 ((p : Int) + 1)] w Z := by
  have hb0 : Below w.heap.size w w0 := by rw [hw0]; exact (Below.refl _ _).alloc (Nat.le_refl _) _
  have HZ : Hid (Zo w0.drew w.heap.size) := by
    have hz : ∀ j, w0.cell? ⟨w.heap.size, j, none⟩ = (#[.int .i64 0, .slice none 0 0, .slice none 0 0, .int .i64 0, .int .u64 0, .string ⟨#[]⟩, .int .i64 0, .int .i64 0, .int .i64 0, .slice none 0 0] : Array Value)[j]? := fun j => by rw [hw0]; exact World.cell?_alloc_at _ _ _ _ rfl
    exact ⟨hz 0, hz 1, hz 2, hz 3, hz 4, hz 5, hz 6, hz 7, hz 8, hz 9, fun j => by show w0.frozen? _ = _; rw [hw0]; exact World.frozen?_alloc_at _ _ _ _ rfl⟩
  have hzl : w.heap.size < w0.heap.size := by rw [hw0]; simp
  have hgl : g < w0.heap.size := Nat.lt_of_lt_of_le hg hb0.size
  have hn1 : ¬ (g = w.heap.size ∨ w0.heap.size ≤ g) := by omega
  go_enter Tryz.func13, Tryz.ntmps13
  go_upto_region 1 with fail
  rw [← hw0]
  clear hw0
  go_wp2_with fail
  refine HF.out.mono ?_
  rintro e w' ⟨rfl, hw'⟩
  subst hw'
  obtain ⟨w0, hw0⟩ : ∃ x, x = w' := ⟨_, rfl⟩
  subst hw0
  clear HF
  go_wp2_with fail
  refine wp_region_inv2 (by kernel_rfl) [42, 43, 44, 45, 46, 47, 48, 49, 50, 51, 52, 53, 54, 55, 56, 57, 58, 59, 5] (fun L vs w' => ∃ v42 v43 v44 v45 v46 v47 v48 v49 v50 v51 v52 v53 v54 v55 v56 v57 v58 v59 v5, vs = [v42, v43, v44, v45, v46, v47, v48, v49, v50, v51, v52, v53, v54, v55, v56, v57, v58, v59, v5] ∧ (L 0 = true → v42 = (.pointer (some ⟨g, p * 5, none⟩))) ∧ (L 1 = true → v43 = (.pointer (some ⟨g, p * 5, none⟩))) ∧ (L 2 = true → v44 = (.pointer (some ⟨g, p * 5, none⟩))) ∧ (L 3 = true → v45 = (.int .i64 kk)) ∧ (L 4 = true → v46 = (.pointer (some ⟨g, p * 5, none⟩))) ∧ (L 5 = true → v47 = (.pointer (some ⟨g, p * 5, none⟩))) ∧ (L 6 = true → v48 = (.pointer (some ⟨g, p * 5 + 1, none⟩))) ∧ (L 7 = true → v49 = (.int .i64 ka)) ∧ (L 8 = true → v50 = (.pointer (some ⟨g, p * 5, none⟩))) ∧ (L 9 = true → v51 = (.pointer (some ⟨g, p * 5, none⟩))) ∧ (L 10 = true → v52 = (.pointer (some ⟨g, p * 5 + 2, none⟩))) ∧ (L 11 = true → v53 = (.int .i64 kb)) ∧ (L 12 = true → v54 = (.pointer (some ⟨g, p * 5, none⟩))) ∧ (L 13 = true → v55 = (.pointer (some ⟨g, p * 5, none⟩))) ∧ (L 14 = true → v56 = (.pointer (some ⟨g, p * 5 + 3, none⟩))) ∧ (L 15 = true → v57 = (.slice (some ⟨sb, 0, none⟩) n n)) ∧ (L 16 = true → L 15 = true) ∧ (L 17 = true → L 3 = true ∧ L 7 = true ∧ L 11 = true ∧ L 16 = true) ∧ (L 18 = true → L 17 = true) ∧ Hid (Wx (fun k => k = w.heap.size ∨ w0.heap.size ≤ k) w0 w' ∧ (L 18 = false → Zo w' w.heap.size) ∧ (L 16 = true → Cd w0 w' sl n v58) ∧ (L 17 = true → v59 = (Value.agg #[.int .i64 kk, .slice none 0 0, .slice none 0 0, .int .i64 0, .int .u64 0, .string ⟨#[]⟩, .int .i64 0, .int .i64 ka, .int .i64 kb, v58])) ∧ (L 18 = true → Fo w' w.heap.size (.int .i64 kk) (.slice none 0 0) (.slice none 0 0) (.int .i64 0) (.int .u64 0) (.string ⟨#[]⟩) (.int .i64 0) (.int .i64 ka) (.int .i64 kb) v58) ∧ (L 19 = true → v5 = Value.bool true))) (by kernel_rfl) (by decide) (by intro x hx; simp at hx; simp; omega) ?_ ⟨?_, ?_, ?_, ?_, ?_, ?_, ?_, ?_, ?_, ?_, ?_, ?_, ?_, ?_, ?_, ?_, ?_, ?_, ?_, ?_, trivial⟩ ?_
  · exact ⟨_, _, _, _, _, _, _, _, _, _, _, _, _, _, _, _, _, _, _, rfl, fun q => by (cases q), fun q => by (cases q), fun q => by (cases q), fun q => by (cases q), fun q => by (cases q), fun q => by (cases q), fun q => by (cases q), fun q => by (cases q), fun q => by (cases q), fun q => by (cases q), fun q => by (cases q), fun q => by (cases q), fun q => by (cases q), fun q => by (cases q), fun q => by (cases q), fun q => by (cases q), fun q => by (cases q), fun q => by (cases q), fun q => by (cases q), ⟨Wx.drew' (Wx.refl _ _), fun _ => HZ.out, fun q => by (cases q), fun q => by (cases q), fun q => by (cases q), fun q => by (cases q)⟩⟩
  · rintro A L vs w' F G ⟨v42, v43, v44, v45, v46, v47, v48, v49, v50, v51, v52, v53, v54, v55, v56, v57, v58, v59, v5, rfl, d0, d1, d2, d3, d4, d5, d6, d7, d8, d9, d10, d11, d12, d13, d14, d15, m16, m17, m18, HW⟩ hL hdep K' hK hK0
    have g6 : A.tmps[6]?.getD undef = (.pointer (some ⟨g, p * 5, none⟩)) := evD ((G 6 (by decide)).trans rfl)
    clear F G
    go_simp
    refine hK 0 42 _ w' rfl ⟨_, _, _, _, _, _, _, _, _, _, _, _, _, _, _, _, _, _, _, rfl, (fun _ => rfl), d1, d2, d3, d4, d5, d6, d7, d8, d9, d10, d11, d12, d13, d14, d15, (fun q => lmono (m16 q)), (fun q => ⟨lmono (m17 q).1, lmono (m17 q).2.1, lmono (m17 q).2.2.1, lmono (m17 q).2.2.2⟩), (fun q => lmono (m18 q)), HW⟩
  · rintro A L vs w' F G ⟨v42, v43, v44, v45, v46, v47, v48, v49, v50, v51, v52, v53, v54, v55, v56, v57, v58, v59, v5, rfl, d0, d1, d2, d3, d4, d5, d6, d7, d8, d9, d10, d11, d12, d13, d14, d15, m16, m17, m18, HW⟩ hL hdep K' hK hK0
    have p0 : L 0 = true := hdep { on := 0, ground := Ground.data } (by simp) rfl
    have q := d0 p0
    subst q
    have g42 := evD (F 0 42 _ rfl rfl)
    clear F G
    go_simp
    refine hK 1 43 _ w' rfl ⟨_, _, _, _, _, _, _, _, _, _, _, _, _, _, _, _, _, _, _, rfl, (fun _ => rfl), (fun _ => rfl), d2, d3, d4, d5, d6, d7, d8, d9, d10, d11, d12, d13, d14, d15, (fun q => lmono (m16 q)), (fun q => ⟨lmono (m17 q).1, lmono (m17 q).2.1, lmono (m17 q).2.2.1, lmono (m17 q).2.2.2⟩), (fun q => lmono (m18 q)), HW⟩
  · rintro A L vs w' F G ⟨v42, v43, v44, v45, v46, v47, v48, v49, v50, v51, v52, v53, v54, v55, v56, v57, v58, v59, v5, rfl, d0, d1, d2, d3, d4, d5, d6, d7, d8, d9, d10, d11, d12, d13, d14, d15, m16, m17, m18, HW⟩ hL hdep K' hK hK0
    have p1 : L 1 = true := hdep { on := 1, ground := Ground.data } (by simp) rfl
    have q := d1 p1
    subst q
    have g43 := evD (F 1 43 _ rfl rfl)
    clear F G
    go_simp
    refine hK 2 44 _ w' rfl ⟨_, _, _, _, _, _, _, _, _, _, _, _, _, _, _, _, _, _, _, rfl, d0, (fun _ => rfl), (fun _ => rfl), d3, d4, d5, d6, d7, d8, d9, d10, d11, d12, d13, d14, d15, (fun q => lmono (m16 q)), (fun q => ⟨lmono (m17 q).1, lmono (m17 q).2.1, lmono (m17 q).2.2.1, lmono (m17 q).2.2.2⟩), (fun q => lmono (m18 q)), HW⟩
  · rintro A L vs w' F G ⟨v42, v43, v44, v45, v46, v47, v48, v49, v50, v51, v52, v53, v54, v55, v56, v57, v58, v59, v5, rfl, d0, d1, d2, d3, d4, d5, d6, d7, d8, d9, d10, d11, d12, d13, d14, d15, m16, m17, m18, HW⟩ hL hdep K' hK hK0
    have p2 : L 2 = true := hdep { on := 2, ground := Ground.data } (by simp) rfl
    have b0 := HW.out.1.cell hn1 j0
    have q := d2 p2
    subst q
    have g44 := evD (F 2 44 _ rfl rfl)
    clear F G
    go_simp
    refine hK 3 45 _ w' rfl ⟨_, _, _, _, _, _, _, _, _, _, _, _, _, _, _, _, _, _, _, rfl, d0, d1, (fun _ => rfl), (fun _ => rfl), d4, d5, d6, d7, d8, d9, d10, d11, d12, d13, d14, d15, (fun q => lmono (m16 q)), (fun q => ⟨lmono (m17 q).1, lmono (m17 q).2.1, lmono (m17 q).2.2.1, lmono (m17 q).2.2.2⟩), (fun q => lmono (m18 q)), HW⟩
  · rintro A L vs w' F G ⟨v42, v43, v44, v45, v46, v47, v48, v49, v50, v51, v52, v53, v54, v55, v56, v57, v58, v59, v5, rfl, d0, d1, d2, d3, d4, d5, d6, d7, d8, d9, d10, d11, d12, d13, d14, d15, m16, m17, m18, HW⟩ hL hdep K' hK hK0
    have g6 : A.tmps[6]?.getD undef = (.pointer (some ⟨g, p * 5, none⟩)) := evD ((G 6 (by decide)).trans rfl)
    clear F G
    go_simp
    refine hK 4 46 _ w' rfl ⟨_, _, _, _, _, _, _, _, _, _, _, _, _, _, _, _, _, _, _, rfl, d0, d1, d2, d3, (fun _ => rfl), d5, d6, d7, d8, d9, d10, d11, d12, d13, d14, d15, (fun q => lmono (m16 q)), (fun q => ⟨lmono (m17 q).1, lmono (m17 q).2.1, lmono (m17 q).2.2.1, lmono (m17 q).2.2.2⟩), (fun q => lmono (m18 q)), HW⟩
  · rintro A L vs w' F G ⟨v42, v43, v44, v45, v46, v47, v48, v49, v50, v51, v52, v53, v54, v55, v56, v57, v58, v59, v5, rfl, d0, d1, d2, d3, d4, d5, d6, d7, d8, d9, d10, d11, d12, d13, d14, d15, m16, m17, m18, HW⟩ hL hdep K' hK hK0
    have p4 : L 4 = true := hdep { on := 4, ground := Ground.data } (by simp) rfl
    have q := d4 p4
    subst q
    have g46 := evD (F 4 46 _ rfl rfl)
    clear F G
    go_simp
    refine hK 5 47 _ w' rfl ⟨_, _, _, _, _, _, _, _, _, _, _, _, _, _, _, _, _, _, _, rfl, d0, d1, d2, d3, (fun _ => rfl), (fun _ => rfl), d6, d7, d8, d9, d10, d11, d12, d13, d14, d15, (fun q => lmono (m16 q)), (fun q => ⟨lmono (m17 q).1, lmono (m17 q).2.1, lmono (m17 q).2.2.1, lmono (m17 q).2.2.2⟩), (fun q => lmono (m18 q)), HW⟩
  · rintro A L vs w' F G ⟨v42, v43, v44, v45, v46, v47, v48, v49, v50, v51, v52, v53, v54, v55, v56, v57, v58, v59, v5, rfl, d0, d1, d2, d3, d4, d5, d6, d7, d8, d9, d10, d11, d12, d13, d14, d15, m16, m17, m18, HW⟩ hL hdep K' hK hK0
    have p5 : L 5 = true := hdep { on := 5, ground := Ground.data } (by simp) rfl
    have q := d5 p5
    subst q
    have g47 := evD (F 5 47 _ rfl rfl)
    clear F G
    go_simp
    refine hK 6 48 _ w' rfl ⟨_, _, _, _, _, _, _, _, _, _, _, _, _, _, _, _, _, _, _, rfl, d0, d1, d2, d3, d4, (fun _ => rfl), (fun _ => rfl), d7, d8, d9, d10, d11, d12, d13, d14, d15, (fun q => lmono (m16 q)), (fun q => ⟨lmono (m17 q).1, lmono (m17 q).2.1, lmono (m17 q).2.2.1, lmono (m17 q).2.2.2⟩), (fun q => lmono (m18 q)), HW⟩
  · rintro A L vs w' F G ⟨v42, v43, v44, v45, v46, v47, v48, v49, v50, v51, v52, v53, v54, v55, v56, v57, v58, v59, v5, rfl, d0, d1, d2, d3, d4, d5, d6, d7, d8, d9, d10, d11, d12, d13, d14, d15, m16, m17, m18, HW⟩ hL hdep K' hK hK0
    have p6 : L 6 = true := hdep { on := 6, ground := Ground.data } (by simp) rfl
    have b0 := HW.out.1.cell hn1 j1
    have q := d6 p6
    subst q
    have g48 := evD (F 6 48 _ rfl rfl)
    clear F G
    go_simp
    refine hK 7 49 _ w' rfl ⟨_, _, _, _, _, _, _, _, _, _, _, _, _, _, _, _, _, _, _, rfl, d0, d1, d2, d3, d4, d5, (fun _ => rfl), (fun _ => rfl), d8, d9, d10, d11, d12, d13, d14, d15, (fun q => lmono (m16 q)), (fun q => ⟨lmono (m17 q).1, lmono (m17 q).2.1, lmono (m17 q).2.2.1, lmono (m17 q).2.2.2⟩), (fun q => lmono (m18 q)), HW⟩
  · rintro A L vs w' F G ⟨v42, v43, v44, v45, v46, v47, v48, v49, v50, v51, v52, v53, v54, v55, v56, v57, v58, v59, v5, rfl, d0, d1, d2, d3, d4, d5, d6, d7, d8, d9, d10, d11, d12, d13, d14, d15, m16, m17, m18, HW⟩ hL hdep K' hK hK0
    have g6 : A.tmps[6]?.getD undef = (.pointer (some ⟨g, p * 5, none⟩)) := evD ((G 6 (by decide)).trans rfl)
    clear F G
    go_simp
    refine hK 8 50 _ w' rfl ⟨_, _, _, _, _, _, _, _, _, _, _, _, _, _, _, _, _, _, _, rfl, d0, d1, d2, d3, d4, d5, d6, d7, (fun _ => rfl), d9, d10, d11, d12, d13, d14, d15, (fun q => lmono (m16 q)), (fun q => ⟨lmono (m17 q).1, lmono (m17 q).2.1, lmono (m17 q).2.2.1, lmono (m17 q).2.2.2⟩), (fun q => lmono (m18 q)), HW⟩
  · rintro A L vs w' F G ⟨v42, v43, v44, v45, v46, v47, v48, v49, v50, v51, v52, v53, v54, v55, v56, v57, v58, v59, v5, rfl, d0, d1, d2, d3, d4, d5, d6, d7, d8, d9, d10, d11, d12, d13, d14, d15, m16, m17, m18, HW⟩ hL hdep K' hK hK0
    have p8 : L 8 = true := hdep { on := 8, ground := Ground.data } (by simp) rfl
    have q := d8 p8
    subst q
    have g50 := evD (F 8 50 _ rfl rfl)
    clear F G
    go_simp
    refine hK 9 51 _ w' rfl ⟨_, _, _, _, _, _, _, _, _, _, _, _, _, _, _, _, _, _, _, rfl, d0, d1, d2, d3, d4, d5, d6, d7, (fun _ => rfl), (fun _ => rfl), d10, d11, d12, d13, d14, d15, (fun q => lmono (m16 q)), (fun q => ⟨lmono (m17 q).1, lmono (m17 q).2.1, lmono (m17 q).2.2.1, lmono (m17 q).2.2.2⟩), (fun q => lmono (m18 q)), HW⟩
  · rintro A L vs w' F G ⟨v42, v43, v44, v45, v46, v47, v48, v49, v50, v51, v52, v53, v54, v55, v56, v57, v58, v59, v5, rfl, d0, d1, d2, d3, d4, d5, d6, d7, d8, d9, d10, d11, d12, d13, d14, d15, m16, m17, m18, HW⟩ hL hdep K' hK hK0
    have p9 : L 9 = true := hdep { on := 9, ground := Ground.data } (by simp) rfl
    have q := d9 p9
    subst q
    have g51 := evD (F 9 51 _ rfl rfl)
    clear F G
    go_simp
    refine hK 10 52 _ w' rfl ⟨_, _, _, _, _, _, _, _, _, _, _, _, _, _, _, _, _, _, _, rfl, d0, d1, d2, d3, d4, d5, d6, d7, d8, (fun _ => rfl), (fun _ => rfl), d11, d12, d13, d14, d15, (fun q => lmono (m16 q)), (fun q => ⟨lmono (m17 q).1, lmono (m17 q).2.1, lmono (m17 q).2.2.1, lmono (m17 q).2.2.2⟩), (fun q => lmono (m18 q)), HW⟩
  · rintro A L vs w' F G ⟨v42, v43, v44, v45, v46, v47, v48, v49, v50, v51, v52, v53, v54, v55, v56, v57, v58, v59, v5, rfl, d0, d1, d2, d3, d4, d5, d6, d7, d8, d9, d10, d11, d12, d13, d14, d15, m16, m17, m18, HW⟩ hL hdep K' hK hK0
    have p10 : L 10 = true := hdep { on := 10, ground := Ground.data } (by simp) rfl
    have b0 := HW.out.1.cell hn1 j2
    have q := d10 p10
    subst q
    have g52 := evD (F 10 52 _ rfl rfl)
    clear F G
    go_simp
    refine hK 11 53 _ w' rfl ⟨_, _, _, _, _, _, _, _, _, _, _, _, _, _, _, _, _, _, _, rfl, d0, d1, d2, d3, d4, d5, d6, d7, d8, d9, (fun _ => rfl), (fun _ => rfl), d12, d13, d14, d15, (fun q => lmono (m16 q)), (fun q => ⟨lmono (m17 q).1, lmono (m17 q).2.1, lmono (m17 q).2.2.1, lmono (m17 q).2.2.2⟩), (fun q => lmono (m18 q)), HW⟩
  · rintro A L vs w' F G ⟨v42, v43, v44, v45, v46, v47, v48, v49, v50, v51, v52, v53, v54, v55, v56, v57, v58, v59, v5, rfl, d0, d1, d2, d3, d4, d5, d6, d7, d8, d9, d10, d11, d12, d13, d14, d15, m16, m17, m18, HW⟩ hL hdep K' hK hK0
    have g6 : A.tmps[6]?.getD undef = (.pointer (some ⟨g, p * 5, none⟩)) := evD ((G 6 (by decide)).trans rfl)
    clear F G
    go_simp
    refine hK 12 54 _ w' rfl ⟨_, _, _, _, _, _, _, _, _, _, _, _, _, _, _, _, _, _, _, rfl, d0, d1, d2, d3, d4, d5, d6, d7, d8, d9, d10, d11, (fun _ => rfl), d13, d14, d15, (fun q => lmono (m16 q)), (fun q => ⟨lmono (m17 q).1, lmono (m17 q).2.1, lmono (m17 q).2.2.1, lmono (m17 q).2.2.2⟩), (fun q => lmono (m18 q)), HW⟩
  · rintro A L vs w' F G ⟨v42, v43, v44, v45, v46, v47, v48, v49, v50, v51, v52, v53, v54, v55, v56, v57, v58, v59, v5, rfl, d0, d1, d2, d3, d4, d5, d6, d7, d8, d9, d10, d11, d12, d13, d14, d15, m16, m17, m18, HW⟩ hL hdep K' hK hK0
    have p12 : L 12 = true := hdep { on := 12, ground := Ground.data } (by simp) rfl
    have q := d12 p12
    subst q
    have g54 := evD (F 12 54 _ rfl rfl)
    clear F G
    go_simp
    refine hK 13 55 _ w' rfl ⟨_, _, _, _, _, _, _, _, _, _, _, _, _, _, _, _, _, _, _, rfl, d0, d1, d2, d3, d4, d5, d6, d7, d8, d9, d10, d11, (fun _ => rfl), (fun _ => rfl), d14, d15, (fun q => lmono (m16 q)), (fun q => ⟨lmono (m17 q).1, lmono (m17 q).2.1, lmono (m17 q).2.2.1, lmono (m17 q).2.2.2⟩), (fun q => lmono (m18 q)), HW⟩
  · rintro A L vs w' F G ⟨v42, v43, v44, v45, v46, v47, v48, v49, v50, v51, v52, v53, v54, v55, v56, v57, v58, v59, v5, rfl, d0, d1, d2, d3, d4, d5, d6, d7, d8, d9, d10, d11, d12, d13, d14, d15, m16, m17, m18, HW⟩ hL hdep K' hK hK0
    have p13 : L 13 = true := hdep { on := 13, ground := Ground.data } (by simp) rfl
    have q := d13 p13
    subst q
    have g55 := evD (F 13 55 _ rfl rfl)
    clear F G
    go_simp
    refine hK 14 56 _ w' rfl ⟨_, _, _, _, _, _, _, _, _, _, _, _, _, _, _, _, _, _, _, rfl, d0, d1, d2, d3, d4, d5, d6, d7, d8, d9, d10, d11, d12, (fun _ => rfl), (fun _ => rfl), d15, (fun q => lmono (m16 q)), (fun q => ⟨lmono (m17 q).1, lmono (m17 q).2.1, lmono (m17 q).2.2.1, lmono (m17 q).2.2.2⟩), (fun q => lmono (m18 q)), HW⟩
  · rintro A L vs w' F G ⟨v42, v43, v44, v45, v46, v47, v48, v49, v50, v51, v52, v53, v54, v55, v56, v57, v58, v59, v5, rfl, d0, d1, d2, d3, d4, d5, d6, d7, d8, d9, d10, d11, d12, d13, d14, d15, m16, m17, m18, HW⟩ hL hdep K' hK hK0
    have p14 : L 14 = true := hdep { on := 14, ground := Ground.data } (by simp) rfl
    have b0 := HW.out.1.cell hn1 j3
    have q := d14 p14
    subst q
    have g56 := evD (F 14 56 _ rfl rfl)
    clear F G
    go_simp
    refine hK 15 57 _ w' rfl ⟨_, _, _, _, _, _, _, _, _, _, _, _, _, _, _, _, _, _, _, rfl, d0, d1, d2, d3, d4, d5, d6, d7, d8, d9, d10, d11, d12, d13, (fun _ => rfl), (fun _ => rfl), (fun q => lmono (m16 q)), (fun q => ⟨lmono (m17 q).1, lmono (m17 q).2.1, lmono (m17 q).2.2.1, lmono (m17 q).2.2.2⟩), (fun q => lmono (m18 q)), HW⟩
  · rintro A L vs w' F G ⟨v42, v43, v44, v45, v46, v47, v48, v49, v50, v51, v52, v53, v54, v55, v56, v57, v58, v59, v5, rfl, d0, d1, d2, d3, d4, d5, d6, d7, d8, d9, d10, d11, d12, d13, d14, d15, m16, m17, m18, HW⟩ hL hdep K' hK hK0
    have p15 : L 15 = true := hdep { on := 15, ground := Ground.data } (by simp) rfl
    have n17 : L 17 = false := by
      cases q : L 17 with
      | false => rfl
      | true => exact absurd ((m17 q).2.2.2) (by rw [hL]; decide)
    have n18 : L 18 = false := by
      cases q : L 18 with
      | false => rfl
      | true => exact absurd ((m17 (m18 q)).2.2.2) (by rw [hL]; decide)
    have q := d15 p15
    subst q
    have g57 := evD (F 15 57 _ rfl rfl)
    clear F G
    go_simp
    refine (HC.out _ (hb0.trans (HW.out.1.below (B := w.heap.size) (fun k hk => by omega) (by omega)))).mono ?_
    rintro e w2 ⟨⟨sa, sc, rfl, hvs, hfar⟩, hb2⟩
    have HW2 : Hid (Wx (fun k => k = w.heap.size ∨ w0.heap.size ≤ k) w0 w2 ∧ (L 18 = false → Zo w2 w.heap.size) ∧ (true = true → Cd w0 w2 sl n (.slice sa n sc)) ∧ (L 17 = true → v59 = (Value.agg #[.int .i64 kk, .slice none 0 0, .slice none 0 0, .int .i64 0, .int .u64 0, .string ⟨#[]⟩, .int .i64 0, .int .i64 ka, .int .i64 kb, (.slice sa n sc)])) ∧ (L 18 = true → Fo w2 w.heap.size (.int .i64 kk) (.slice none 0 0) (.slice none 0 0) (.int .i64 0) (.int .u64 0) (.string ⟨#[]⟩) (.int .i64 0) (.int .i64 ka) (.int .i64 kb) (.slice sa n sc)) ∧ (L 19 = true → v5 = Value.bool true)) := by
      obtain ⟨h1, h2, h3, h4, h5, h6⟩ := HW.out
      have hsz := h1.size
      refine ⟨h1.trans (Wx.of_below (fun _ => False) hb2) (fun _ c => by cases c), fun q => (h2 q).below hb2, fun _ => ⟨sa, sc, rfl, hvs, fun g hg => Nat.le_trans hsz (hfar g hg)⟩, fun q => absurd q (by rw [n17]; decide), fun q => absurd q (by rw [n18]; decide), h6⟩
    refine hK 16 58 _ w2 rfl ⟨_, _, _, _, _, _, _, _, _, _, _, _, _, _, _, _, _, _, _, rfl, d0, d1, d2, d3, d4, d5, d6, d7, d8, d9, d10, d11, d12, d13, d14, (fun _ => rfl), (fun _ => lmono p15), (fun q => ⟨lmono (m17 q).1, lmono (m17 q).2.1, lmono (m17 q).2.2.1, lmono (m17 q).2.2.2⟩), (fun q => lmono (m18 q)), HW2⟩
  · rintro A L vs w' F G ⟨v42, v43, v44, v45, v46, v47, v48, v49, v50, v51, v52, v53, v54, v55, v56, v57, v58, v59, v5, rfl, d0, d1, d2, d3, d4, d5, d6, d7, d8, d9, d10, d11, d12, d13, d14, d15, m16, m17, m18, HW⟩ hL hdep K' hK hK0
    have p3 : L 3 = true := hdep { on := 3, ground := Ground.data } (by simp) rfl
    have p7 : L 7 = true := hdep { on := 7, ground := Ground.data } (by simp) rfl
    have p11 : L 11 = true := hdep { on := 11, ground := Ground.data } (by simp) rfl
    have p16 : L 16 = true := hdep { on := 16, ground := Ground.data } (by simp) rfl
    have n18 : L 18 = false := by
      cases q : L 18 with
      | false => rfl
      | true => exact absurd (m18 q) (by rw [hL]; decide)
    obtain ⟨sa, sc, e58, hvs, hfar⟩ := HW.out.2.2.1 p16
    subst e58
    have HW2 : Hid (Wx (fun k => k = w.heap.size ∨ w0.heap.size ≤ k) w0 w' ∧ (L 18 = false → Zo w' w.heap.size) ∧ (L 16 = true → Cd w0 w' sl n (.slice sa n sc)) ∧ (true = true → (Value.agg #[.int .i64 kk, .slice none 0 0, .slice none 0 0, .int .i64 0, .int .u64 0, .string ⟨#[]⟩, .int .i64 0, .int .i64 ka, .int .i64 kb, (.slice sa n sc)]) = (Value.agg #[.int .i64 kk, .slice none 0 0, .slice none 0 0, .int .i64 0, .int .u64 0, .string ⟨#[]⟩, .int .i64 0, .int .i64 ka, .int .i64 kb, (.slice sa n sc)])) ∧ (L 18 = true → Fo w' w.heap.size (.int .i64 kk) (.slice none 0 0) (.slice none 0 0) (.int .i64 0) (.int .u64 0) (.string ⟨#[]⟩) (.int .i64 0) (.int .i64 ka) (.int .i64 kb) (.slice sa n sc)) ∧ (L 19 = true → v5 = Value.bool true)) := by
      obtain ⟨h1, h2, h3, h4, h5, h6⟩ := HW.out
      exact ⟨h1, h2, h3, fun _ => rfl, h5, h6⟩
    have q := d3 p3
    subst q
    have q := d7 p7
    subst q
    have q := d11 p11
    subst q
    have g45 := evD (F 3 45 _ rfl rfl)
    have g49 := evD (F 7 49 _ rfl rfl)
    have g53 := evD (F 11 53 _ rfl rfl)
    have g58 := evD (F 16 58 _ rfl rfl)
    clear F G hvs hfar
    go_simp
    refine hK 17 59 _ w' rfl ⟨_, _, _, _, _, _, _, _, _, _, _, _, _, _, _, _, _, _, _, rfl, d0, d1, d2, (fun _ => rfl), d4, d5, d6, (fun _ => rfl), d8, d9, d10, (fun _ => rfl), d12, d13, d14, d15, (fun q => lmono (m16 q)), (fun _ => ⟨lmono p3, lmono p7, lmono p11, lmono p16⟩), (fun q => lmono (m18 q)), HW2⟩
  · rintro A L vs w' F G ⟨v42, v43, v44, v45, v46, v47, v48, v49, v50, v51, v52, v53, v54, v55, v56, v57, v58, v59, v5, rfl, d0, d1, d2, d3, d4, d5, d6, d7, d8, d9, d10, d11, d12, d13, d14, d15, m16, m17, m18, HW⟩ hL hdep K' hK hK0
    have p17 : L 17 = true := hdep { on := 17, ground := Ground.data } (by simp) rfl
    have p16 : L 16 = true := (m17 p17).2.2.2
    obtain ⟨sa, sc, e58, hvs, hfar⟩ := HW.out.2.2.1 p16
    have e59 := HW.out.2.2.2.1 p17
    subst e58
    subst e59
    have hzo := HW.out.2.1 hL
    obtain ⟨z0, z1, z2, z3, z4, z5, z6, z7, z8, z9, zf⟩ := hzo
    have HW2 : Hid (Wx (fun k => k = w.heap.size ∨ w0.heap.size ≤ k) w0 ((((((((((w'.setCell ⟨w.heap.size, 0, none⟩ (.int .i64 kk)).setCell ⟨w.heap.size, 1, none⟩ (.slice none 0 0)).setCell ⟨w.heap.size, 2, none⟩ (.slice none 0 0)).setCell ⟨w.heap.size, 3, none⟩ (.int .i64 0)).setCell ⟨w.heap.size, 4, none⟩ (.int .u64 0)).setCell ⟨w.heap.size, 5, none⟩ (.string ⟨#[]⟩)).setCell ⟨w.heap.size, 6, none⟩ (.int .i64 0)).setCell ⟨w.heap.size, 7, none⟩ (.int .i64 ka)).setCell ⟨w.heap.size, 8, none⟩ (.int .i64 kb)).setCell ⟨w.heap.size, 9, none⟩ (.slice sa n sc)) ∧ (true = false → Zo ((((((((((w'.setCell ⟨w.heap.size, 0, none⟩ (.int .i64 kk)).setCell ⟨w.heap.size, 1, none⟩ (.slice none 0 0)).setCell ⟨w.heap.size, 2, none⟩ (.slice none 0 0)).setCell ⟨w.heap.size, 3, none⟩ (.int .i64 0)).setCell ⟨w.heap.size, 4, none⟩ (.int .u64 0)).setCell ⟨w.heap.size, 5, none⟩ (.string ⟨#[]⟩)).setCell ⟨w.heap.size, 6, none⟩ (.int .i64 0)).setCell ⟨w.heap.size, 7, none⟩ (.int .i64 ka)).setCell ⟨w.heap.size, 8, none⟩ (.int .i64 kb)).setCell ⟨w.heap.size, 9, none⟩ (.slice sa n sc)) w.heap.size) ∧ (L 16 = true → Cd w0 ((((((((((w'.setCell ⟨w.heap.size, 0, none⟩ (.int .i64 kk)).setCell ⟨w.heap.size, 1, none⟩ (.slice none 0 0)).setCell ⟨w.heap.size, 2, none⟩ (.slice none 0 0)).setCell ⟨w.heap.size, 3, none⟩ (.int .i64 0)).setCell ⟨w.heap.size, 4, none⟩ (.int .u64 0)).setCell ⟨w.heap.size, 5, none⟩ (.string ⟨#[]⟩)).setCell ⟨w.heap.size, 6, none⟩ (.int .i64 0)).setCell ⟨w.heap.size, 7, none⟩ (.int .i64 ka)).setCell ⟨w.heap.size, 8, none⟩ (.int .i64 kb)).setCell ⟨w.heap.size, 9, none⟩ (.slice sa n sc)) sl n (.slice sa n sc)) ∧ (L 17 = true → (Value.agg #[.int .i64 kk, .slice none 0 0, .slice none 0 0, .int .i64 0, .int .u64 0, .string ⟨#[]⟩, .int .i64 0, .int .i64 ka, .int .i64 kb, (.slice sa n sc)]) = (Value.agg #[.int .i64 kk, .slice none 0 0, .slice none 0 0, .int .i64 0, .int .u64 0, .string ⟨#[]⟩, .int .i64 0, .int .i64 ka, .int .i64 kb, (.slice sa n sc)])) ∧ (true = true → Fo ((((((((((w'.setCell ⟨w.heap.size, 0, none⟩ (.int .i64 kk)).setCell ⟨w.heap.size, 1, none⟩ (.slice none 0 0)).setCell ⟨w.heap.size, 2, none⟩ (.slice none 0 0)).setCell ⟨w.heap.size, 3, none⟩ (.int .i64 0)).setCell ⟨w.heap.size, 4, none⟩ (.int .u64 0)).setCell ⟨w.heap.size, 5, none⟩ (.string ⟨#[]⟩)).setCell ⟨w.heap.size, 6, none⟩ (.int .i64 0)).setCell ⟨w.heap.size, 7, none⟩ (.int .i64 ka)).setCell ⟨w.heap.size, 8, none⟩ (.int .i64 kb)).setCell ⟨w.heap.size, 9, none⟩ (.slice sa n sc)) w.heap.size (.int .i64 kk) (.slice none 0 0) (.slice none 0 0) (.int .i64 0) (.int .u64 0) (.string ⟨#[]⟩) (.int .i64 0) (.int .i64 ka) (.int .i64 kb) (.slice sa n sc)) ∧ (L 19 = true → v5 = Value.bool true)) := by
      obtain ⟨h1, h2, h3, h4, h5, h6⟩ := HW.out
      have hx : Wx (fun k => k = w.heap.size) w' ((((((((((w'.setCell ⟨w.heap.size, 0, none⟩ (.int .i64 kk)).setCell ⟨w.heap.size, 1, none⟩ (.slice none 0 0)).setCell ⟨w.heap.size, 2, none⟩ (.slice none 0 0)).setCell ⟨w.heap.size, 3, none⟩ (.int .i64 0)).setCell ⟨w.heap.size, 4, none⟩ (.int .u64 0)).setCell ⟨w.heap.size, 5, none⟩ (.string ⟨#[]⟩)).setCell ⟨w.heap.size, 6, none⟩ (.int .i64 0)).setCell ⟨w.heap.size, 7, none⟩ (.int .i64 ka)).setCell ⟨w.heap.size, 8, none⟩ (.int .i64 kb)).setCell ⟨w.heap.size, 9, none⟩ (.slice sa n sc)) := by repeat' (first | with_reducible refine Wx.set' ?_ _ _ ?_ | with_reducible exact Wx.refl _ _ | rfl)
      refine ⟨h1.trans hx (fun k hk => Or.inl (Or.inl hk)), fun q => by (cases q), fun _ => ⟨sa, sc, rfl, hvs.wx hx (fun g hg c => by have := hfar g hg; omega), hfar⟩, h4, fun _ => ?_, h6⟩
      exact fo_set w' w.heap.size z0 z1 z2 z3 z4 z5 z6 z7 z8 z9 _ _ _ _ _ _ _ _ _ _
    have g4 : A.tmps[4]?.getD undef = .pointer (some ⟨w.heap.size, 0, none⟩) := evD ((G 4 (by decide)).trans rfl)
    have g59 := evD (F 17 59 _ rfl rfl)
    clear F G hvs hfar
    go_simp
    refine hK0 _ ⟨_, _, _, _, _, _, _, _, _, _, _, _, _, _, _, _, _, _, _, rfl, d0, d1, d2, d3, d4, d5, d6, d7, d8, d9, d10, d11, d12, d13, d14, d15, (fun q => lmono (m16 q)), (fun q => ⟨lmono (m17 q).1, lmono (m17 q).2.1, lmono (m17 q).2.2.1, lmono (m17 q).2.2.2⟩), (fun _ => lmono p17), HW2⟩
  · rintro A L vs w' F G ⟨v42, v43, v44, v45, v46, v47, v48, v49, v50, v51, v52, v53, v54, v55, v56, v57, v58, v59, v5, rfl, d0, d1, d2, d3, d4, d5, d6, d7, d8, d9, d10, d11, d12, d13, d14, d15, m16, m17, m18, HW⟩ hL hdep K' hK hK0
    have HW2 : Hid (Wx (fun k => k = w.heap.size ∨ w0.heap.size ≤ k) w0 w' ∧ (L 18 = false → Zo w' w.heap.size) ∧ (L 16 = true → Cd w0 w' sl n v58) ∧ (L 17 = true → v59 = (Value.agg #[.int .i64 kk, .slice none 0 0, .slice none 0 0, .int .i64 0, .int .u64 0, .string ⟨#[]⟩, .int .i64 0, .int .i64 ka, .int .i64 kb, v58])) ∧ (L 18 = true → Fo w' w.heap.size (.int .i64 kk) (.slice none 0 0) (.slice none 0 0) (.int .i64 0) (.int .u64 0) (.string ⟨#[]⟩) (.int .i64 0) (.int .i64 ka) (.int .i64 kb) v58) ∧ (true = true → (Value.bool true) = Value.bool true)) := by
      obtain ⟨h1, h2, h3, h4, h5, h6⟩ := HW.out
      exact ⟨h1, h2, h3, h4, h5, fun _ => rfl⟩
    clear F G
    go_simp
    refine hK 18 5 _ w' rfl ⟨_, _, _, _, _, _, _, _, _, _, _, _, _, _, _, _, _, _, _, rfl, d0, d1, d2, d3, d4, d5, d6, d7, d8, d9, d10, d11, d12, d13, d14, d15, (fun q => lmono (m16 q)), (fun q => ⟨lmono (m17 q).1, lmono (m17 q).2.1, lmono (m17 q).2.2.1, lmono (m17 q).2.2.2⟩), (fun q => lmono (m18 q)), HW2⟩
  · rintro L vs w' hall ⟨v42, v43, v44, v45, v46, v47, v48, v49, v50, v51, v52, v53, v54, v55, v56, v57, v58, v59, v5, rfl, d0, d1, d2, d3, d4, d5, d6, d7, d8, d9, d10, d11, d12, d13, d14, d15, m16, m17, m18, HW⟩
    obtain ⟨h1, h2, h3, h4, h5, h6⟩ := HW.out
    have e5 := h6 (hall 19 (by decide))
    obtain ⟨sa, sc, e58, hvs, hfar⟩ := h3 (hall 16 (by decide))
    have hfo := h5 (hall 18 (by decide))
    subst e5
    subst e58
    obtain ⟨z0, z1, z2, z3, z4, z5, z6, z7, z8, z9⟩ := hfo
    have HE := hide_p (HQ.out w' sa sc hvs (h1.below (B := w.heap.size) (fun k hk => by omega) (by omega)))
    clear d0 d1 d2 d3 d4 d5 d6 d7 d8 d9 d10 d11 d12 d13 d14 d15 m16 m17 m18 HW h1 h2 h3 h4 h5 h6 hvs hfar
    simp only [puts]
    go_simp
    go_wp2
    exact bodyPost_ret (v := .tuple #[(Value.agg #[.int .i64 kk, .slice none 0 0, .slice none 0 0, .int .i64 0, .int .u64 0, .string ⟨#[]⟩, .int .i64 0, .int .i64 ka, .int .i64 kb, (.slice sa n sc)]), .bool true]) (by simp [results, Tryz.results13, go_sem, z0, z1, z2, z3, z4, z5, z6, z7, z8, z9]) rfl HE.out

/-- What is no table has nothing that stands in for it. -/
def Mz (L : List Om) : Prop := ∀ m ∈ L, m.k ≠ 5 → m.M = V0
theorem object_oth {w : World} {hb lim used : Nat} {R : Value} {os : List Ob} {Z : Nat → Prop} (hv : Hv w hb lim used R os Z) (p : Nat) (x : Ob) (hx : os[p]? = some x) (ht : x.tb = none) (hM : x.M = V0) :
    Calls Tryz.prog 13 #[.pointer (some ⟨hb, 0, none⟩), .int .i64 ((p : Int) + 1)] w fun e w' => Tells x.om e w' ∧ Below w.heap.size w w' := by
  have hlen : os.length ≤ 1099511627776 := by have := sum_len os; have := hv.sum; have := hv.hu; have := hv.hl; omega
  have hil : p < os.length := by
    rcases Nat.lt_or_ge p os.length with q | q
    · exact q
    · rw [List.getElem?_eq_none q] at hx; cases hx
  obtain ⟨w0, hw0⟩ : ∃ w0, w0 = w.alloc (.cells #[.int .i64 0, .slice none 0 0, .slice none 0 0, .int .i64 0, .int .u64 0, .string ⟨#[]⟩, .int .i64 0, .int .i64 0, .int .i64 0, .slice none 0 0] 39) := ⟨_, rfl⟩
  have hb0 : Below w.heap.size w w0 := by rw [hw0]; exact (Below.refl _ _).alloc (Nat.le_refl _) _
  obtain ⟨g, cap, hR, hg, hc⟩ := hv.cells hx
  have HF := hide_p (hfind_any hb g os.length cap (some ⟨g, 0, none⟩) ((p : Int) + 1) w0 (by rw [(hv.below hb0).c2, hR]) (fun _ => rfl) hlen)
  rw [show objAt g os.length ((p : Int) + 1) = some ⟨g, p * 5, none⟩ by unfold objAt; rw [if_pos (by omega)]; congr 2; omega] at HF
  obtain ⟨⟨hes, hk⟩, -, hsb, -, hat⟩ := (hv.ob p x hx).oth ht
  have hsl : x.sl.length ≤ 1048576 := by have := sum_ge os p x hx; have := hv.sum; have := hv.hu; have := hv.hl; have hw : x.wt = 1 + x.es.length + x.sl.length := rfl; omega
  refine obj_oth w w0 hb g p x.sl.length x.sb x.k x.a x.b x.sl hw0 hg _ HF (fun w' hb => clonev_any x.sl x.sb w' (fun i v hi => (hat i v hi).wx (Wx.of_below (fun _ => False) hb) (fun c => c)) hsl (Nat.lt_of_lt_of_le hsb hb.size)) ((hb0.cell hg).trans (hc 0 (by omega))) ((hb0.cell hg).trans (hc 1 (by omega))) ((hb0.cell hg).trans (hc 2 (by omega))) ((hb0.cell hg).trans ?_) ((hb0.cell hg).trans ?_) (fun W sa sc h1 h2 => ?_)
  · rw [hc 3 (by omega)]; simp [Ob.cells, Ob.slV, ht]
  · rw [hc 4 (by omega)]; simp [Ob.cells, Ob.ptr, ht]
  · refine ⟨⟨none, none, sa, 0, 0, sc, by simp [Ob.om, hes, hM, V0], fun q => ?_, fun q => ?_, h1⟩, hb0.trans h2⟩
    · simp [Ob.om, hes] at q
    · simp [Ob.om, hes] at q
theorem lobject_any {w : World} {hb lim : Nat} {L : List Om} {Z : Nat → Prop} (h : LH w hb lim L Z) (hz : Mz L) (o : Int) :
    (∀ m, atM L o = some m → Calls Tryz.prog 13 #[.pointer (some ⟨hb, 0, none⟩), .int .i64 o] w fun e w' => Tells m e w' ∧ Below w.heap.size w w') ∧
    (atM L o = none → Calls Tryz.prog 13 #[.pointer (some ⟨hb, 0, none⟩), .int .i64 o] w fun e w' => e = .returned (.tuple #[.agg #[.int .i64 0, .slice none 0 0, .slice none 0 0, .int .i64 0, .int .u64 0, .string ⟨#[]⟩, .int .i64 0, .int .i64 0, .int .i64 0, .slice none 0 0], .bool false]) ∧ Below w.heap.size w w') := by
  obtain ⟨used, R, os, hv, rfl⟩ := h
  rw [atM_map]
  by_cases c : 1 ≤ o ∧ o ≤ os.length
  · rw [if_pos c]
    obtain ⟨p, rfl⟩ : ∃ p : Nat, o = (p : Int) + 1 := ⟨(o - 1).toNat, by omega⟩
    rw [show ((p : Int) + 1 - 1).toNat = p by omega]
    obtain ⟨x, hx⟩ : ∃ x, os[p]? = some x := ⟨os[p]'(by omega), List.getElem?_eq_getElem _⟩
    rw [hx]
    refine ⟨fun m hm => ?_, fun hm => by cases hm⟩
    simp only [Option.map_some, Option.some.injEq] at hm
    subst hm
    cases ht : x.tb with
    | some tb => exact object_tab hv p x hx tb ht
    | none => exact object_oth hv p x hx ht (hz x.om (List.mem_map.2 ⟨x, List.mem_of_getElem? hx, rfl⟩) (((hv.ob p x hx).oth ht).1.2))
  · rw [if_neg c]
    exact ⟨fun m hm => by (cases hm), fun _ => object_none hv o c⟩

end Go.Proofs.YthmocdabakkfhaaGreatDoor
