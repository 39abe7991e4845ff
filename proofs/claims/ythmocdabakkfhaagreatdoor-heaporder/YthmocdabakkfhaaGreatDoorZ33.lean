/-
  HpTwo, HpTwo2, HpRmakeP
-/
import Derived.Test.YthmocdabakkfhaaGreatDoorZ32

/-
  Layer 9: two rows of an object changed in one statement, in whatever order.
-/
namespace Go.Proofs.YthmocdabakkfhaaGreatDoor
set_option maxRecDepth 100000
open Go.RowKit Flo

theorem evD {A : Act} {t : Nat} {v : Value} (h : A.eval (.tmp t) = v) : A.tmps[t]?.getD undef = v := by
  rw [← h]
  show _ = A.tmps.getD t undef
  simp
theorem lmono {L : Nat → Bool} {i j : Nat} (h : L j = true) : Later L i j = true := by
  unfold Later
  split
  · rfl
  · exact h
/-- An object in the box xb, its rows of keys and values in blocks of their own, not below B, apart. -/
structure Tw (B : Nat) (w : World) (xb : Nat) (rom : Om) (sv : Value) (ks vs : List V4) (r1 r2 : Value) : Prop where
  bo : Bo w xb ⟨rom, r1, r2, sv⟩
  o1 : w.ownsRow B 37 4 r1 ks.length (vC ks)
  o2 : w.ownsRow B 37 4 r2 vs.length (vC vs)
  ap : ∀ g, r1.ownBlock = some g → r2.ownBlock ≠ some g
  lt : xb < B
  le : B ≤ w.heap.size

/-- What holds in the midst of it: what is in the box, what is as it was, and what of each row is done, in blocks of its own. -/
structure WR (B : Nat) (W w : World) (xb : Nat) (rom : Om) (kv vv sv : Value) (sA sB : Bool) (n1 n2 : Value) (PA PB : (Nat → Prop) → World → Prop) : Prop where
  bo : Bo w xb ⟨rom, if sA = true then n1 else kv, if sB = true then n2 else vv, sv⟩
  low : Wx (fun k => k = xb ∨ B ≤ k) W w
  ex : ∃ XA XB : Nat → Prop, (∀ k, XA k → ¬ XB k) ∧ (∀ k, XA k ∨ XB k → B ≤ k ∧ k < w.heap.size) ∧ PA XA w ∧ PB XB w
/-- It speaks of blocks of X alone. -/
def Lcl (P : (Nat → Prop) → World → Prop) : Prop := ∀ (X X' : Nat → Prop) (w w' : World), P X w → (∀ k, X k → k < w.heap.size) → (∀ k, X k → w'.heap[k]? = w.heap[k]?) → (∀ k, X k → X' k) → P X' w'
theorem Wx.within {w w' : World} {X : Nat → Prop} (h : Wx X w w') {k : Nat} (hk : k < w.heap.size) (hx : ¬ X k) : w'.heap[k]? = w.heap[k]? := h.block k hk hx

theorem WR.stepA {B : Nat} {W w w' : World} {xb : Nat} {rom : Om} {kv vv sv : Value} {sA sB : Bool} {n1 n2 n1' : Value} {PA PB PA' : (Nat → Prop) → World → Prop} (h : WR B W w xb rom kv vv sv sA sB n1 n2 PA PB) (hxb : xb < B) (hB : B ≤ w.heap.size) (hA : sA = false) (lB : Lcl PB)
    (hs : ∀ X : Nat → Prop, PA X w → (∀ k, X k → B ≤ k ∧ k < w.heap.size) → Wx X w w' ∧ PA' (fun k => X k ∨ (w.heap.size ≤ k ∧ k < w'.heap.size)) w') : WR B W w' xb rom kv vv sv sA sB n1' n2 PA' PB := by
  obtain ⟨XA, XB, h1, h2, h3, h4⟩ := h.ex
  obtain ⟨hx, hp⟩ := hs XA h3 (fun k hk => h2 k (Or.inl hk))
  have hsz := hx.size
  have hbo : Bo w' xb ⟨rom, if sA = true then n1 else kv, if sB = true then n2 else vv, sv⟩ := h.bo.wx hx (fun c => by have := (h2 xb (Or.inl c)).1; omega)
  subst hA
  refine ⟨hbo, h.low.trans hx (fun k hk => Or.inl (Or.inr (h2 k (Or.inl hk)).1)), fun k => XA k ∨ (w.heap.size ≤ k ∧ k < w'.heap.size), XB, fun k hk hb => ?_, fun k hk => ?_, hp, ?_⟩
  · rcases hk with c | c
    · exact h1 k c hb
    · have := (h2 k (Or.inr hb)).2; omega
  · rcases hk with (c | c) | c
    · have := h2 k (Or.inl c); omega
    · omega
    · have := h2 k (Or.inr c); omega
  · exact lB XB XB w w' h4 (fun k hk => (h2 k (Or.inr hk)).2) (fun k hk => hx.block k (h2 k (Or.inr hk)).2 (fun c => h1 k c hk)) (fun _ c => c)
theorem WR.stepB {B : Nat} {W w w' : World} {xb : Nat} {rom : Om} {kv vv sv : Value} {sA sB : Bool} {n1 n2 n2' : Value} {PA PB PB' : (Nat → Prop) → World → Prop} (h : WR B W w xb rom kv vv sv sA sB n1 n2 PA PB) (hxb : xb < B) (hB : B ≤ w.heap.size) (hA : sB = false) (lA : Lcl PA)
    (hs : ∀ X : Nat → Prop, PB X w → (∀ k, X k → B ≤ k ∧ k < w.heap.size) → Wx X w w' ∧ PB' (fun k => X k ∨ (w.heap.size ≤ k ∧ k < w'.heap.size)) w') : WR B W w' xb rom kv vv sv sA sB n1 n2' PA PB' := by
  obtain ⟨XA, XB, h1, h2, h3, h4⟩ := h.ex
  obtain ⟨hx, hp⟩ := hs XB h4 (fun k hk => h2 k (Or.inr hk))
  have hsz := hx.size
  have hbo : Bo w' xb ⟨rom, if sA = true then n1 else kv, if sB = true then n2 else vv, sv⟩ := h.bo.wx hx (fun c => by have := (h2 xb (Or.inr c)).1; omega)
  subst hA
  refine ⟨hbo, h.low.trans hx (fun k hk => Or.inl (Or.inr (h2 k (Or.inr hk)).1)), XA, fun k => XB k ∨ (w.heap.size ≤ k ∧ k < w'.heap.size), fun k hk hb => ?_, fun k hk => ?_, ?_, hp⟩
  · rcases hb with c | c
    · exact h1 k hk c
    · have := (h2 k (Or.inl hk)).2; omega
  · rcases hk with c | (c | c)
    · have := h2 k (Or.inl c); omega
    · have := h2 k (Or.inr c); omega
    · omega
  · exact lA XA XA w w' h3 (fun k hk => (h2 k (Or.inl hk)).2) (fun k hk => hx.block k (h2 k (Or.inl hk)).2 (fun c => h1 k hk c)) (fun _ c => c)
theorem WR.storeA {B : Nat} {W w : World} {xb : Nat} {rom : Om} {kv vv sv : Value} {sB : Bool} {n1 n2 : Value} {PA PB : (Nat → Prop) → World → Prop} (h : WR B W w xb rom kv vv sv false sB n1 n2 PA PB) (hxb : xb < B) (lA : Lcl PA) (lB : Lcl PB) : WR B W (w.setCell ⟨xb, 1, none⟩ n1) xb rom kv vv sv true sB n1 n2 PA PB := by
  obtain ⟨XA, XB, h1, h2, h3, h4⟩ := h.ex
  have hx : Wx (fun k => k = xb) w (w.setCell ⟨xb, 1, none⟩ n1) := Wx.set w 1 n1 rfl
  have hn : ∀ k, XA k ∨ XB k → ¬ k = xb := fun k hk e => by have := (h2 k hk).1; omega
  refine ⟨?_, h.low.trans hx (fun k hk => Or.inl (Or.inl hk)), XA, XB, h1, fun k hk => ⟨(h2 k hk).1, by have := (h2 k hk).2; rw [World.size_setCell]; exact this⟩, ?_, ?_⟩
  · have := h.bo.sets (r' := ⟨rom, n1, if sB = true then n2 else vv, sv⟩) [(1, n1)] rfl
    exact this
  · exact lA XA XA w _ h3 (fun k hk => (h2 k (Or.inl hk)).2) (fun k hk => hx.block k (h2 k (Or.inl hk)).2 (hn k (Or.inl hk))) (fun _ c => c)
  · exact lB XB XB w _ h4 (fun k hk => (h2 k (Or.inr hk)).2) (fun k hk => hx.block k (h2 k (Or.inr hk)).2 (hn k (Or.inr hk))) (fun _ c => c)
theorem WR.storeB {B : Nat} {W w : World} {xb : Nat} {rom : Om} {kv vv sv : Value} {sA : Bool} {n1 n2 : Value} {PA PB : (Nat → Prop) → World → Prop} (h : WR B W w xb rom kv vv sv sA false n1 n2 PA PB) (hxb : xb < B) (lA : Lcl PA) (lB : Lcl PB) : WR B W (w.setCell ⟨xb, 2, none⟩ n2) xb rom kv vv sv sA true n1 n2 PA PB := by
  obtain ⟨XA, XB, h1, h2, h3, h4⟩ := h.ex
  have hx : Wx (fun k => k = xb) w (w.setCell ⟨xb, 2, none⟩ n2) := Wx.set w 2 n2 rfl
  have hn : ∀ k, XA k ∨ XB k → ¬ k = xb := fun k hk e => by have := (h2 k hk).1; omega
  refine ⟨?_, h.low.trans hx (fun k hk => Or.inl (Or.inl hk)), XA, XB, h1, fun k hk => ⟨(h2 k hk).1, by have := (h2 k hk).2; rw [World.size_setCell]; exact this⟩, ?_, ?_⟩
  · have := h.bo.sets (r' := ⟨rom, if sA = true then n1 else kv, n2, sv⟩) [(2, n2)] rfl
    exact this
  · exact lA XA XA w _ h3 (fun k hk => (h2 k (Or.inl hk)).2) (fun k hk => hx.block k (h2 k (Or.inl hk)).2 (hn k (Or.inl hk))) (fun _ c => c)
  · exact lB XB XB w _ h4 (fun k hk => (h2 k (Or.inr hk)).2) (fun k hk => hx.block k (h2 k (Or.inr hk)).2 (hn k (Or.inr hk))) (fun _ c => c)

/-- A row in blocks of X. -/
def RowIn (B : Nat) (r : Value) (l : List V4) (X : Nat → Prop) (w : World) : Prop := w.ownsRow B 37 4 r l.length (vC l) ∧ ∀ g, r.ownBlock = some g → X g
theorem RowIn.lcl (B : Nat) (r : Value) (l : List V4) : Lcl (RowIn B r l) := fun _ _ _ _ h _ hb hX => ⟨rowStay h.1 (fun g hg => hb g (h.2 g hg)), fun g hg => hX g (h.2 g hg)⟩

/-! ### a copy: an empty row, then all elements laid behind it -/
def P9 (B : Nat) (l : List V4) (a0 a1 : Bool) (e r : Value) (X : Nat → Prop) (w : World) : Prop :=
  (a0 = true → a1 = false → ∃ g, e = .slice (some ⟨g, 0, none⟩) 0 0 ∧ RowIn B e [] X w) ∧ (a1 = true → (∃ a c, r = .slice a l.length c) ∧ RowIn B r l X w)
theorem P9.lcl (B : Nat) (l : List V4) (a0 a1 : Bool) (e r : Value) : Lcl (P9 B l a0 a1 e r) := fun X X' w w' h hl hb hX =>
  ⟨fun h0 h1 => by
    obtain ⟨g, hg, hr⟩ := h.1 h0 h1
    exact ⟨g, hg, RowIn.lcl B e [] X X' w w' hr hl hb hX⟩, fun h1 => ⟨(h.2 h1).1, RowIn.lcl B r l X X' w w' (h.2 h1).2 hl hb hX⟩⟩
theorem P9.bs {B : Nat} {l : List V4} {r : Value} {w : World} {X : Nat → Prop} (hB : B ≤ w.heap.size) :
    Wx X w (w.alloc (.cells #[] 37)) ∧ P9 B l true false (.slice (some ⟨w.heap.size, 0, none⟩) 0 0) r (fun k => X k ∨ (w.heap.size ≤ k ∧ k < (w.alloc (.cells #[] 37)).heap.size)) (w.alloc (.cells #[] 37)) := by
  refine ⟨Wx.of_below X ((Below.refl _ _).alloc (Nat.le_refl _) _), fun _ _ => ⟨_, rfl, World.ownsRow_lit (base := B) (e := 37) (size := 4) w #[] 0 hB (by decide) rfl, fun g hg => ?_⟩, fun c => by cases c⟩
  have e : w.heap.size = g := by simpa [Value.ownBlock] using hg
  exact Or.inr ⟨by omega, by simp; omega⟩
theorem P9.app {B : Nat} {l : List V4} {e : Value} {w w' : World} {X : Nat → Prop} {a : Option Addr} {c : Nat} (h : RowIn B e [] X w) (hown : w'.ownsRow B 37 4 (.slice a l.length c) l.length (vC l)) (hg : w.grownBy w' e.ownBlock) (hq : (Value.slice a l.length c).ownBlock = e.ownBlock ∨ (Value.slice a l.length c).ownBlock = some w.heap.size) :
    Wx X w w' ∧ P9 B l true true e (.slice a l.length c) (fun k => X k ∨ (w.heap.size ≤ k ∧ k < w'.heap.size)) w' := by
  refine ⟨⟨hg.os, hg.tape, hg.output, hg.size, fun k hk hx => hg.block k hk (fun q => hx (h.2 k q.symm))⟩, fun _ q => by (cases q), fun _ => ⟨⟨a, c, rfl⟩, hown, fun g hgg => ?_⟩⟩
  have hl := World.ownsRow.lt hown g hgg
  rcases hq with q | q
  · exact Or.inl (h.2 g (by rw [← q]; exact hgg))
  · rw [hgg] at q
    injection q with q
    exact Or.inr ⟨by omega, hl.2⟩

end Go.Proofs.YthmocdabakkfhaaGreatDoor

/-
  Layer 9: two rows in one statement: an element more in each, or one less.
-/
namespace Go.Proofs.YthmocdabakkfhaaGreatDoor
set_option maxRecDepth 100000
open Go.RowKit Flo

/-! ### an element laid behind -/
def P17 (B : Nat) (r : Value) (l : List V4) (x : V4) (b a : Bool) (e n : Value) (X : Nat → Prop) (w : World) : Prop :=
  (a = false → RowIn B r l X w) ∧ (b = true → a = false → ∃ g, e = .slice (some ⟨g, 0, none⟩) 1 1 ∧ X g ∧ r.ownBlock ≠ some g ∧ w.heap[g]? = some (.cells #[.int .i64 x.K, .int .u64 x.N, .string x.S, .int .i64 x.O] 37 (0, 0))) ∧ (a = true → (∃ a c, n = .slice a (l ++ [x]).length c) ∧ RowIn B n (l ++ [x]) X w)
theorem P17.lcl (B : Nat) (r : Value) (l : List V4) (x : V4) (b a : Bool) (e n : Value) : Lcl (P17 B r l x b a e n) := fun X X' w w' h hl hb hX =>
  ⟨fun h0 => RowIn.lcl B r l X X' w w' (h.1 h0) hl hb hX, fun h0 h1 => by
    obtain ⟨g, e1, e2, e3, e4⟩ := h.2.1 h0 h1
    exact ⟨g, e1, hX g e2, e3, (hb g e2).trans e4⟩, fun h1 => ⟨(h.2.2 h1).1, RowIn.lcl B n (l ++ [x]) X X' w w' (h.2.2 h1).2 hl hb hX⟩⟩
theorem P17.bs {B : Nat} {r : Value} {l : List V4} {x : V4} {n : Value} {w : World} {X : Nat → Prop} (h : RowIn B r l X w) (hl : ∀ k, X k → k < w.heap.size) :
    Wx X w (w.alloc (.cells #[.int .i64 x.K, .int .u64 x.N, .string x.S, .int .i64 x.O] 37)) ∧ P17 B r l x true false (.slice (some ⟨w.heap.size, 0, none⟩) 1 1) n (fun k => X k ∨ (w.heap.size ≤ k ∧ k < (w.alloc (.cells #[.int .i64 x.K, .int .u64 x.N, .string x.S, .int .i64 x.O] 37)).heap.size)) (w.alloc (.cells #[.int .i64 x.K, .int .u64 x.N, .string x.S, .int .i64 x.O] 37)) := by
  have hx : Wx X w (w.alloc (.cells #[.int .i64 x.K, .int .u64 x.N, .string x.S, .int .i64 x.O] 37)) := Wx.of_below X ((Below.refl _ _).alloc (Nat.le_refl _) _)
  refine ⟨hx, fun _ => ⟨rowStay h.1 (fun g hg => ((Below.refl w.heap.size w).alloc (Nat.le_refl _) _).block g (hl g (h.2 g hg))), fun g hg => Or.inl (h.2 g hg)⟩, fun _ _ => ⟨_, rfl, Or.inr ⟨Nat.le_refl _, by simp⟩, fun c => by have := hl _ (h.2 _ c); omega, heap_alloc_new w _⟩, fun c => by cases c⟩
theorem P17.app {B : Nat} {r : Value} {l : List V4} {x : V4} {e : Value} {w w' : World} {X : Nat → Prop} {a : Option Addr} {c : Nat} (h : RowIn B r l X w) (hown : w'.ownsRow B 37 4 (.slice a (l.length + 1) c) (l.length + 1) (vC l ++ x.cells)) (hg : w.grownBy w' r.ownBlock) (hq : (Value.slice a (l.length + 1) c).ownBlock = r.ownBlock ∨ (Value.slice a (l.length + 1) c).ownBlock = some w.heap.size) :
    Wx X w w' ∧ P17 B r l x true true e (.slice a (l.length + 1) c) (fun k => X k ∨ (w.heap.size ≤ k ∧ k < w'.heap.size)) w' := by
  refine ⟨⟨hg.os, hg.tape, hg.output, hg.size, fun k hk hx => hg.block k hk (fun q => hx (h.2 k q.symm))⟩, fun q => by (cases q), fun _ q => by (cases q), fun _ => ⟨⟨a, c, by simp⟩, ?_, fun g hgg => ?_⟩⟩
  · rw [List.length_append, List.length_singleton, vC_append, show vC [x] = x.cells by simp [vC]]
    exact hown
  · have hl := World.ownsRow.lt hown g hgg
    rcases hq with q | q
    · exact Or.inl (h.2 g (by rw [← q]; exact hgg))
    · rw [hgg] at q
      injection q with q
      exact Or.inr ⟨by omega, hl.2⟩

/-! ### an element taken out -/
def P12 (B : Nat) (r : Value) (l : List V4) (p : Nat) (a : Bool) (n : Value) (X : Nat → Prop) (w : World) : Prop :=
  (a = false → RowIn B r l X w) ∧ (a = true → (∃ a c, n = .slice a (l.eraseIdx p).length c) ∧ RowIn B n (l.eraseIdx p) X w)
theorem P12.lcl (B : Nat) (r : Value) (l : List V4) (p : Nat) (a : Bool) (n : Value) : Lcl (P12 B r l p a n) := fun X X' w w' h hl hb hX =>
  ⟨fun h0 => RowIn.lcl B r l X X' w w' (h.1 h0) hl hb hX, fun h1 => ⟨(h.2 h1).1, RowIn.lcl B n (l.eraseIdx p) X X' w w' (h.2 h1).2 hl hb hX⟩⟩
theorem owns_cap {w : World} {B e s n c g : Nat} {xs : List Value} (h : w.ownsRow B e s (.slice (some ⟨g, 0, none⟩) n c) n xs) : n ≤ c ∧ c ≤ 9223372036854775807 := by
  rcases h.2 with ⟨h', _⟩ | ⟨g', cap', cur, h', hb, hg, hnc, hcm, _⟩
  · simp at h'
  · simp only [Value.slice.injEq, Option.some.injEq, Addr.mk.injEq, and_true, true_and] at h'
    obtain ⟨rfl, rfl⟩ := h'
    exact ⟨hnc, by unfold maxLen at hcm; omega⟩
theorem owns_take {w : World} {B e n c g p : Nat} {xs : List Value} (h : w.ownsRow B e 4 (.slice (some ⟨g, 0, none⟩) n c) n xs) (hp : p ≤ n) : w.ownsRow B e 4 (.slice (some ⟨g, 0, none⟩) p c) p (xs.take (p * 4)) := by
  rcases h.2 with ⟨h', _⟩ | ⟨g', cap', cur, h', hb, hg, hnc, hcm, hcs, htake⟩
  · simp at h'
  · simp only [Value.slice.injEq, Option.some.injEq, Addr.mk.injEq, and_true, true_and] at h'
    obtain ⟨rfl, rfl⟩ := h'
    refine ⟨by rw [List.length_take, h.1]; omega, Or.inr ⟨g, c, cur, rfl, hb, hg, by omega, hcm, hcs, ?_⟩⟩
    rw [← htake, List.take_take, Nat.min_eq_left (by omega)]
theorem vC_take : ∀ (l : List V4) (p : Nat), (vC l).take (p * 4) = vC (l.take p)
  | [], p => by simp [vC]
  | v :: l, 0 => by simp [vC]
  | v :: l, p + 1 => by
    have := vC_take l p
    unfold vC at *
    rw [List.take_succ_cons, List.flatMap_cons, List.flatMap_cons, List.take_append, ← this]
    have hl : v.cells.length = 4 := rfl
    rw [hl, List.take_of_length_le (by rw [hl]; omega), show (p + 1) * 4 - 4 = p * 4 by omega]
theorem vC_drop : ∀ (l : List V4) (p : Nat), (vC l).drop (p * 4) = vC (l.drop p)
  | [], p => by simp [vC]
  | v :: l, 0 => by simp [vC]
  | v :: l, p + 1 => by
    have := vC_drop l p
    unfold vC at *
    rw [List.drop_succ_cons, List.flatMap_cons, List.drop_append, ← this]
    have hl : v.cells.length = 4 := rfl
    rw [hl, List.drop_of_length_le (by rw [hl]; omega), show (p + 1) * 4 - 4 = p * 4 by omega, List.nil_append]
theorem src_drop {w : World} {B e n c g p c' : Nat} {l : List V4} (h : w.ownsRow B e 4 (.slice (some ⟨g, 0, none⟩) n c) n (vC l)) : Src w 4 (.slice (some ⟨g, p * 4, none⟩) (n - p) c') (n - p) (vC (l.drop p)) := by
  refine Or.inr ⟨_, _, rfl, ?_, fun j u hu => ?_, vC_one _⟩
  · rw [vC_length, List.length_drop]
    have := h.1
    rw [vC_length] at this
    omega
  · rw [← vC_drop, List.getElem?_drop] at hu
    have hj : p * 4 + j < (vC l).length := by
      rcases Nat.lt_or_ge (p * 4 + j) (vC l).length with q | q
      · exact q
      · rw [List.getElem?_eq_none q] at hu; cases hu
    have hadd : (⟨g, p * 4, none⟩ : Addr).add j = ⟨g, p * 4 + j, none⟩ := by unfold Addr.add; split <;> simp_all
    rw [hadd, h.cellAt (p * 4 + j) (by rw [← h.1]; exact hj)]
    exact hu
theorem src_drop2 {w : World} {B e n c g p : Nat} {l : List V4} (h : w.ownsRow B e 4 (.slice (some ⟨g, 0, none⟩) n c) n (vC l)) : Src w 4 (.slice (if c = p + 1 then some ⟨g, 0, none⟩ else some ⟨g, (p + 1) * 4, none⟩) (n - (p + 1)) (c - (p + 1))) (n - (p + 1)) (vC (l.drop (p + 1))) := by
  by_cases q : c = p + 1
  · rw [if_pos q]
    have hc := (owns_cap h).1
    have hl := h.1
    rw [vC_length] at hl
    have e : l.drop (p + 1) = [] := List.drop_of_length_le (by omega)
    rw [e]
    exact Or.inr ⟨_, _, rfl, by simp [vC]; omega, fun j u hu => by simp [vC] at hu, fun u hu => by simp [vC] at hu⟩
  · rw [if_neg q]
    exact src_drop h
theorem P12.app {B n c g p : Nat} {l : List V4} {w w' : World} {X : Nat → Prop} {a : Option Addr} {c' : Nat} (hp : p < l.length) (h : RowIn B (.slice (some ⟨g, 0, none⟩) n c) l X w) (hown : w'.ownsRow B 37 4 (.slice a (p + (l.length - (p + 1))) c') (p + (l.length - (p + 1))) (vC (l.take p) ++ vC (l.drop (p + 1)))) (hg : w.grownBy w' (some g)) (hq : (Value.slice a (p + (l.length - (p + 1))) c').ownBlock = some g ∨ (Value.slice a (p + (l.length - (p + 1))) c').ownBlock = some w.heap.size) :
    Wx X w w' ∧ P12 B (.slice (some ⟨g, 0, none⟩) n c) l p true (.slice a (p + (l.length - (p + 1))) c') (fun k => X k ∨ (w.heap.size ≤ k ∧ k < w'.heap.size)) w' := by
  have hlen : (l.eraseIdx p).length = p + (l.length - (p + 1)) := by rw [List.length_eraseIdx_of_lt hp]; omega
  refine ⟨⟨hg.os, hg.tape, hg.output, hg.size, fun k hk hx => hg.block k hk (fun q => hx (h.2 k (by rw [q]; rfl)))⟩, fun q => by (cases q), fun _ => ⟨⟨a, c', by rw [hlen]⟩, ?_, fun k hgg => ?_⟩⟩
  · rw [hlen, List.eraseIdx_eq_take_drop_succ, vC_append]
    exact hown
  · have hl := World.ownsRow.lt hown k hgg
    rcases hq with q | q
    · exact Or.inl (h.2 k (by rw [← hgg, q]; rfl))
    · rw [hgg] at q
      injection q with q
      exact Or.inr ⟨by omega, hl.2⟩

end Go.Proofs.YthmocdabakkfhaaGreatDoor

/-
  Layer 9: what holds in the midst of the reference's Make.
-/
namespace Go.Proofs.YthmocdabakkfhaaGreatDoor
set_option maxRecDepth 100000
open Go.RowKit Flo

/-- A new object that is no table, with its row of slots. -/
def rOth (k a b : Int) (m : Nat) (sv : Value) : Rr := ⟨⟨k, a, b, V0, [], [], List.replicate m V0⟩, .slice none 0 0, .slice none 0 0, sv⟩
def RwIn (B : Nat) (r : Value) (n : Nat) (xs : List Value) (X : Nat → Prop) (w : World) : Prop := (∃ a c, r = .slice a n c) ∧ w.ownsRow B 39 10 r n xs ∧ ∀ g, r.ownBlock = some g → X g
theorem RwIn.lcl (B : Nat) (r : Value) (n : Nat) (xs : List Value) : Lcl (RwIn B r n xs) := fun _ _ _ _ h _ hb hX => ⟨h.1, rowStay h.2.1 (fun g hg => hb g (h.2.2 g hg)), fun g hg => hX g (h.2.2 g hg)⟩
/-- The row of objects: an empty one; a copy; the copy and the new object. -/
def PMa (B : Nat) (rs : List Rr) (cs : List Value) (l1 l6 l14 : Bool) (v41 v46 v54 : Value) (X : Nat → Prop) (w : World) : Prop :=
  (l1 = true → l6 = false → RwIn B v41 0 [] X w) ∧ (l6 = true → l14 = false → RwIn B v46 rs.length (rC rs) X w) ∧ (l14 = true → RwIn B v54 (rs.length + 1) (rC rs ++ cs) X w)
theorem PMa.lcl (B : Nat) (rs : List Rr) (cs : List Value) (l1 l6 l14 : Bool) (v41 v46 v54 : Value) : Lcl (PMa B rs cs l1 l6 l14 v41 v46 v54) := fun X X' w w' h hl hb hX =>
  ⟨fun a b => RwIn.lcl _ _ _ _ X X' w w' (h.1 a b) hl hb hX, fun a b => RwIn.lcl _ _ _ _ X X' w w' (h.2.1 a b) hl hb hX, fun a => RwIn.lcl _ _ _ _ X X' w w' (h.2.2 a) hl hb hX⟩
/-- The row of slots, and the object laid out. -/
def PMb (B : Nat) (m : Nat) (cs : List Value) (l11 l13 l14 : Bool) (v51 v53 : Value) (X : Nat → Prop) (w : World) : Prop :=
  (l11 = true → ∃ sb, v51 = .slice (some ⟨sb, 0, none⟩) m m ∧ RowIn B v51 (List.replicate m V0) X w) ∧ (l13 = true → l14 = false → ∃ g, v53 = .slice (some ⟨g, 0, none⟩) 1 1 ∧ X g ∧ w.heap[g]? = some (.cells cs.toArray 39 (0, 0)))
theorem PMb.lcl (B m : Nat) (cs : List Value) (l11 l13 l14 : Bool) (v51 v53 : Value) : Lcl (PMb B m cs l11 l13 l14 v51 v53) := fun X X' w w' h hl hb hX =>
  ⟨fun a => by
    obtain ⟨sb, e, hr⟩ := h.1 a
    exact ⟨sb, e, RowIn.lcl _ _ _ X X' w w' hr hl hb hX⟩, fun a b => by
    obtain ⟨g, e1, e2, e3⟩ := h.2 a b
    exact ⟨g, e1, hX g e2, (hb g e2).trans e3⟩⟩
structure WM (W w : World) (PA PB : (Nat → Prop) → World → Prop) : Prop where
  low : Below W.heap.size W w
  ex : ∃ XA XB : Nat → Prop, (∀ k, XA k → ¬ XB k) ∧ (∀ k, XA k ∨ XB k → W.heap.size ≤ k ∧ k < w.heap.size) ∧ PA XA w ∧ PB XB w
theorem WM.stepA {W w w' : World} {PA PB PA' : (Nat → Prop) → World → Prop} (h : WM W w PA PB) (lB : Lcl PB)
    (hs : ∀ X : Nat → Prop, PA X w → (∀ k, X k → W.heap.size ≤ k ∧ k < w.heap.size) → Wx X w w' ∧ PA' (fun k => X k ∨ (w.heap.size ≤ k ∧ k < w'.heap.size)) w') : WM W w' PA' PB := by
  obtain ⟨XA, XB, h1, h2, h3, h4⟩ := h.ex
  obtain ⟨hx, hp⟩ := hs XA h3 (fun k hk => h2 k (Or.inl hk))
  have hsz := hx.size
  have hlow := h.low.size
  refine ⟨h.low.trans (hx.below (fun k hk => (h2 k (Or.inl hk)).1) hlow), fun k => XA k ∨ (w.heap.size ≤ k ∧ k < w'.heap.size), XB, fun k hk hb => ?_, fun k hk => ?_, hp, ?_⟩
  · rcases hk with c | c
    · exact h1 k c hb
    · have := (h2 k (Or.inr hb)).2; omega
  · rcases hk with (c | c) | c
    · have := h2 k (Or.inl c); omega
    · omega
    · have := h2 k (Or.inr c); omega
  · exact lB XB XB w w' h4 (fun k hk => (h2 k (Or.inr hk)).2) (fun k hk => hx.block k (h2 k (Or.inr hk)).2 (fun c => h1 k c hk)) (fun _ c => c)
theorem WM.stepB {W w w' : World} {PA PB PB' : (Nat → Prop) → World → Prop} (h : WM W w PA PB) (lA : Lcl PA)
    (hs : ∀ X : Nat → Prop, PB X w → (∀ k, X k → W.heap.size ≤ k ∧ k < w.heap.size) → Wx X w w' ∧ PB' (fun k => X k ∨ (w.heap.size ≤ k ∧ k < w'.heap.size)) w') : WM W w' PA PB' := by
  obtain ⟨XA, XB, h1, h2, h3, h4⟩ := h.ex
  obtain ⟨hx, hp⟩ := hs XB h4 (fun k hk => h2 k (Or.inr hk))
  have hsz := hx.size
  have hlow := h.low.size
  refine ⟨h.low.trans (hx.below (fun k hk => (h2 k (Or.inr hk)).1) hlow), XA, fun k => XB k ∨ (w.heap.size ≤ k ∧ k < w'.heap.size), fun k hk hb => ?_, fun k hk => ?_, ?_, hp⟩
  · rcases hb with c | c
    · exact h1 k hk c
    · have := (h2 k (Or.inl hk)).2; omega
  · rcases hk with c | (c | c)
    · have := h2 k (Or.inl c); omega
    · have := h2 k (Or.inr c); omega
    · omega
  · exact lA XA XA w w' h3 (fun k hk => (h2 k (Or.inl hk)).2) (fun k hk => hx.block k (h2 k (Or.inl hk)).2 (fun c => h1 k hk c)) (fun _ c => c)
theorem WM.mono {W w : World} {PA PB PA' PB' : (Nat → Prop) → World → Prop} (h : WM W w PA PB) (hA : ∀ X, PA X w → PA' X w) (hB : ∀ X, PB X w → PB' X w) : WM W w PA' PB' := by
  obtain ⟨XA, XB, h1, h2, h3, h4⟩ := h.ex
  exact ⟨h.low, XA, XB, h1, h2, hA XA h3, hB XB h4⟩
theorem PMa.bs {B : Nat} {rs : List Rr} {cs : List Value} {v46 v54 : Value} {w : World} {X : Nat → Prop} (hB : B ≤ w.heap.size) :
    Wx X w (w.alloc (.cells #[] 39)) ∧ PMa B rs cs true false false (.slice (some ⟨w.heap.size, 0, none⟩) 0 0) v46 v54 (fun k => X k ∨ (w.heap.size ≤ k ∧ k < (w.alloc (.cells #[] 39)).heap.size)) (w.alloc (.cells #[] 39)) := by
  refine ⟨Wx.of_below X ((Below.refl _ _).alloc (Nat.le_refl _) _), fun _ _ => ⟨⟨_, _, rfl⟩, World.ownsRow_lit (base := B) (e := 39) (size := 10) w #[] 0 hB (by decide) rfl, fun g hg => ?_⟩, fun c => by (cases c), fun c => by (cases c)⟩
  have e : w.heap.size = g := by simpa [Value.ownBlock] using hg
  exact Or.inr ⟨by omega, by simp; omega⟩
theorem RwIn.app {B : Nat} {e : Value} {n m : Nat} {xs ys : List Value} {w w' : World} {X : Nat → Prop} {a : Option Addr} {c : Nat} (h : RwIn B e n xs X w) (hown : w'.ownsRow B 39 10 (.slice a m c) m ys) (hg : w.grownBy w' e.ownBlock) (hq : (Value.slice a m c).ownBlock = e.ownBlock ∨ (Value.slice a m c).ownBlock = some w.heap.size) :
    Wx X w w' ∧ RwIn B (.slice a m c) m ys (fun k => X k ∨ (w.heap.size ≤ k ∧ k < w'.heap.size)) w' := by
  refine ⟨⟨hg.os, hg.tape, hg.output, hg.size, fun k hk hx => hg.block k hk (fun q => hx (h.2.2 k q.symm))⟩, ⟨a, c, rfl⟩, hown, fun g hgg => ?_⟩
  have hl := World.ownsRow.lt hown g hgg
  rcases hq with q | q
  · exact Or.inl (h.2.2 g (by rw [← q]; exact hgg))
  · rw [hgg] at q
    injection q with q
    exact Or.inr ⟨by omega, hl.2⟩
theorem rOth_v {w : World} {Q : Nat → Prop} {k a b : Int} {m : Nat} {sv : Value} (h : Vr w sv (List.replicate m V0)) (hq : ∀ g, sv.ownBlock = some g → Q g) : Rrv w Q (rOth k a b m sv) :=
  ⟨World.ownsRow_nil _ _ _ _, World.ownsRow_nil _ _ _ _, h, fun g hg => by
    rcases hg with c | c | c
    · simp [rOth, Value.ownBlock] at c
    · simp [rOth, Value.ownBlock] at c
    · exact hq g c, rfl⟩

/-- The row with the new object laid into the heap. -/
theorem Rv.snoc2 {w w3 : World} {db lim c3 : Nat} {R : Value} {rs : List Rr} {Q : Nat → Prop} {a3 : Option Addr} {r : Rr} (h : Rv w db lim R rs Q) (low3 : Below w.heap.size w w3)
    (hown : w3.ownsRow w.heap.size 39 10 (.slice a3 (rs.length + 1) c3) (rs.length + 1) (rC rs ++ r.cells))
    (hv : Rrv w3 (fun g => (Q g ∧ g ≠ db) ∨ (w.heap.size ≤ g ∧ g < w3.heap.size)) r) (hne : ∀ x, r.kv.ownBlock = some x ∨ r.vv.ownBlock = some x ∨ r.sv.ownBlock = some x → (Value.slice a3 (rs.length + 1) c3).ownBlock ≠ some x ∧ x ≠ db) (hwt : usedR rs + r.om.wt ≤ lim) :
    RP w db lim (rs.map Rr.om ++ [r.om]) Q (w3.setCell ⟨db, 0, none⟩ (.slice a3 (rs.length + 1) c3)) := by
  have hdb := h.lt db h.qd
  obtain ⟨W4, hW4⟩ : ∃ W4, W4 = w3.setCell ⟨db, 0, none⟩ (.slice a3 (rs.length + 1) c3) := ⟨_, rfl⟩
  rw [← hW4]
  have x4 : Wx (fun j => j = db) w3 W4 := by rw [hW4]; exact Wx.set w3 0 _ rfl
  have hs4 : W4.heap.size = w3.heap.size := by rw [hW4]; exact World.size_setCell _ _ _
  have hall : Wx (fun j => j = db) w W4 := (Wx.of_below _ low3).trans x4 (fun j hj => Or.inl hj)
  have row4 : W4.ownsRow w.heap.size 39 10 (.slice a3 (rs ++ [r]).length c3) (rs ++ [r]).length (rC (rs ++ [r])) := by
    rw [rC_append, List.length_append, List.length_singleton, show rC [r] = r.cells by simp [rC]]
    refine rowStay hown (fun j hj => x4.block j (World.ownsRow.lt hown j hj).2 (fun e => ?_))
    have := (World.ownsRow.lt hown j hj).1
    omega
  have hmap : rs.map Rr.om ++ [r.om] = (rs ++ [r]).map Rr.om := by simp
  rw [hmap]
  refine h.lay hall ?_ ?_ (fun o => ?_) row4 (fun j x hx => ?_) (by rw [usedR_snoc]; exact hwt)
  · rw [hW4, List.length_append, List.length_singleton]
    exact World.cell?_setCell_same _ _ _ ((low3.cell hdb).trans h.c0)
  · rw [hW4, World.cell?_setCell_other _ _ _ _ (by simp)]
    exact (low3.cell hdb).trans h.c1
  · rw [hW4, World.frozen?_setCell]
    exact (low3.frozen hdb).trans (h.free o)
  · rcases Nat.lt_or_ge j rs.length with q | q
    · rw [List.getElem?_append_left q] at hx
      exact Or.inl ⟨j, hx⟩
    · right
      rw [List.getElem?_append_right q] at hx
      have hxr : x = r := by
        rcases Nat.eq_zero_or_pos (j - rs.length) with e | e
        · rw [e] at hx; exact (Option.some.inj hx).symm
        · rw [List.getElem?_eq_none (by simp; omega)] at hx; cases hx
      subst hxr
      refine Rrv.more (Q := fun y => ((Q y ∧ y ≠ db) ∨ (w.heap.size ≤ y ∧ y < w3.heap.size)) ∧ y ≠ db) ?_ (fun y hy => by
        rcases hy.1 with t | t
        · exact Or.inl t
        · exact Or.inr ⟨t.1, by omega⟩)
      exact Rrv.wx (X := fun j => j = db) ⟨hv.k, hv.v, hv.s, fun y hy => ⟨hv.own y hy, (hne y hy).2⟩, hv.len⟩ x4 (fun y hy hcc => hy.2 hcc)

/-! ### a make at a step of a region -/
theorem step_make_full {P : Program} (w : World) {ops : Array Oper} {o : Oper} {a : Act} {K : Act → World → Prop} {Q : Exit → Act → World → Prop} {E : Prop}
    (hg : o.guard = none) (l c : Operand) (t : TypeId) (hop : o.op = Op.makeSlice t l c)
    (base : Nat) (e : TypeId) (i : TypeInfo) (z : Value) (size : Nat) (h1 : P.underlying t = some (.slice e)) (h2 : P.info? e = some i) (h3 : i.zero = some z) (h4 : i.size = size)
    (kl kc : IntKind) (n : Nat) (hl : a.eval l = .int kl (n : Int)) (hc : a.eval c = .int kc (n : Int)) (b2 : i.bytes * n ≤ 281474976710656) (b3 : n ≤ maxLen) (b4 : base ≤ w.heap.size)
    (hK : ∀ w', w'.ownsRow base e size (.slice (some ⟨w.heap.size, 0, none⟩) n n) n (madeCells z.cells (n * size)).toList → w.grownBy w' none → K (a.put o.dst (.slice (some ⟨w.heap.size, 0, none⟩) n n)) w') :
    if Region.wanted o (yielded ops a.tmps) = true then Oper.wp P o a w K Q else E := by
  have hw : Region.wanted o (yielded ops a.tmps) = true := by simp [Region.wanted, hg]
  rw [if_pos hw]
  obtain ⟨w', hrun, r1, r2⟩ := run_make_full (P := P) w base t e i z size h1 h2 h3 h4 kl kc n b2 b3 b4
  unfold Oper.wp
  simp [execOp, hop, hl, hc, hrun, Result.andThen]
  exact hK w' r1 r2

end Go.Proofs.YthmocdabakkfhaaGreatDoor
