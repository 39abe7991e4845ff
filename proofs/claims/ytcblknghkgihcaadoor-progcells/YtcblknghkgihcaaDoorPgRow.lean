/-
  Layer 13: rows in memory, as lists of cells: what can be laid behind another row, and what lies in a block of one's own.
-/
import Derived.Test.YtcblknghkgihcaaDoorPgKb
import Derived.Test.YtcblknghkgihcaaDoorHpInv2
import Derived.Deep.AppendLies
import Derived.Lib.Builder
namespace Go.Proofs.YtcblknghkgihcaaDoor
set_option maxRecDepth 100000
open Go.RowKit

namespace Pg
/-- n parts of z cells each, one behind the other. -/
def cellsF (n z : Nat) (c : Nat → Nat → Value) : List Value := (List.range (n * z)).map fun k => c (k / z) (k % z)
theorem cellsF_length (n z : Nat) (c : Nat → Nat → Value) : (cellsF n z c).length = n * z := by simp [cellsF]
theorem cellsF_get {n z : Nat} {c : Nat → Nat → Value} {k : Nat} (hk : k < n * z) : (cellsF n z c)[k]? = some (c (k / z) (k % z)) := by
  unfold cellsF
  rw [List.getElem?_map, List.getElem?_eq_getElem (by simpa using hk)]
  simp
theorem cellsF_at {n z : Nat} {c : Nat → Nat → Value} {i j : Nat} (hi : i < n) (hj : j < z) : (cellsF n z c)[i * z + j]? = some (c i j) := by
  have h1 : i * z + j < n * z := by
    have : (i + 1) * z ≤ n * z := Nat.mul_le_mul_right _ hi
    rw [Nat.add_mul] at this
    omega
  rw [cellsF_get h1]
  have h2 : (i * z + j) / z = i := by
    rw [Nat.mul_comm, Nat.mul_add_div (by omega)]
    rw [Nat.div_eq_of_lt hj]
    simp
  have h3 : (i * z + j) % z = j := by
    rw [Nat.mul_comm, Nat.mul_add_mod, Nat.mod_eq_of_lt hj]
  rw [h2, h3]
theorem cellsF_mem {n z : Nat} {c : Nat → Nat → Value} {u : Value} (hz : 0 < z) (h : u ∈ cellsF n z c) : ∃ i j, i < n ∧ j < z ∧ u = c i j := by
  unfold cellsF at h
  obtain ⟨k, hk, rfl⟩ := List.mem_map.1 h
  have hk2 : k < n * z := by simpa using hk
  exact ⟨k / z, k % z, Nat.div_lt_of_lt_mul (by rw [Nat.mul_comm]; exact hk2), Nat.mod_lt _ hz, rfl⟩
theorem cellsF_congr {n z : Nat} {c c' : Nat → Nat → Value} (hz : 0 < z) (h : ∀ i j, i < n → j < z → c i j = c' i j) : cellsF n z c = cellsF n z c' := by
  unfold cellsF
  refine List.map_congr_left fun k hk => ?_
  have hk2 : k < n * z := by simpa using hk
  exact h _ _ (Nat.div_lt_of_lt_mul (by rw [Nat.mul_comm]; exact hk2)) (Nat.mod_lt _ hz)
theorem addr_add (b o n : Nat) : Addr.add ⟨b, o, none⟩ n = ⟨b, o + n, none⟩ := by unfold Addr.add; split <;> simp_all

/-- A row that can be read can be laid behind another one. -/
theorem SL.src {w : World} {v : Value} {n z : Nat} {F : Nat → Nat → Value → Prop} {c : Nat → Nat → Value} (h : SL w v n z F) (hz : 0 < z) (hF : ∀ i j u, i < n → j < z → F i j u → u = c i j) (h1 : ∀ i j, i < n → j < z → (c i j).oneCell' = true) : Src w z v n (cellsF n z c) := by
  obtain ⟨a, cap, rfl, h2, h3, h4, h5, h6⟩ := h.form
  cases a with
  | none =>
    obtain ⟨rfl, rfl⟩ := h5 rfl
    exact Or.inl ⟨rfl, rfl, by simp [cellsF]⟩
  | some x =>
    refine Or.inr ⟨x, cap, rfl, cellsF_length _ _ _, fun k u hu => ?_, fun u hu => ?_⟩
    · have hk : k < n * z := by
        have := List.getElem?_eq_some_iff.1 hu
        obtain ⟨hl, _⟩ := this
        rw [cellsF_length] at hl
        exact hl
      rw [cellsF_get hk] at hu
      injection hu with hu
      have hi : k / z < n := Nat.div_lt_of_lt_mul (by rw [Nat.mul_comm]; exact hk)
      have hj : k % z < z := Nat.mod_lt _ hz
      obtain ⟨u', e1, e2⟩ := (h6 x rfl).2 (k / z) hi (k % z) hj
      have hs := (h6 x rfl).1 (Nat.lt_of_le_of_lt (Nat.zero_le _) hi)
      obtain ⟨b, o, s⟩ := x
      simp only at hs
      subst hs
      rw [addr_add]
      simp only at e1
      rw [show o + k = o + k / z * z + k % z by rw [Nat.add_assoc]; congr 1; rw [Nat.mul_comm]; exact (Nat.div_add_mod k z).symm, e1, hF _ _ _ hi hj e2, hu]
    · obtain ⟨i, j, hi, hj, rfl⟩ := cellsF_mem hz hu
      exact h1 i j hi hj

/-- A row in a block of one's own can be read. -/
theorem SL.of_owns {w : World} {B : Nat} {e : TypeId} {v : Value} {n z : Nat} {F : Nat → Nat → Value → Prop} {c : Nat → Nat → Value} (h : w.ownsRow B e z v n (cellsF n z c)) (hn : n ≤ far) (hF : ∀ i j, i < n → j < z → F i j (c i j)) : SL w v n z F := by
  rcases h.2 with ⟨rfl, rfl⟩ | ⟨g, cap, cur, rfl, _, hg, h1, h2, h3, h4⟩
  · exact ⟨none, 0, rfl, Nat.le_refl _, by decide, hn, fun _ => ⟨rfl, rfl⟩, fun x e => by cases e⟩
  · unfold maxLen at h2
    refine ⟨some ⟨g, 0, none⟩, cap, rfl, h1, by omega, hn, (fun e => by cases e), fun x e => ?_⟩
    cases e
    refine ⟨fun _ => rfl, fun i hi j hj => ⟨c i j, ?_, hF i j hi hj⟩⟩
    have h5 := cellsF_at (c := c) hi hj
    have h6 : i * z + j < n * z := by
      have : (i + 1) * z ≤ n * z := Nat.mul_le_mul_right _ hi
      rw [Nat.add_mul] at this
      omega
    rw [← h4, List.getElem?_take_of_lt h6, Array.getElem?_toList] at h5
    simp only [Nat.zero_add]
    rw [Lib.cell_of_heap hg]
    exact h5

/-- Rows of two types lie in two blocks. -/
theorem own_ne {w : World} {B B' : Nat} {e e' : TypeId} {z z' : Nat} {v v' : Value} {n n' : Nat} {xs xs' : List Value} (h : w.ownsRow B e z v n xs) (h' : w.ownsRow B' e' z' v' n' xs') (he : e ≠ e') : v.ownBlock = none ∨ v.ownBlock ≠ v'.ownBlock := by
  rcases h.2 with ⟨rfl, _⟩ | ⟨g, cap, cur, rfl, _, hg, _⟩
  · exact Or.inl rfl
  · refine Or.inr ?_
    rcases h'.2 with ⟨rfl, _⟩ | ⟨g', cap', cur', rfl, _, hg', _⟩
    · simp [Value.ownBlock]
    · simp only [Value.ownBlock, ne_eq, Option.some.injEq]
      intro e
      subst e
      rw [hg] at hg'
      simp only [Option.some.injEq, Obj.cells.injEq] at hg'
      exact he hg'.2.1
/-- A row's block is no block of another type. -/
theorem own_neT {w : World} {B : Nat} {e T : TypeId} {z : Nat} {v : Value} {n : Nat} {xs : List Value} {b : Nat} {cs : Array Value} {fr : Nat × Nat} (h : w.ownsRow B e z v n xs) (hb : w.heap[b]? = some (.cells cs T fr)) (hTe : T ≠ e) : v.ownBlock ≠ some b := by
  rcases h.2 with ⟨rfl, _⟩ | ⟨g, cap, cur, rfl, _, hg, _⟩
  · simp [Value.ownBlock]
  · intro h
    simp only [Value.ownBlock, Option.some.injEq] at h
    subst h
    rw [hg] at hb
    simp only [Option.some.injEq, Obj.cells.injEq] at hb
    exact hTe hb.2.1.symm
theorem own_below {w w' : World} {B : Nat} {e : TypeId} {z : Nat} {v : Value} {n : Nat} {xs : List Value} (h : w.ownsRow B e z v n xs) (k : Below w.heap.size w w') : w'.ownsRow B e z v n xs :=
  h.kept (row := none) ⟨k.os, k.tape, k.output, k.size, fun i hi _ => k.block i hi⟩ (by cases hv : v.ownBlock <;> simp)
theorem own_set {w : World} {B : Nat} {e T : TypeId} {z : Nat} {v : Value} {n : Nat} {xs : List Value} {b j : Nat} {cs : Array Value} {fr : Nat × Nat} (h : w.ownsRow B e z v n xs) (hb : w.heap[b]? = some (.cells cs T fr)) (hTe : T ≠ e) (u : Value) : (w.setCell ⟨b, j, none⟩ u).ownsRow B e z v n xs :=
  h.kept (row := some b) ⟨rfl, rfl, rfl, by simp [World.setCell], fun k _ hk => Below.heap_setCell _ _ _ _ (fun e => hk (by simp [e]))⟩ (Or.inr (own_neT h hb hTe))

def insC (l : List Ins) (i j : Nat) : Value := match l[i]? with
  | some x => .int .i64 (if j = 0 then x.op else if j = 1 then x.a else if j = 2 then x.b else x.c)
  | none => .int .i64 0
def uppC (l : List Upp) (i j : Nat) : Value := match l[i]? with
  | some x => if j = 0 then .bool x.own else .int .i64 x.pl
  | none => .int .i64 0
def vlC (l : List Vl) (i j : Nat) : Value := match l[i]? with
  | some x => if j = 0 then .int .i64 x.k else if j = 1 then .int .u64 x.n else if j = 2 then .string x.s else .int .i64 x.o
  | none => .int .i64 0
theorem insF_C {l : List Ins} {i j : Nat} {u : Value} (h : insF l i j u) : u = insC l i j := by
  obtain ⟨x, hx, rfl⟩ := h; unfold insC; rw [hx]
theorem uppF_C {l : List Upp} {i j : Nat} {u : Value} (h : uppF l i j u) : u = uppC l i j := by
  obtain ⟨x, hx, rfl⟩ := h; unfold uppC; rw [hx]
theorem vlF_C {l : List Vl} {i j : Nat} {u : Value} (h : vlF l i j u) : u = vlC l i j := by
  obtain ⟨x, hx, rfl⟩ := h; unfold vlC; rw [hx]
theorem insC_F {l : List Ins} {i : Nat} (j : Nat) (h : i < l.length) : insF l i j (insC l i j) := ⟨l[i], List.getElem?_eq_getElem h, by unfold insC; rw [List.getElem?_eq_getElem h]⟩
theorem uppC_F {l : List Upp} {i : Nat} (j : Nat) (h : i < l.length) : uppF l i j (uppC l i j) := ⟨l[i], List.getElem?_eq_getElem h, by unfold uppC; rw [List.getElem?_eq_getElem h]⟩
theorem vlC_F {l : List Vl} {i : Nat} (j : Nat) (h : i < l.length) : vlF l i j (vlC l i j) := ⟨l[i], List.getElem?_eq_getElem h, by unfold vlC; rw [List.getElem?_eq_getElem h]⟩
theorem insC_one (l : List Ins) (i j : Nat) : (insC l i j).oneCell' = true := by unfold insC; split <;> rfl
theorem uppC_one (l : List Upp) (i j : Nat) : (uppC l i j).oneCell' = true := by unfold uppC; split <;> (try split) <;> rfl
theorem vlC_one (l : List Vl) (i j : Nat) : (vlC l i j).oneCell' = true := by unfold vlC; split <;> (try (split <;> (try split) <;> (try split))) <;> rfl
theorem SI.src {w : World} {v : Value} {l : List Ins} (h : SI w v l) : Src w 4 v l.length (cellsF l.length 4 (insC l)) := h.1.src (by decide) (fun _ _ _ _ _ h => insF_C h) (fun i j _ _ => insC_one l i j)
theorem SU.src {w : World} {v : Value} {l : List Upp} (h : SU w v l) : Src w 2 v l.length (cellsF l.length 2 (uppC l)) := h.1.src (by decide) (fun _ _ _ _ _ h => uppF_C h) (fun i j _ _ => uppC_one l i j)
theorem SV.src {w : World} {v : Value} {l : List Vl} (h : SV w v l) : Src w 4 v l.length (cellsF l.length 4 (vlC l)) := h.1.src (by decide) (fun _ _ _ _ _ h => vlF_C h) (fun i j _ _ => vlC_one l i j)
theorem evT {A : Act} {t : Nat} {v : Value} (h : A.eval (.tmp t) = v) : A.tmps[t]?.getD undef = v := by
  have : A.eval (.tmp t) = A.tmps.getD t undef := rfl
  rw [this] at h
  simpa using h
theorem laterT {L : Nat → Bool} {i j : Nat} (h : L j = true) : Later L i j = true := by
  unfold Later
  split
  · rfl
  · exact h
theorem not_yet {L : Nat → Bool} {i j : Nat} (hi : L i = false) (h : L j = true → L i = true) : L j = false := by
  cases q : L j with
  | false => rfl
  | true => rw [h q] at hi; cases hi

/-- A row that is being made: an empty one, then one with what is laid behind it. -/
def RowS (w : World) (B : Nat) (e : TypeId) (z n : Nat) (xs : List Value) (l0 l3 : Bool) (va vb : Value) : Prop :=
  (l0 = true → l3 = false → w.ownsRow B e z va 0 []) ∧ (l3 = true → w.ownsRow B e z vb n xs)
theorem RowS.below {w w' : World} {B : Nat} {e : TypeId} {z n : Nat} {xs : List Value} {l0 l3 : Bool} {va vb : Value} (h : RowS w B e z n xs l0 l3 va vb) (k : Below w.heap.size w w') : RowS w' B e z n xs l0 l3 va vb :=
  ⟨fun a b => own_below (h.1 a b) k, fun a => own_below (h.2 a) k⟩
theorem RowS.grown {w w' : World} {B B' : Nat} {e e' : TypeId} {z z' n n' : Nat} {xs xs' : List Value} {l0 l3 : Bool} {va vb v' : Value} (h : RowS w B e z n xs l0 l3 va vb) (h' : w.ownsRow B' e' z' v' n' xs') (he : e ≠ e') (k : w.grownBy w' v'.ownBlock) : RowS w' B e z n xs l0 l3 va vb :=
  ⟨fun a b => (h.1 a b).kept k (own_ne (h.1 a b) h' he), fun a => (h.2 a).kept k (own_ne (h.2 a) h' he)⟩
theorem RowS.set {w : World} {B : Nat} {e T : TypeId} {z n : Nat} {xs : List Value} {l0 l3 : Bool} {va vb : Value} {b j : Nat} {cs : Array Value} {fr : Nat × Nat} (h : RowS w B e z n xs l0 l3 va vb) (hb : w.heap[b]? = some (.cells cs T fr)) (hTe : T ≠ e) (u : Value) : RowS (w.setCell ⟨b, j, none⟩ u) B e z n xs l0 l3 va vb :=
  ⟨fun a c => own_set (h.1 a c) hb hTe u, fun a => own_set (h.2 a) hb hTe u⟩
theorem RowS.made {w : World} {B : Nat} {e : TypeId} {z n : Nat} {xs : List Value} {vb : Value} (hB : B ≤ w.heap.size) : RowS (w.alloc (.cells #[] e)) B e z n xs true false (.slice (some ⟨w.heap.size, 0, none⟩) 0 0) vb :=
  ⟨fun _ _ => World.ownsRow_made w #[] 0 hB (by unfold maxLen; omega) (by simp), fun q => by cases q⟩

/-- What is there while a function's three rows are copied. -/
structure OwS (T : TypeId) (eu ec ek : TypeId) (wq w : World) (bx B : Nat) (pa rg vp : Value) (nu nc nk : Nat) (xu xc xk : List Value) (vu vc vk v5 v8 v9 v12 v13 v16 : Value) (l0 l3 l4 l7 l8 l11 l13 l15 l17 : Bool) : Prop where
  kb : Kb bx wq w
  hB : B ≤ wq.heap.size
  hu : T ≠ eu ∧ T ≠ ec ∧ T ≠ ek ∧ eu ≠ ec ∧ eu ≠ ek ∧ ec ≠ ek
  blk : w.heap[bx]? = some (.cells #[pa, rg, if l13 then v8 else vu, if l15 then v12 else vc, if l17 then v16 else vk, vp] T (0, 0))
  ru : RowS w B eu 2 nu xu l0 l3 v5 v8
  rc : RowS w B ec 4 nc xc l4 l7 v9 v12
  rk : RowS w B ek 4 nk xk l8 l11 v13 v16
section
variable {T eu ec ek : TypeId} {wq w : World} {bx B : Nat} {pa rg vp : Value} {nu nc nk : Nat} {xu xc xk : List Value} {vu vc vk v5 v8 v9 v12 v13 v16 : Value} {l0 l3 l4 l7 l8 l11 l13 l15 l17 : Bool}
theorem OwS.lt (h : OwS T eu ec ek wq w bx B pa rg vp nu nc nk xu xc xk vu vc vk v5 v8 v9 v12 v13 v16 l0 l3 l4 l7 l8 l11 l13 l15 l17) : bx < w.heap.size := by
  rcases Nat.lt_or_ge bx w.heap.size with h' | h'
  · exact h'
  · have := h.blk; simp [Array.getElem?_eq_none h'] at this
theorem OwS.made0 (h : OwS T eu ec ek wq w bx B pa rg vp nu nc nk xu xc xk vu vc vk v5 v8 v9 v12 v13 v16 l0 false l4 l7 l8 l11 l13 l15 l17) : OwS T eu ec ek wq (w.alloc (.cells #[] eu)) bx B pa rg vp nu nc nk xu xc xk vu vc vk (.slice (some ⟨w.heap.size, 0, none⟩) 0 0) v8 v9 v12 v13 v16 true false l4 l7 l8 l11 l13 l15 l17 := by
  have hb : Below w.heap.size w (w.alloc (.cells #[] eu)) := (Below.refl _ _).alloc (Nat.le_refl _) _
  exact ⟨h.kb.trans (Kb.alloc _ _ _), h.hB, h.hu, (hb.block bx h.lt).trans h.blk, RowS.made (Nat.le_trans h.hB h.kb.size), h.rc.below hb, h.rk.below hb⟩
theorem OwS.made4 (h : OwS T eu ec ek wq w bx B pa rg vp nu nc nk xu xc xk vu vc vk v5 v8 v9 v12 v13 v16 l0 l3 l4 false l8 l11 l13 l15 l17) : OwS T eu ec ek wq (w.alloc (.cells #[] ec)) bx B pa rg vp nu nc nk xu xc xk vu vc vk v5 v8 (.slice (some ⟨w.heap.size, 0, none⟩) 0 0) v12 v13 v16 l0 l3 true false l8 l11 l13 l15 l17 := by
  have hb : Below w.heap.size w (w.alloc (.cells #[] ec)) := (Below.refl _ _).alloc (Nat.le_refl _) _
  exact ⟨h.kb.trans (Kb.alloc _ _ _), h.hB, h.hu, (hb.block bx h.lt).trans h.blk, h.ru.below hb, RowS.made (Nat.le_trans h.hB h.kb.size), h.rk.below hb⟩
theorem OwS.made8 (h : OwS T eu ec ek wq w bx B pa rg vp nu nc nk xu xc xk vu vc vk v5 v8 v9 v12 v13 v16 l0 l3 l4 l7 l8 false l13 l15 l17) : OwS T eu ec ek wq (w.alloc (.cells #[] ek)) bx B pa rg vp nu nc nk xu xc xk vu vc vk v5 v8 v9 v12 (.slice (some ⟨w.heap.size, 0, none⟩) 0 0) v16 l0 l3 l4 l7 true false l13 l15 l17 := by
  have hb : Below w.heap.size w (w.alloc (.cells #[] ek)) := (Below.refl _ _).alloc (Nat.le_refl _) _
  exact ⟨h.kb.trans (Kb.alloc _ _ _), h.hB, h.hu, (hb.block bx h.lt).trans h.blk, h.ru.below hb, h.rc.below hb, RowS.made (Nat.le_trans h.hB h.kb.size)⟩
theorem kb_grown {e : TypeId} {z n : Nat} {v : Value} {xs : List Value} {w w' wq : World} {bx B : Nat} (h : Kb bx wq w) (hB : wq.heap.size ≤ B) (ho : w.ownsRow B e z v n xs) (k : w.grownBy w' v.ownBlock) : Kb bx wq w' :=
  ⟨k.os.trans h.os, k.tape.trans h.tape, k.output.trans h.output, Nat.le_trans h.size k.size, fun i hi hb => (k.block i (Nat.lt_of_lt_of_le hi h.size) (fun e => by have := (ho.lt i e.symm).1; omega)).trans (h.block i hi hb)⟩
theorem OwS.app3 {w' : World} {a' : Option Addr} {c' : Nat} (h : OwS T eu ec ek wq w bx B pa rg vp nu nc nk xu xc xk vu vc vk v5 v8 v9 v12 v13 v16 true false l4 l7 l8 l11 false l15 l17) (hw : wq.heap.size ≤ B) (q1 : w'.ownsRow B eu 2 (.slice a' nu c') nu xu) (q2 : w.grownBy w' v5.ownBlock) :
    OwS T eu ec ek wq w' bx B pa rg vp nu nc nk xu xc xk vu vc vk v5 (.slice a' nu c') v9 v12 v13 v16 true true l4 l7 l8 l11 false l15 l17 := by
  have ho := h.ru.1 rfl rfl
  exact ⟨kb_grown h.kb hw ho q2, h.hB, h.hu, (q2.block bx h.lt (fun e => own_neT ho h.blk h.hu.1 e.symm)).trans h.blk, ⟨fun _ q => (by cases q), fun _ => q1⟩, h.rc.grown ho (fun e => h.hu.2.2.2.1 e.symm) q2, h.rk.grown ho (fun e => h.hu.2.2.2.2.1 e.symm) q2⟩
theorem OwS.app7 {w' : World} {a' : Option Addr} {c' : Nat} (h : OwS T eu ec ek wq w bx B pa rg vp nu nc nk xu xc xk vu vc vk v5 v8 v9 v12 v13 v16 l0 l3 true false l8 l11 l13 false l17) (hw : wq.heap.size ≤ B) (q1 : w'.ownsRow B ec 4 (.slice a' nc c') nc xc) (q2 : w.grownBy w' v9.ownBlock) :
    OwS T eu ec ek wq w' bx B pa rg vp nu nc nk xu xc xk vu vc vk v5 v8 v9 (.slice a' nc c') v13 v16 l0 l3 true true l8 l11 l13 false l17 := by
  have ho := h.rc.1 rfl rfl
  exact ⟨kb_grown h.kb hw ho q2, h.hB, h.hu, (q2.block bx h.lt (fun e => own_neT ho h.blk h.hu.2.1 e.symm)).trans h.blk, h.ru.grown ho h.hu.2.2.2.1 q2, ⟨fun _ q => (by cases q), fun _ => q1⟩, h.rk.grown ho (fun e => h.hu.2.2.2.2.2 e.symm) q2⟩
theorem OwS.app11 {w' : World} {a' : Option Addr} {c' : Nat} (h : OwS T eu ec ek wq w bx B pa rg vp nu nc nk xu xc xk vu vc vk v5 v8 v9 v12 v13 v16 l0 l3 l4 l7 true false l13 l15 false) (hw : wq.heap.size ≤ B) (q1 : w'.ownsRow B ek 4 (.slice a' nk c') nk xk) (q2 : w.grownBy w' v13.ownBlock) :
    OwS T eu ec ek wq w' bx B pa rg vp nu nc nk xu xc xk vu vc vk v5 v8 v9 v12 v13 (.slice a' nk c') l0 l3 l4 l7 true true l13 l15 false := by
  have ho := h.rk.1 rfl rfl
  exact ⟨kb_grown h.kb hw ho q2, h.hB, h.hu, (q2.block bx h.lt (fun e => own_neT ho h.blk h.hu.2.2.1 e.symm)).trans h.blk, h.ru.grown ho h.hu.2.2.2.2.1 q2, h.rc.grown ho h.hu.2.2.2.2.2 q2, ⟨fun _ q => (by cases q), fun _ => q1⟩⟩
theorem OwS.st13 (h : OwS T eu ec ek wq w bx B pa rg vp nu nc nk xu xc xk vu vc vk v5 v8 v9 v12 v13 v16 l0 l3 l4 l7 l8 l11 false l15 l17) : OwS T eu ec ek wq (w.setCell ⟨bx, 2, none⟩ v8) bx B pa rg vp nu nc nk xu xc xk vu vc vk v5 v8 v9 v12 v13 v16 l0 l3 l4 l7 l8 l11 true l15 l17 :=
  ⟨h.kb.trans (Kb.set _ _ _ _), h.hB, h.hu, heap_setCell_same _ _ 2 _ _ v8 h.blk, h.ru.set h.blk h.hu.1 _, h.rc.set h.blk h.hu.2.1 _, h.rk.set h.blk h.hu.2.2.1 _⟩
theorem OwS.st15 (h : OwS T eu ec ek wq w bx B pa rg vp nu nc nk xu xc xk vu vc vk v5 v8 v9 v12 v13 v16 l0 l3 l4 l7 l8 l11 l13 false l17) : OwS T eu ec ek wq (w.setCell ⟨bx, 3, none⟩ v12) bx B pa rg vp nu nc nk xu xc xk vu vc vk v5 v8 v9 v12 v13 v16 l0 l3 l4 l7 l8 l11 l13 true l17 :=
  ⟨h.kb.trans (Kb.set _ _ _ _), h.hB, h.hu, heap_setCell_same _ _ 3 _ _ v12 h.blk, h.ru.set h.blk h.hu.1 _, h.rc.set h.blk h.hu.2.1 _, h.rk.set h.blk h.hu.2.2.1 _⟩
theorem OwS.st17 (h : OwS T eu ec ek wq w bx B pa rg vp nu nc nk xu xc xk vu vc vk v5 v8 v9 v12 v13 v16 l0 l3 l4 l7 l8 l11 l13 l15 false) : OwS T eu ec ek wq (w.setCell ⟨bx, 4, none⟩ v16) bx B pa rg vp nu nc nk xu xc xk vu vc vk v5 v8 v9 v12 v13 v16 l0 l3 l4 l7 l8 l11 l13 l15 true :=
  ⟨h.kb.trans (Kb.set _ _ _ _), h.hB, h.hu, heap_setCell_same _ _ 4 _ _ v16 h.blk, h.ru.set h.blk h.hu.1 _, h.rc.set h.blk h.hu.2.1 _, h.rk.set h.blk h.hu.2.2.1 _⟩
theorem OwS.cell {j : Nat} {u : Value} (h : OwS T eu ec ek wq w bx B pa rg vp nu nc nk xu xc xk vu vc vk v5 v8 v9 v12 v13 v16 l0 l3 l4 l7 l8 l11 l13 l15 l17) (hu : (#[pa, rg, if l13 then v8 else vu, if l15 then v12 else vc, if l17 then v16 else vk, vp] : Array Value)[j]? = some u) : w.cell? ⟨bx, j, none⟩ = some u := by
  rw [Lib.cell_of_heap h.blk]; exact hu
theorem OwS.fz (h : OwS T eu ec ek wq w bx B pa rg vp nu nc nk xu xc xk vu vc vk v5 v8 v9 v12 v13 v16 l0 l3 l4 l7 l8 l11 l13 l15 l17) (j : Nat) : w.frozen? ⟨bx, j, none⟩ = false := Lib.frozen_of_heap h.blk j
end
end Pg
end Go.Proofs.YtcblknghkgihcaaDoor
