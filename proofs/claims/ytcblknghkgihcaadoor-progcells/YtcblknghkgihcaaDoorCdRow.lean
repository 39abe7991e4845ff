/-
  Layer 7: a row of cells of one's own, one put behind the others.
-/
import Derived.Test.YtcblknghkgihcaaDoorCdLie
import Derived.Deep.AppendLies
namespace Go.Proofs.YtcblknghkgihcaaDoor
set_option maxRecDepth 100000
open Go.RowKit Crc

theorem CS.real {w : World} {S : Nat → Prop} {t : Tr} {v : Value} (h : CS w S t v) : CS w (fun k => S k ∧ k < w.heap.size) t v := by
  induction h using CS.ind with
  | mk k n s ts a cap ks ns ss us hk hn hs hl hc h0 hS hx hr ih =>
    refine CS.mk k n s ts a cap ks ns ss us hk hn hs hl hc h0 (fun x e hne => ⟨hS x e hne, ?_⟩) hx ih
    have h1 := (hx x 0 e (List.length_pos_iff.mpr hne)).2.c0
    rcases Nat.lt_or_ge x.block w.heap.size with h2 | h2
    · exact h2
    · exfalso
      unfold World.cell? at h1
      simp only at h1
      rw [Array.getElem?_eq_none h2] at h1
      simp at h1

def quad (k : Int) (n : Nat) (s : ByteArray) (u : Value) : List Value := [.int .i64 k, .int .u64 n, .string s, u]

structure Quads (xs : List Value) (N : Nat) (ks : Nat → Int) (ns : Nat → Nat) (ss : Nat → ByteArray) (us : Nat → Value) : Prop where
  q0 : ∀ i, i < N → xs[i * 4]? = some (.int .i64 (ks i))
  q1 : ∀ i, i < N → xs[i * 4 + 1]? = some (.int .u64 (ns i))
  q2 : ∀ i, i < N → xs[i * 4 + 2]? = some (.string (ss i))
  q3 : ∀ i, i < N → xs[i * 4 + 3]? = some (us i)

/-- The slice v, in a block of its own not below B, holds cells that read as these trees, which lie in other blocks not below B, of which Z holds. -/
def TWz (Z : World → Nat → Prop) (w : World) (B : Nat) (v : Value) (ts : List Tr) : Prop :=
  ∃ (xs : List Value) (ks : Nat → Int) (ns : Nat → Nat) (ss : Nat → ByteArray) (us : Nat → Value), w.ownsRow B 33 4 v ts.length xs ∧ Quads xs ts.length ks ns ss us ∧
    ∀ i (h : i < ts.length), CS w (fun k => B ≤ k ∧ v.ownBlock ≠ some k ∧ k < w.heap.size ∧ Z w k) ts[i] (cellV (ks i) (ns i) (ss i) (us i))

def TW (w : World) (B : Nat) (v : Value) (ts : List Tr) : Prop := TWz (fun _ _ => True) w B v ts

/-- No cell of the block is frozen. -/
def Uf (w : World) (k : Nat) : Prop := ∀ j, w.frozen? ⟨k, j, none⟩ = false
theorem Uf.same {w w' : World} {k : Nat} (h : w'.heap[k]? = w.heap[k]?) (u : Uf w k) : Uf w' k := fun j => (World.frozen?_of_block (w := w) (a := ⟨k, j, none⟩) h).trans (u j)

theorem Quads.snoc {xs : List Value} {N : Nat} {ks : Nat → Int} {ns : Nat → Nat} {ss : Nat → ByteArray} {us : Nat → Value} (h : Quads xs N ks ns ss us) (hl : xs.length = N * 4) (k : Int) (n : Nat) (s : ByteArray) (u : Value) :
    Quads (xs ++ quad k n s u) (N + 1) (fun i => if i = N then k else ks i) (fun i => if i = N then n else ns i) (fun i => if i = N then s else ss i) (fun i => if i = N then u else us i) := by
  refine ⟨?_, ?_, ?_, ?_⟩
  all_goals
    intro i hi
    by_cases c : i = N
    · subst c
      rw [List.getElem?_append_right (by omega)]
      rw [hl]
      simp [quad]
    · rw [List.getElem?_append_left (by omega)]
      simp only [c, if_false]
      first
        | exact h.q0 i (by omega)
        | exact h.q1 i (by omega)
        | exact h.q2 i (by omega)
        | exact h.q3 i (by omega)

/-- One more, where the row was left as it was. -/
theorem TWz.snocK {Z : World → Nat → Prop} (hZ : ∀ (w w' : World) (k : Nat), w'.heap[k]? = w.heap[k]? → Z w k → Z w' k) {w w1 : World} {B : Nat} {v : Value} {ts : List Tr} {t : Tr} {k : Int} {n : Nat} {s : ByteArray} {u : Value} (h : TWz Z w B v ts) (hB : B ≤ w.heap.size) (hsz : w.heap.size ≤ w1.heap.size) (hb : ∀ k, B ≤ k → k < w.heap.size → w1.heap[k]? = w.heap[k]?)
    (hc : CS w1 (fun k => w.heap.size ≤ k ∧ Z w1 k) t (cellV k n s u)) (o : Obj) :
    ∃ xs, w.ownsRow B 33 4 v ts.length xs ∧ ((w1.alloc o).ownsRow B 33 4 v ts.length xs) ∧ (∀ (w3 : World) (g cap : Nat), (hown : w3.ownsRow B 33 4 (.slice (some ⟨g, 0, none⟩) (ts.length + 1) cap) (ts.length + 1) (xs ++ quad k n s u)) → (hgrow : (w1.alloc o).grownBy w3 v.ownBlock) → (hat : v.ownBlock = some g ∨ g = (w1.alloc o).heap.size) →
      TWz Z w3 B (.slice (some ⟨g, 0, none⟩) (ts.length + 1) cap) (ts ++ [t])) := by
  obtain ⟨xs, ks, ns, ss, us, h1, h2, h3⟩ := h
  have hkeep : ∀ k, k < w1.heap.size → v.ownBlock ≠ some k → ∀ w3 : World, (w1.alloc o).grownBy w3 v.ownBlock → w3.heap[k]? = w1.heap[k]? := by
    intro k hk hne w3 hg
    rw [hg.block k (by simp; omega) (fun e => hne e.symm)]
    exact Below.heap_alloc w1 _ k hk
  refine ⟨xs, h1, ?_, ?_⟩
  · have h4 : w1.ownsRow B 33 4 v ts.length xs := by
      cases e : v.ownBlock with
      | none =>
        obtain ⟨l1, l2⟩ := h1
        refine ⟨l1, ?_⟩
        rcases l2 with l2 | ⟨g, cap, cur, rfl, _⟩
        · exact Or.inl l2
        · simp [Value.ownBlock] at e
      | some g0 => exact ownsRow_far h1 (hb g0 (h1.lt g0 e).1 (h1.lt g0 e).2) e
    exact h4.alloc o
  · intro w3 g cap hown hgrow hat
    have hs3 := hgrow.size
    have hs4 : (w1.alloc o).heap.size = w1.heap.size + 1 := by simp
    have hg3 := (hown.lt g rfl).2
    refine ⟨_, _, _, _, _, by rw [List.length_append]; exact hown, by rw [List.length_append]; exact h2.snoc h1.1 k n s u, ?_⟩
    intro i hi
    rw [List.length_append] at hi
    simp only [List.length_cons, List.length_nil] at hi
    by_cases c : i = ts.length
    · subst c
      simp only [if_true, List.getElem_append_right (Nat.le_refl _), Nat.sub_self, List.getElem_cons_zero]
      refine (hc.real.kept (w' := w3) (fun k hk => hkeep k hk.2 (fun e => ?_) w3 hgrow)).widen (fun k hk => ⟨by omega, fun e => ?_, by omega, hZ _ _ k (hkeep k hk.2 (fun e => by have := (h1.lt k e).2; omega) w3 hgrow) hk.1.2⟩)
      · have := (h1.lt k e).2; omega
      · simp [Value.ownBlock] at e
        subst e
        rcases hat with e | e
        · have := (h1.lt g e).2; omega
        · omega
    · have hi2 : i < ts.length := by omega
      simp only [c, if_false, List.getElem_append_left hi2]
      refine ((h3 i hi2).kept (w' := w3) (fun k hk => ?_)).widen (fun k hk => ⟨hk.1, fun e => ?_, by omega, hZ _ _ k ((hkeep k (by omega) hk.2.1 w3 hgrow).trans (hb k hk.1 hk.2.2.1)) hk.2.2.2⟩)
      · rw [hkeep k (by omega) hk.2.1 w3 hgrow]
        exact hb k hk.1 hk.2.2.1
      · simp [Value.ownBlock] at e
        subst e
        rcases hat with e | e
        · exact hk.2.1 e
        · omega

theorem TW.snocK {w w1 : World} {B : Nat} {v : Value} {ts : List Tr} {t : Tr} {k : Int} {n : Nat} {s : ByteArray} {u : Value} (h : TW w B v ts) (hB : B ≤ w.heap.size) (hsz : w.heap.size ≤ w1.heap.size) (hb : ∀ k, B ≤ k → k < w.heap.size → w1.heap[k]? = w.heap[k]?)
    (hc : CS w1 (fun k => w.heap.size ≤ k) t (cellV k n s u)) (o : Obj) :
    ∃ xs, w.ownsRow B 33 4 v ts.length xs ∧ ((w1.alloc o).ownsRow B 33 4 v ts.length xs) ∧ (∀ (w3 : World) (g cap : Nat), (hown : w3.ownsRow B 33 4 (.slice (some ⟨g, 0, none⟩) (ts.length + 1) cap) (ts.length + 1) (xs ++ quad k n s u)) → (hgrow : (w1.alloc o).grownBy w3 v.ownBlock) → (hat : v.ownBlock = some g ∨ g = (w1.alloc o).heap.size) →
      TW w3 B (.slice (some ⟨g, 0, none⟩) (ts.length + 1) cap) (ts ++ [t])) :=
  TWz.snocK (Z := fun _ _ => True) (fun _ _ _ _ h => h) h hB hsz hb (hc.widen (fun _ hk => ⟨hk, trivial⟩)) o

/-- One more. -/
theorem TW.snoc {w w1 : World} {B : Nat} {v : Value} {ts : List Tr} {t : Tr} {k : Int} {n : Nat} {s : ByteArray} {u : Value} (h : TW w B v ts) (hB : B ≤ w.heap.size) (hb : Below w.heap.size w w1)
    (hc : CS w1 (fun k => w.heap.size ≤ k) t (cellV k n s u)) (o : Obj) :
    ∃ xs, w.ownsRow B 33 4 v ts.length xs ∧ ((w1.alloc o).ownsRow B 33 4 v ts.length xs) ∧ (∀ (w3 : World) (g cap : Nat), (hown : w3.ownsRow B 33 4 (.slice (some ⟨g, 0, none⟩) (ts.length + 1) cap) (ts.length + 1) (xs ++ quad k n s u)) → (hgrow : (w1.alloc o).grownBy w3 v.ownBlock) → (hat : v.ownBlock = some g ∨ g = (w1.alloc o).heap.size) →
      TW w3 B (.slice (some ⟨g, 0, none⟩) (ts.length + 1) cap) (ts ++ [t])) :=
  h.snocK hB hb.size (fun k _ hk => hb.block k hk) hc o

end Go.Proofs.YtcblknghkgihcaaDoor
