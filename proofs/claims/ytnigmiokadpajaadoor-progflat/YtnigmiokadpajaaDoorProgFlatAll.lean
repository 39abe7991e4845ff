/-
  ProgFlat, for every input: the landed Flat tells a function and all within it, in order, each the same as the reference tells (or the function is greater than the law looks at), and a least function is checked and printed. Conditions: the table of orders and the library's tables, which the card ties; the function handed in holds itself nowhere (the row's own cell).
-/
import Derived.Test.YtnigmiokadpajaaDoorCdSame
import Derived.Deep.AppendLies
import Derived.Test.YtnigmiokadpajaaDoorPgFlat
import Derived.Deep.RegionHeld3
import Derived.Deep.CutBlock
import Derived.Test.YtnigmiokadpajaaDoorPgLives
import Derived.Test.YtnigmiokadpajaaDoorPgOpen
namespace Go.Proofs.YtnigmiokadpajaaDoor
set_option maxRecDepth 100000
open Go.RowKit Crc

/-- The value v reads as the tree, whose lists lie in blocks of which S holds. -/
def CS (w : World) (S : Nat → Prop) (t : Tr) (v : Value) : Prop :=
  ∀ P : Tr → Value → Prop, (∀ (k : Int) (n : Nat) (s : ByteArray) (ts : List Tr) (a : Option Addr) (cap : Nat) (ks : Nat → Int) (ns : Nat → Nat) (ss : Nat → ByteArray) (us : Nat → Value)
      (hk : -9223372036854775808 ≤ k ∧ k ≤ 9223372036854775807) (hn : n < 18446744073709551616) (hs : s.size ≤ 9223372036854775807) (hl : ts.length ≤ cap) (hc : cap ≤ 9223372036854775807) (h0 : a = none → ts = []) (hS : ∀ x, a = some x → ts ≠ [] → S x.block)
      (hx : ∀ x i, a = some x → i < ts.length → x.spot = none ∧ Lies w x.block x.off i (ks i) (ns i) (ss i) (us i))
      (_ : ∀ i (h : i < ts.length), P ts[i] (cellV (ks i) (ns i) (ss i) (us i))), P (.mk k n s ts) (cellV k n s (.slice a ts.length cap))) → P t v

theorem CS.mk {w : World} {S : Nat → Prop} (k : Int) (n : Nat) (s : ByteArray) (ts : List Tr) (a : Option Addr) (cap : Nat) (ks : Nat → Int) (ns : Nat → Nat) (ss : Nat → ByteArray) (us : Nat → Value)
      (hk : -9223372036854775808 ≤ k ∧ k ≤ 9223372036854775807) (hn : n < 18446744073709551616) (hs : s.size ≤ 9223372036854775807) (hl : ts.length ≤ cap) (hc : cap ≤ 9223372036854775807) (h0 : a = none → ts = []) (hS : ∀ x, a = some x → ts ≠ [] → S x.block)
      (hx : ∀ x i, a = some x → i < ts.length → x.spot = none ∧ Lies w x.block x.off i (ks i) (ns i) (ss i) (us i))
      (hr : ∀ i (h : i < ts.length), CS w S ts[i] (cellV (ks i) (ns i) (ss i) (us i))) : CS w S (.mk k n s ts) (cellV k n s (.slice a ts.length cap)) :=
  fun P hP => hP k n s ts a cap ks ns ss us hk hn hs hl hc h0 hS hx (fun i h => hr i h P hP)

theorem CS.ind {w : World} {S : Nat → Prop} {motive : ∀ t v, CS w S t v → Prop} (mk : ∀ (k : Int) (n : Nat) (s : ByteArray) (ts : List Tr) (a : Option Addr) (cap : Nat) (ks : Nat → Int) (ns : Nat → Nat) (ss : Nat → ByteArray) (us : Nat → Value)
      (hk : -9223372036854775808 ≤ k ∧ k ≤ 9223372036854775807) (hn : n < 18446744073709551616) (hs : s.size ≤ 9223372036854775807) (hl : ts.length ≤ cap) (hc : cap ≤ 9223372036854775807) (h0 : a = none → ts = []) (hS : ∀ x, a = some x → ts ≠ [] → S x.block)
      (hx : ∀ x i, a = some x → i < ts.length → x.spot = none ∧ Lies w x.block x.off i (ks i) (ns i) (ss i) (us i))
      (hr : ∀ i (h : i < ts.length), CS w S ts[i] (cellV (ks i) (ns i) (ss i) (us i))) (_ : ∀ i (h : i < ts.length), motive ts[i] (cellV (ks i) (ns i) (ss i) (us i)) (hr i h)), motive (.mk k n s ts) (cellV k n s (.slice a ts.length cap)) (CS.mk k n s ts a cap ks ns ss us hk hn hs hl hc h0 hS hx hr)) {t : Tr} {v : Value} (h : CS w S t v) : motive t v h := by
  have key : ∃ h' : CS w S t v, motive t v h' := h (fun t v => ∃ h', motive t v h') (fun k n s ts a cap ks ns ss us hk hn hs hl hc h0 hS hx hr => ⟨CS.mk k n s ts a cap ks ns ss us hk hn hs hl hc h0 hS hx (fun i h => (hr i h).elim (fun a _ => a)), mk k n s ts a cap ks ns ss us hk hn hs hl hc h0 hS hx (fun i h => (hr i h).elim (fun a _ => a)) (fun i h => (hr i h).elim (fun _ b => b))⟩)
  exact key.elim (fun _ b => b)

theorem CS.elim {w : World} {S : Nat → Prop} {motive : ∀ t v, CS w S t v → Prop} (mk : ∀ (k : Int) (n : Nat) (s : ByteArray) (ts : List Tr) (a : Option Addr) (cap : Nat) (ks : Nat → Int) (ns : Nat → Nat) (ss : Nat → ByteArray) (us : Nat → Value)
      (hk : -9223372036854775808 ≤ k ∧ k ≤ 9223372036854775807) (hn : n < 18446744073709551616) (hs : s.size ≤ 9223372036854775807) (hl : ts.length ≤ cap) (hc : cap ≤ 9223372036854775807) (h0 : a = none → ts = []) (hS : ∀ x, a = some x → ts ≠ [] → S x.block)
      (hx : ∀ x i, a = some x → i < ts.length → x.spot = none ∧ Lies w x.block x.off i (ks i) (ns i) (ss i) (us i))
      (hr : ∀ i (h : i < ts.length), CS w S ts[i] (cellV (ks i) (ns i) (ss i) (us i))), motive (.mk k n s ts) (cellV k n s (.slice a ts.length cap)) (CS.mk k n s ts a cap ks ns ss us hk hn hs hl hc h0 hS hx hr)) {t : Tr} {v : Value} (h : CS w S t v) : motive t v h :=
  CS.ind (fun k n s ts a cap ks ns ss us hk hn hs hl hc h0 hS hx hr _ => mk k n s ts a cap ks ns ss us hk hn hs hl hc h0 hS hx hr) h

theorem CS.cr {w : World} {S : Nat → Prop} {t : Tr} {v : Value} (h : CS w S t v) : CR w t v := by
  induction h using CS.ind with
  | mk k n s ts a cap ks ns ss us hk hn hs hl hc h0 hS hx hr ih => exact CR.mk k n s ts a cap ks ns ss us hk hn hs hl hc h0 hx ih

theorem CS.widen {w : World} {S S' : Nat → Prop} {t : Tr} {v : Value} (h : CS w S t v) (hS' : ∀ k, S k → S' k) : CS w S' t v := by
  induction h using CS.ind with
  | mk k n s ts a cap ks ns ss us hk hn hs hl hc h0 hS hx hr ih => exact CS.mk k n s ts a cap ks ns ss us hk hn hs hl hc h0 (fun x e hne => hS' _ (hS x e hne)) hx ih

theorem Lies.same {w w' : World} {g o i : Nat} {k : Int} {n : Nat} {s : ByteArray} {u : Value} (h : Lies w g o i k n s u) (hg : w'.heap[g]? = w.heap[g]?) : Lies w' g o i k n s u := by
  obtain ⟨h0, h1, h2, h3⟩ := h
  refine ⟨?_, ?_, ?_, ?_⟩
  · unfold World.cell? at h0 ⊢; simp only at h0 ⊢; rw [hg]; exact h0
  · unfold World.cell? at h1 ⊢; simp only at h1 ⊢; rw [hg]; exact h1
  · unfold World.cell? at h2 ⊢; simp only at h2 ⊢; rw [hg]; exact h2
  · unfold World.cell? at h3 ⊢; simp only at h3 ⊢; rw [hg]; exact h3

/-- It reads so still where none of its blocks has turned. -/
theorem CS.kept {w w' : World} {S : Nat → Prop} {t : Tr} {v : Value} (h : CS w S t v) (hg : ∀ k, S k → w'.heap[k]? = w.heap[k]?) : CS w' S t v := by
  induction h using CS.ind with
  | mk k n s ts a cap ks ns ss us hk hn hs hl hc h0 hS hx hr ih =>
    exact CS.mk k n s ts a cap ks ns ss us hk hn hs hl hc h0 hS (fun x i e hi => ⟨(hx x i e hi).1, (hx x i e hi).2.same (hg _ (hS x e (fun e2 => by rw [e2] at hi; exact absurd hi (by simp))))⟩) ih

/-- All that is read lies in blocks that there are. -/
theorem CR.cs {w : World} {t : Tr} {v : Value} (h : CR w t v) : CS w (fun k => k < w.heap.size) t v := by
  induction h using CR.ind with
  | mk k n s ts a cap ks ns ss us hk hn hs hl hc h0 hx hr ih =>
    refine CS.mk k n s ts a cap ks ns ss us hk hn hs hl hc h0 (fun x e hne => ?_) hx ih
    have h1 := (hx x 0 e (List.length_pos_iff.mpr hne)).2.c0
    rcases Nat.lt_or_ge x.block w.heap.size with h2 | h2
    · exact h2
    · exfalso
      unfold World.cell? at h1
      simp only at h1
      rw [Array.getElem?_eq_none h2] at h1
      simp at h1

end Go.Proofs.YtnigmiokadpajaaDoor
namespace Go.Proofs.YtnigmiokadpajaaDoor
set_option maxRecDepth 100000
open Go.RowKit Crc

theorem CS.real {w : World} {S : Nat → Prop} {t : Tr} {v : Value} (h : CS w S t v) : CS w (fun k => S k ∧ k < w.heap.size) t v := by
  induction h using CS.ind with
  | mk k n s ts a cap ks ns ss us hk hn hs hl hc h0 hS hx hr ih =>
    refine CS.mk k n s ts a cap ks ns ss us hk hn hs hl hc h0 (fun x e hne => ⟨hS x e hne, ?_⟩) hx ih
    have h1 := (hx x 0 e (List.length_pos_iff.mpr hne)).2.c0
    rcases Nat.lt_or_ge x.block w.heap.size with h2 | h2
    · exact h2
    · exfalso
      unfold World.cell? at h1
      simp only at h1
      rw [Array.getElem?_eq_none h2] at h1
      simp at h1

def quad (k : Int) (n : Nat) (s : ByteArray) (u : Value) : List Value := [.int .i64 k, .int .u64 n, .string s, u]

structure Quads (xs : List Value) (N : Nat) (ks : Nat → Int) (ns : Nat → Nat) (ss : Nat → ByteArray) (us : Nat → Value) : Prop where
  q0 : ∀ i, i < N → xs[i * 4]? = some (.int .i64 (ks i))
  q1 : ∀ i, i < N → xs[i * 4 + 1]? = some (.int .u64 (ns i))
  q2 : ∀ i, i < N → xs[i * 4 + 2]? = some (.string (ss i))
  q3 : ∀ i, i < N → xs[i * 4 + 3]? = some (us i)

/-- The slice v, in a block of its own not below B, holds cells that read as these trees, which lie in other blocks not below B, of which Z holds. -/
def TWz (Z : World → Nat → Prop) (w : World) (B : Nat) (v : Value) (ts : List Tr) : Prop :=
  ∃ (xs : List Value) (ks : Nat → Int) (ns : Nat → Nat) (ss : Nat → ByteArray) (us : Nat → Value), w.ownsRow B 42 4 v ts.length xs ∧ Quads xs ts.length ks ns ss us ∧
    ∀ i (h : i < ts.length), CS w (fun k => B ≤ k ∧ v.ownBlock ≠ some k ∧ k < w.heap.size ∧ Z w k) ts[i] (cellV (ks i) (ns i) (ss i) (us i))

def TW (w : World) (B : Nat) (v : Value) (ts : List Tr) : Prop := TWz (fun _ _ => True) w B v ts

/-- No cell of the block is frozen. -/
def Uf (w : World) (k : Nat) : Prop := ∀ j, w.frozen? ⟨k, j, none⟩ = false
theorem Uf.same {w w' : World} {k : Nat} (h : w'.heap[k]? = w.heap[k]?) (u : Uf w k) : Uf w' k := fun j => (World.frozen?_of_block (w := w) (a := ⟨k, j, none⟩) h).trans (u j)

theorem Quads.snoc {xs : List Value} {N : Nat} {ks : Nat → Int} {ns : Nat → Nat} {ss : Nat → ByteArray} {us : Nat → Value} (h : Quads xs N ks ns ss us) (hl : xs.length = N * 4) (k : Int) (n : Nat) (s : ByteArray) (u : Value) :
    Quads (xs ++ quad k n s u) (N + 1) (fun i => if i = N then k else ks i) (fun i => if i = N then n else ns i) (fun i => if i = N then s else ss i) (fun i => if i = N then u else us i) := by
  refine ⟨?_, ?_, ?_, ?_⟩
  all_goals
    intro i hi
    by_cases c : i = N
    · subst c
      rw [List.getElem?_append_right (by omega)]
      rw [hl]
      simp [quad]
    · rw [List.getElem?_append_left (by omega)]
      simp only [c, if_false]
      first
        | exact h.q0 i (by omega)
        | exact h.q1 i (by omega)
        | exact h.q2 i (by omega)
        | exact h.q3 i (by omega)

/-- One more, where the row was left as it was. -/
theorem TWz.snocK {Z : World → Nat → Prop} (hZ : ∀ (w w' : World) (k : Nat), w'.heap[k]? = w.heap[k]? → Z w k → Z w' k) {w w1 : World} {B : Nat} {v : Value} {ts : List Tr} {t : Tr} {k : Int} {n : Nat} {s : ByteArray} {u : Value} (h : TWz Z w B v ts) (hB : B ≤ w.heap.size) (hsz : w.heap.size ≤ w1.heap.size) (hb : ∀ k, B ≤ k → k < w.heap.size → w1.heap[k]? = w.heap[k]?)
    (hc : CS w1 (fun k => w.heap.size ≤ k ∧ Z w1 k) t (cellV k n s u)) (o : Obj) :
    ∃ xs, w.ownsRow B 42 4 v ts.length xs ∧ ((w1.alloc o).ownsRow B 42 4 v ts.length xs) ∧ (∀ (w3 : World) (g cap : Nat), (hown : w3.ownsRow B 42 4 (.slice (some ⟨g, 0, none⟩) (ts.length + 1) cap) (ts.length + 1) (xs ++ quad k n s u)) → (hgrow : (w1.alloc o).grownBy w3 v.ownBlock) → (hat : v.ownBlock = some g ∨ g = (w1.alloc o).heap.size) →
      TWz Z w3 B (.slice (some ⟨g, 0, none⟩) (ts.length + 1) cap) (ts ++ [t])) := by
  obtain ⟨xs, ks, ns, ss, us, h1, h2, h3⟩ := h
  have hkeep : ∀ k, k < w1.heap.size → v.ownBlock ≠ some k → ∀ w3 : World, (w1.alloc o).grownBy w3 v.ownBlock → w3.heap[k]? = w1.heap[k]? := by
    intro k hk hne w3 hg
    rw [hg.block k (by simp; omega) (fun e => hne e.symm)]
    exact Below.heap_alloc w1 _ k hk
  refine ⟨xs, h1, ?_, ?_⟩
  · have h4 : w1.ownsRow B 42 4 v ts.length xs := by
      cases e : v.ownBlock with
      | none =>
        obtain ⟨l1, l2⟩ := h1
        refine ⟨l1, ?_⟩
        rcases l2 with l2 | ⟨g, cap, cur, rfl, _⟩
        · exact Or.inl l2
        · simp [Value.ownBlock] at e
      | some g0 => exact ownsRow_far h1 (hb g0 (h1.lt g0 e).1 (h1.lt g0 e).2) e
    exact h4.alloc o
  · intro w3 g cap hown hgrow hat
    have hs3 := hgrow.size
    have hs4 : (w1.alloc o).heap.size = w1.heap.size + 1 := by simp
    have hg3 := (hown.lt g rfl).2
    refine ⟨_, _, _, _, _, by rw [List.length_append]; exact hown, by rw [List.length_append]; exact h2.snoc h1.1 k n s u, ?_⟩
    intro i hi
    rw [List.length_append] at hi
    simp only [List.length_cons, List.length_nil] at hi
    by_cases c : i = ts.length
    · subst c
      simp only [if_true, List.getElem_append_right (Nat.le_refl _), Nat.sub_self, List.getElem_cons_zero]
      refine (hc.real.kept (w' := w3) (fun k hk => hkeep k hk.2 (fun e => ?_) w3 hgrow)).widen (fun k hk => ⟨by omega, fun e => ?_, by omega, hZ _ _ k (hkeep k hk.2 (fun e => by have := (h1.lt k e).2; omega) w3 hgrow) hk.1.2⟩)
      · have := (h1.lt k e).2; omega
      · simp [Value.ownBlock] at e
        subst e
        rcases hat with e | e
        · have := (h1.lt g e).2; omega
        · omega
    · have hi2 : i < ts.length := by omega
      simp only [c, if_false, List.getElem_append_left hi2]
      refine ((h3 i hi2).kept (w' := w3) (fun k hk => ?_)).widen (fun k hk => ⟨hk.1, fun e => ?_, by omega, hZ _ _ k ((hkeep k (by omega) hk.2.1 w3 hgrow).trans (hb k hk.1 hk.2.2.1)) hk.2.2.2⟩)
      · rw [hkeep k (by omega) hk.2.1 w3 hgrow]
        exact hb k hk.1 hk.2.2.1
      · simp [Value.ownBlock] at e
        subst e
        rcases hat with e | e
        · exact hk.2.1 e
        · omega

theorem TW.snocK {w w1 : World} {B : Nat} {v : Value} {ts : List Tr} {t : Tr} {k : Int} {n : Nat} {s : ByteArray} {u : Value} (h : TW w B v ts) (hB : B ≤ w.heap.size) (hsz : w.heap.size ≤ w1.heap.size) (hb : ∀ k, B ≤ k → k < w.heap.size → w1.heap[k]? = w.heap[k]?)
    (hc : CS w1 (fun k => w.heap.size ≤ k) t (cellV k n s u)) (o : Obj) :
    ∃ xs, w.ownsRow B 42 4 v ts.length xs ∧ ((w1.alloc o).ownsRow B 42 4 v ts.length xs) ∧ (∀ (w3 : World) (g cap : Nat), (hown : w3.ownsRow B 42 4 (.slice (some ⟨g, 0, none⟩) (ts.length + 1) cap) (ts.length + 1) (xs ++ quad k n s u)) → (hgrow : (w1.alloc o).grownBy w3 v.ownBlock) → (hat : v.ownBlock = some g ∨ g = (w1.alloc o).heap.size) →
      TW w3 B (.slice (some ⟨g, 0, none⟩) (ts.length + 1) cap) (ts ++ [t])) :=
  TWz.snocK (Z := fun _ _ => True) (fun _ _ _ _ h => h) h hB hsz hb (hc.widen (fun _ hk => ⟨hk, trivial⟩)) o

/-- One more. -/
theorem TW.snoc {w w1 : World} {B : Nat} {v : Value} {ts : List Tr} {t : Tr} {k : Int} {n : Nat} {s : ByteArray} {u : Value} (h : TW w B v ts) (hB : B ≤ w.heap.size) (hb : Below w.heap.size w w1)
    (hc : CS w1 (fun k => w.heap.size ≤ k) t (cellV k n s u)) (o : Obj) :
    ∃ xs, w.ownsRow B 42 4 v ts.length xs ∧ ((w1.alloc o).ownsRow B 42 4 v ts.length xs) ∧ (∀ (w3 : World) (g cap : Nat), (hown : w3.ownsRow B 42 4 (.slice (some ⟨g, 0, none⟩) (ts.length + 1) cap) (ts.length + 1) (xs ++ quad k n s u)) → (hgrow : (w1.alloc o).grownBy w3 v.ownBlock) → (hat : v.ownBlock = some g ∨ g = (w1.alloc o).heap.size) →
      TW w3 B (.slice (some ⟨g, 0, none⟩) (ts.length + 1) cap) (ts ++ [t])) :=
  h.snocK hB hb.size (fun k _ hk => hb.block k hk) hc o

end Go.Proofs.YtnigmiokadpajaaDoor
namespace Go.Proofs.YtnigmiokadpajaaDoor
set_option maxRecDepth 100000
open Go.RowKit Crc

theorem info25b : (Tryd.prog.info? 42).map (fun i => (i.zero, i.size, i.bytes)) = some (some (.agg #[.int .i64 0, .int .u64 0, .string ⟨#[]⟩, .slice none 0 0]), 4, 56) := by kernel_rfl

theorem CS.form {w : World} {S : Nat → Prop} {t : Tr} {v : Value} (h : CS w S t v) : ∃ k n s a m cap, v = cellV k n s (.slice a m cap) := by
  cases h using CS.elim with
  | mk k n s ts a cap => exact ⟨k, n, s, a, _, cap, rfl⟩

theorem cells_quad (w : World) (k : Int) (n : Nat) (s : ByteArray) (u : Value) (t : TypeId) : ∀ j y, (quad k n s u)[j]? = some y → (w.alloc (.cells #[.int .i64 k, .int .u64 n, .string s, u] t)).cell? (Addr.add ⟨w.heap.size, 0, none⟩ j) = some y := by
  intro j y hy
  match j, hy with
  | 0, hy => rw [Addr_add_zero, World.cell?_alloc_new]; simpa [quad] using hy
  | 1, hy => rw [show Addr.add ⟨w.heap.size, 0, none⟩ 1 = ⟨w.heap.size, 1, none⟩ from rfl, World.cell?_alloc_new]; simpa [quad] using hy
  | 2, hy => rw [show Addr.add ⟨w.heap.size, 0, none⟩ 2 = ⟨w.heap.size, 2, none⟩ from rfl, World.cell?_alloc_new]; simpa [quad] using hy
  | 3, hy => rw [show Addr.add ⟨w.heap.size, 0, none⟩ 3 = ⟨w.heap.size, 3, none⟩ from rfl, World.cell?_alloc_new]; simpa [quad] using hy
  | j + 4, hy => simp [quad] at hy

/-- A row is a list. -/
theorem TWz.cs {Z : World → Nat → Prop} {w : World} {B N cap : Nat} {a : Option Addr} {ts : List Tr} (h : TWz Z w B (.slice a N cap) ts) (hz : ∀ g, (Value.slice a N cap).ownBlock = some g → Z w g) (hN : N = ts.length) (k : Int) (n : Nat) (s : ByteArray) (hk : -9223372036854775808 ≤ k ∧ k ≤ 9223372036854775807) (hn : n < 18446744073709551616) (hs : s.size ≤ 9223372036854775807) :
    CS w (fun k => B ≤ k ∧ Z w k) (.mk k n s ts) (cellV k n s (.slice a N cap)) := by
  obtain ⟨xs, ks, ns, ss, us, h1, h2, h3⟩ := h
  subst hN
  have h4 := h1
  rcases h1.2 with ⟨e, e2⟩ | ⟨g, cap', cur, e, hb, _, hl, hc, _⟩
  · simp only [Value.slice.injEq] at e
    obtain ⟨rfl, _, rfl⟩ := e
    have e3 : ts = [] := List.eq_nil_of_length_eq_zero e2
    subst e3
    exact CS.mk k n s [] none 0 ks ns ss us hk hn hs (Nat.le_refl _) (by decide) (fun _ => rfl) (fun x e => by cases e) (fun x i e => by cases e) (fun i h => absurd h (Nat.not_lt_zero _))
  · simp only [Value.slice.injEq] at e
    obtain ⟨rfl, _, rfl⟩ := e
    unfold maxLen at hc
    refine CS.mk k n s ts _ cap ks ns ss us hk hn hs hl (by omega) (fun e => by cases e) (fun x e _ => by cases e; exact ⟨hb, hz g rfl⟩) (fun x i e hi => ?_) (fun i hi => (h3 i hi).widen (fun k hk => ⟨hk.1, hk.2.2.2⟩))
    cases e
    refine ⟨rfl, ?_, ?_, ?_, ?_⟩
    · simp only [Nat.zero_add]; rw [h4.cellAt _ (by omega)]; exact h2.q0 i hi
    · simp only [Nat.zero_add]; rw [h4.cellAt _ (by omega)]; exact h2.q1 i hi
    · simp only [Nat.zero_add]; rw [h4.cellAt _ (by omega)]; exact h2.q2 i hi
    · simp only [Nat.zero_add]; rw [h4.cellAt _ (by omega)]; exact h2.q3 i hi

theorem TW.cs {w : World} {B N cap : Nat} {a : Option Addr} {ts : List Tr} (h : TW w B (.slice a N cap) ts) (hN : N = ts.length) (k : Int) (n : Nat) (s : ByteArray) (hk : -9223372036854775808 ≤ k ∧ k ≤ 9223372036854775807) (hn : n < 18446744073709551616) (hs : s.size ≤ 9223372036854775807) :
    CS w (fun k => B ≤ k) (.mk k n s ts) (cellV k n s (.slice a N cap)) :=
  (TWz.cs (Z := fun _ _ => True) h (fun _ _ => trivial) hN k n s hk hn hs).widen (fun _ hk => hk.1)

theorem ownsRow_uf {w : World} {B e s n g : Nat} {v : Value} {xs : List Value} (h : w.ownsRow B e s v n xs) (hv : v.ownBlock = some g) : Uf w g := by
  rcases h.2 with ⟨e1, _⟩ | ⟨g', cap, cur, e1, _, hg, _⟩
  · rw [e1] at hv; cases hv
  · rw [e1] at hv
    simp [Value.ownBlock] at hv
    subst hv
    intro j
    unfold World.frozen?
    simp [hg]

set_option maxHeartbeats 2000000 in
theorem own_cell_u : ∀ (D : Nat) (t : Tr) (v : Value) (w : World), t.dep < D → t.cnt ≤ 1000000 → CR w t v →
    Calls Tryd.prog 30 #[v] w fun e w' => ∃ v', e = .returned v' ∧ CS w' (fun k => w.heap.size ≤ k ∧ Uf w' k) t v' ∧ Below w.heap.size w w' := by
  intro D
  induction D with
  | zero => intro t v w h; omega
  | succ D ih =>
    intro t v w hD hcnt h
    cases h using CR.elim with
    | mk k n s ts a cap ks ns ss us hk hn hs hl hc h0 hx hr =>
    unfold cellV
    obtain ⟨i0, hi0, hz0, hz1, hz2⟩ := info_parts info25b
    obtain ⟨N, hN⟩ : ∃ N, N = ts.length := ⟨_, rfl⟩
    have HN : Hid (N = ts.length) := hN
    have HD : Hid (deps ts < D + 1) := by rw [Tr.dep_mk] at hD; exact hD
    have HR : Hid (∀ i (h : i < ts.length), CR w ts[i] (cellV (ks i) (ns i) (ss i) (us i))) := hr
    have HX : Hid (∀ x i, a = some x → i < ts.length → x.spot = none ∧ Lies w x.block x.off i (ks i) (ns i) (ss i) (us i)) := hx
    have H0 : Hid (a = none → ts = []) := h0
    have HI : Hid _ := ih
    have HCN : Hid (1 + cnts ts ≤ 1000000) := by rw [Tr.cnt_mk] at hcnt; exact hcnt
    rw [← hN]
    rw [← hN] at hl
    obtain ⟨w0, hw0⟩ : ∃ w0, w0 = ((w.alloc (.cells #[.int .i64 k, .int .u64 n, .string s, .slice a N cap] 42)).alloc (.cells #[.int .i64 0, .int .u64 0, .string ⟨#[]⟩, .slice none 0 0] 42)).alloc (.cells #[] 42) := ⟨_, rfl⟩
    clear hr hx h0 ih hD hN hcnt
    go_enter Tryd.func30, Tryd.ntmps30
    go_wp2_with fail
    rw [← hw0]
    have hs0 : w0.heap.size = w.heap.size + 3 := by rw [hw0]; simp
    have HB0 : Hid (Below w.heap.size w w0) := by
      rw [hw0]
      exact (((Below.refl _ w).alloc (Nat.le_refl _) _).alloc (by simp) _).alloc (by simp; omega) _
    have HT0 : Hid (TWz Uf w0 (w.heap.size + 2) (.slice (some ⟨w.heap.size + 1 + 1, 0, none⟩) 0 0) []) := by
      refine ⟨[], fun _ => 0, fun _ => 0, fun _ => ⟨#[]⟩, fun _ => .slice none 0 0, ?_, ⟨fun i h => absurd h (Nat.not_lt_zero _), fun i h => absurd h (Nat.not_lt_zero _), fun i h => absurd h (Nat.not_lt_zero _), fun i h => absurd h (Nat.not_lt_zero _)⟩, fun i h => absurd h (Nat.not_lt_zero _)⟩
      have := World.ownsRow_made (e := 42) (size := 4) (base := w.heap.size + 2) ((w.alloc (.cells #[.int .i64 k, .int .u64 n, .string s, .slice a N cap] 42)).alloc (.cells #[.int .i64 0, .int .u64 0, .string ⟨#[]⟩, .slice none 0 0] 42)) #[] 0 (by simp) (by decide) rfl
      rw [← hw0] at this
      simpa using this
    have G : ∀ j, w0.cell? ⟨w.heap.size, j, none⟩ = (#[.int .i64 k, .int .u64 n, .string s, .slice a N cap] : Array Value)[j]? := by
      intro j
      rw [hw0, World.cell?_alloc_lt _ _ _ (by simp; omega), World.cell?_alloc_lt _ _ _ (by simp), World.cell?_alloc_new]
    have G2 : ∀ j, w0.cell? ⟨w.heap.size + 1, j, none⟩ = (#[.int .i64 0, .int .u64 0, .string ⟨#[]⟩, .slice none 0 0] : Array Value)[j]? := by
      intro j
      rw [hw0, World.cell?_alloc_lt _ _ _ (by simp), World.cell?_alloc_at _ _ _ _ (by simp)]
    have K2 : w0.heap[w.heap.size + 1]? = some (.cells #[.int .i64 0, .int .u64 0, .string ⟨#[]⟩, .slice none 0 0] 42 (0, 0)) := by
      rw [hw0, Below.heap_alloc _ _ _ (by simp)]
      have := heap_alloc_new (w.alloc (.cells #[.int .i64 k, .int .u64 n, .string s, .slice a N cap] 42)) (.cells #[.int .i64 0, .int .u64 0, .string ⟨#[]⟩, .slice none 0 0] 42)
      simpa using this
    have F1 : ∀ j, w0.frozen? ⟨w.heap.size, j, none⟩ = false := by
      intro j
      rw [hw0, World.frozen?_alloc_past _ _ _ (by simp; omega), World.frozen?_alloc_past _ _ _ (by simp), World.frozen?_alloc_at _ _ _ _ rfl]
    have F2 : ∀ j, w0.frozen? ⟨w.heap.size + 1, j, none⟩ = false := by
      intro j
      rw [hw0, World.frozen?_alloc_past _ _ _ (by simp), World.frozen?_alloc_at _ _ _ _ (by simp)]
    have g0 : w0.cell? ⟨w.heap.size, 3, none⟩ = some (.slice a N cap) := G 3
    clear hw0
    go_loopw [3, 4] (fun t3 t4 wr => ∃ (i : Nat), i ≤ N ∧ t4 = .int .i64 i ∧ Hid (TWz Uf wr (w.heap.size + 2) t3 (ts.take i)) ∧ Hid (Below (w.heap.size + 2) w0 wr)) (fun _ t4 _ => N - (intOf t4).toNat)
    case atStart => exact ⟨0, Nat.zero_le _, rfl, HT0, Below.refl _ _⟩
    case round =>
      obtain ⟨i, hi, rfl, HT, HW⟩ := hrel
      have hsz := HW.out.size
      have HBW : Hid (Below w.heap.size w wr) := HB0.out.trans (HW.out.mono (by omega))
      have b0 : wr.cell? ⟨w.heap.size, 3, none⟩ = some (.slice a N cap) := by
        rw [← g0]
        exact HW.out.cell (p := ⟨w.heap.size, 3, none⟩) (show w.heap.size < w.heap.size + 2 by omega)
      by_cases c : i < N
      · have i1 : i < ts.length := by rw [← HN.out]; exact c
        obtain ⟨x, hx⟩ : ∃ x, a = some x := by
          cases a with
          | some x => exact ⟨x, rfl⟩
          | none => rw [H0.out rfl] at i1; exact absurd i1 (by simp)
        subst hx
        obtain ⟨hsp, hli⟩ := HX.out x i rfl i1
        obtain ⟨g, o, sp⟩ := x
        simp only at hsp
        subst hsp
        obtain ⟨l0, l1, l2, l3⟩ := hli.below HBW.out (Nat.le_refl _)
        have hct := cnts_take ts i i1
        have hcl : cnts (ts.take (i + 1)) ≤ cnts ts := by
          have := cnts_append (ts.take (i + 1)) (ts.drop (i + 1))
          rw [List.take_append_drop] at this
          omega
        have hcall := HI.out ts[i] _ wr (by have := deps_get i i1; have := HD.out; omega) (by have := HCN.out; omega) ((HR.out i i1).kept HBW.out (Nat.le_refl _))
        unfold cellV at hcall
        clear hli hct hcl
        go_wp2_with fail
        refine hcall.mono ?_
        rintro e w2 ⟨v2, rfl, hcs, hb2⟩
        obtain ⟨k2, n2, s2, a2, m2, cap2, rfl⟩ := hcs.form
        have hlen : (ts.take i).length = i := by rw [List.length_take]; omega
        obtain ⟨xs, ho1, ho2, hnext⟩ := HT.out.snocK (fun _ _ _ => Uf.same) (B := w.heap.size + 2) (w1 := w2) (by omega) hb2.size (fun k _ hk => hb2.block k hk) hcs (.cells #[.int .i64 k2, .int .u64 n2, .string s2, .slice a2 m2 cap2] 42)
        rw [hlen] at ho2
        have HNX : Hid (∀ (w3 : World) (g cap : Nat), _) := hnext
        have HBX : Hid (Below wr.heap.size wr w2) := hb2
        have hsz2 := hb2.size
        have hi9 : i < 1000000 := by
          have h1 : ∀ l : List Tr, l.length ≤ cnts l := by
            intro l
            induction l with
            | nil => simp [cnts_nil]
            | cons t l ih => simp only [cnts_cons, List.length_cons]; have := cnt_pos t; omega
          have := h1 ts
          have := HCN.out
          omega
        unfold cellV
        clear hnext ho1 hcs hb2 hcall l0 l1 l2 l3
        go_wp2_with (at_builtin; refine wpList_append_lies _ rfl _ _ 40 rfl (w.heap.size + 2) 42 i0 _ 4 56 Tryd.underlying40 hi0 hz0 hz1 hz2 rfl (by decide) _ i xs rfl ho2 ⟨w2.heap.size, 0, none⟩ 1 1 (quad k2 n2 s2 (.slice a2 m2 cap2)) rfl rfl (cells_quad _ _ _ _ _ _) (by intro u hu; simp [quad] at hu; rcases hu with rfl | rfl | rfl | rfl <;> rfl) (by decide) (by unfold maxLen; omega) (by omega) (by simp; omega) _ rfl ?_)
        intro g3 cap3 w3 hown3 hgrow3 hat3 _
        have HT3 : Hid (TWz Uf w3 (w.heap.size + 2) (.slice (some ⟨g3, 0, none⟩) (i + 1) cap3) (ts.take (i + 1))) := by
          have := HNX.out w3 g3 cap3 (by rw [hlen]; exact hown3) hgrow3 (by simpa using hat3)
          rw [hlen] at this
          show TWz _ _ _ _ _
          rw [List.take_succ_eq_append_getElem i1]
          exact this
        have HW3 : Hid (Below (w.heap.size + 2) w0 w3) := by
          have k1 : Below (w.heap.size + 2) w0 w2 := HW.out.trans (HBX.out.mono (by omega))
          refine (k1.alloc (by omega) _).grown hgrow3 (by simp; omega) (fun k hk => (ho2.lt k hk).1)
        clear hown3 hgrow3 hat3 ho2
        go_wp2
        go_roundw
        case rel => exact ⟨i + 1, by omega, by go_num, HT3, HW3⟩
        case measure => simp [intOf]; omega
      · have e : i = N := by omega
        subst e
        have et : ts.take i = ts := by rw [HN.out, List.take_length]
        rw [et] at HT
        obtain ⟨a3, cap3, e3⟩ : ∃ a3 cap3, u3 = .slice a3 i cap3 := by
          obtain ⟨xs, _, _, _, _, h1, _⟩ := HT.out
          rw [← HN.out] at h1
          rcases h1.2 with ⟨e, e2⟩ | ⟨g, cap, _, e, _⟩
          · exact ⟨none, 0, by rw [e2]; exact e⟩
          · exact ⟨some ⟨g, 0, none⟩, cap, e⟩
        subst e3
        have c0 : wr.cell? ⟨w.heap.size, 0, none⟩ = some (.int .i64 k) := (HW.out.cell (p := ⟨w.heap.size, 0, none⟩) (show w.heap.size < w.heap.size + 2 by omega)).trans (G 0)
        have c1 : wr.cell? ⟨w.heap.size, 1, none⟩ = some (.int .u64 n) := (HW.out.cell (p := ⟨w.heap.size, 1, none⟩) (show w.heap.size < w.heap.size + 2 by omega)).trans (G 1)
        have c2 : wr.cell? ⟨w.heap.size, 2, none⟩ = some (.string s) := (HW.out.cell (p := ⟨w.heap.size, 2, none⟩) (show w.heap.size < w.heap.size + 2 by omega)).trans (G 2)
        have d0 : wr.cell? ⟨w.heap.size + 1, 0, none⟩ = some (.int .i64 0) := (HW.out.cell (p := ⟨w.heap.size + 1, 0, none⟩) (show w.heap.size + 1 < w.heap.size + 2 by omega)).trans (G2 0)
        have d1 : wr.cell? ⟨w.heap.size + 1, 1, none⟩ = some (.int .u64 0) := (HW.out.cell (p := ⟨w.heap.size + 1, 1, none⟩) (show w.heap.size + 1 < w.heap.size + 2 by omega)).trans (G2 1)
        have d2 : wr.cell? ⟨w.heap.size + 1, 2, none⟩ = some (.string ⟨#[]⟩) := (HW.out.cell (p := ⟨w.heap.size + 1, 2, none⟩) (show w.heap.size + 1 < w.heap.size + 2 by omega)).trans (G2 2)
        have d3 : wr.cell? ⟨w.heap.size + 1, 3, none⟩ = some (.slice none 0 0) := (HW.out.cell (p := ⟨w.heap.size + 1, 3, none⟩) (show w.heap.size + 1 < w.heap.size + 2 by omega)).trans (G2 3)
        have hfz : ∀ k, k < w.heap.size + 2 → ∀ j, wr.frozen? ⟨k, j, none⟩ = w0.frozen? ⟨k, j, none⟩ := by
          intro k hk j
          have := HW.out.block k hk
          unfold World.frozen?
          simp only [this]
        have f1 : wr.frozen? ⟨w.heap.size, 3, none⟩ = false := (hfz _ (by omega) 3).trans (F1 3)
        have e0 : wr.frozen? ⟨w.heap.size + 1, 0, none⟩ = false := (hfz _ (by omega) 0).trans (F2 0)
        have e1 : wr.frozen? ⟨w.heap.size + 1, 1, none⟩ = false := (hfz _ (by omega) 1).trans (F2 1)
        have e2 : wr.frozen? ⟨w.heap.size + 1, 2, none⟩ = false := (hfz _ (by omega) 2).trans (F2 2)
        have e3 : wr.frozen? ⟨w.heap.size + 1, 3, none⟩ = false := (hfz _ (by omega) 3).trans (F2 3)
        have K3 : wr.heap[w.heap.size + 1]? = some (.cells #[.int .i64 0, .int .u64 0, .string ⟨#[]⟩, .slice none 0 0] 42 (0, 0)) := (HW.out.block _ (by omega)).trans K2
        have HQ := HT.out.cs (fun g hg => by obtain ⟨xs, _, _, _, _, h1, _⟩ := HT.out; exact ownsRow_uf h1 hg) HN.out k n s hk hn hs
        have HK : Hid (∀ W : World, W = ((((wr.setCell ⟨w.heap.size, 3, none⟩ (.slice a3 i cap3)).setCell ⟨w.heap.size + 1, 0, none⟩ (.int .i64 k)).setCell ⟨w.heap.size + 1, 1, none⟩ (.int .u64 n)).setCell ⟨w.heap.size + 1, 2, none⟩ (.string s)).setCell ⟨w.heap.size + 1, 3, none⟩ (.slice a3 i cap3) →
            W.heap[w.heap.size + 1]? = some (.cells #[.int .i64 k, .int .u64 n, .string s, .slice a3 i cap3] 42 (0, 0)) ∧ CS W (fun k => w.heap.size ≤ k ∧ Uf W k) (.mk k n s ts) (cellV k n s (.slice a3 i cap3)) ∧ Below w.heap.size w W) := by
          intro W hW
          subst hW
          refine ⟨?_, ?_, ?_⟩
          · have z0 := (heap_setCell_other wr ⟨w.heap.size, 3, none⟩ (w.heap.size + 1) (.slice a3 i cap3) (by simp)).trans K3
            have z1 := heap_setCell_same _ _ 0 _ _ (.int .i64 k) z0
            have z2 := heap_setCell_same _ _ 1 _ _ (.int .u64 n) z1
            have z3 := heap_setCell_same _ _ 2 _ _ (.string s) z2
            have z4 := heap_setCell_same _ _ 3 _ _ (.slice a3 i cap3) z3
            exact z4
          · have hfar : ∀ q, w.heap.size + 2 ≤ q → ((((((wr.setCell ⟨w.heap.size, 3, none⟩ (.slice a3 i cap3)).setCell ⟨w.heap.size + 1, 0, none⟩ (.int .i64 k)).setCell ⟨w.heap.size + 1, 1, none⟩ (.int .u64 n)).setCell ⟨w.heap.size + 1, 2, none⟩ (.string s)).setCell ⟨w.heap.size + 1, 3, none⟩ (.slice a3 i cap3)).heap[q]? = wr.heap[q]?) := by
              intro q hq
              rw [heap_setCell_other _ _ _ _ (by simp; omega), heap_setCell_other _ _ _ _ (by simp; omega), heap_setCell_other _ _ _ _ (by simp; omega), heap_setCell_other _ _ _ _ (by simp; omega), heap_setCell_other _ _ _ _ (by simp; omega)]
            exact (HQ.kept (fun k hk => hfar k hk.1)).widen (fun k hk => ⟨by omega, Uf.same (hfar k hk.1) hk.2⟩)
          · exact ((((HBW.out.setCell (by simp) _).setCell (by simp) _).setCell (by simp) _).setCell (by simp) _).setCell (by simp) _
        clear G g0 G2 F1 F2 hfz K2 K3 HQ
        go_wp2
        obtain ⟨y1, y2, y3⟩ := HK.out _ rfl
        exact bodyPost_ret (results_cell_row rfl _ _ (w.heap.size + 1) _ _ _ _ rfl y1 Tryd.underlying42 rfl info25) rfl ⟨_, rfl, y2, y3⟩

theorem own_cell (D : Nat) (t : Tr) (v : Value) (w : World) (h1 : t.dep < D) (h2 : t.cnt ≤ 1000000) (h3 : CR w t v) :
    Calls Tryd.prog 30 #[v] w fun e w' => ∃ v', e = .returned v' ∧ CS w' (fun k => w.heap.size ≤ k) t v' ∧ Below w.heap.size w w' :=
  (own_cell_u D t v w h1 h2 h3).mono fun _ _ ⟨v', e, q, b⟩ => ⟨v', e, q.widen (fun _ hk => hk.1), b⟩

end Go.Proofs.YtnigmiokadpajaaDoor
namespace Go.Proofs.YtnigmiokadpajaaDoor
set_option maxRecDepth 100000
open Go.RowKit Crc Pg

namespace Pg
def nob : ByteArray := ⟨#[]⟩
def uw (n : Int) : Nat := (n % 18446744073709551616).toNat
def numT (n : Int) : Tr := .mk 0 (uw n) nob []
def lisT (l : List Tr) : Tr := .mk 2 0 nob l
def upT (u : Upp) : Tr := lisT [numT (if u.own then 1 else 0), numT u.pl]
def insT (x : Ins) : Tr := lisT [numT x.op, numT x.a, numT x.b, numT x.c]
def vlT (v : Vl) : Tr := lisT (if v.k = 3 then [numT v.k, .mk 0 v.n.toNat nob []] else if v.k = 4 then [numT v.k, .mk 1 0 v.s []] else [numT v.k])
/-- A function as a tree of data. -/
def cellT : Pr → Tr
  | .mk pa rg us cs ks ps => lisT [numT pa, numT rg, lisT (us.map upT), lisT (cs.map insT), lisT (ks.map vlT), lisT (ps.map cellT)]
theorem cellT_mk (pa rg : Int) (us : List Upp) (cs : List Ins) (ks : List Vl) (ps : List Pr) : cellT (.mk pa rg us cs ks ps) = lisT [numT pa, numT rg, lisT (us.map upT), lisT (cs.map insT), lisT (ks.map vlT), lisT (ps.map cellT)] := by rw [cellT]
theorem uw_lt (n : Int) : uw n < 18446744073709551616 := by unfold uw; omega
theorem uw_val (n : Int) : ((uw n : Nat) : Int) = n % 18446744073709551616 := by unfold uw; omega

/-- A cell of four parts. -/
structure Q4 where
  k : Int
  n : Nat
  s : ByteArray
  u : Value
def Q4.l (q : Q4) : List Value := quad q.k q.n q.s q.u
def Q4.v (q : Q4) : Value := cellV q.k q.n q.s q.u
def qsL (l : List Q4) : List Value := l.flatMap Q4.l
def q0 : Q4 := ⟨0, 0, nob, .slice none 0 0⟩
theorem qsL_get : ∀ (l : List Q4) (i : Nat), i < l.length → (qsL l)[i * 4]? = some (.int .i64 (l.getD i q0).k) ∧ (qsL l)[i * 4 + 1]? = some (.int .u64 (l.getD i q0).n) ∧ (qsL l)[i * 4 + 2]? = some (.string (l.getD i q0).s) ∧ (qsL l)[i * 4 + 3]? = some (l.getD i q0).u
  | [], i, h => absurd h (Nat.not_lt_zero _)
  | q :: l, 0, _ => by
    show (q.l ++ qsL l)[0 * 4]? = _ ∧ (q.l ++ qsL l)[0 * 4 + 1]? = _ ∧ (q.l ++ qsL l)[0 * 4 + 2]? = _ ∧ (q.l ++ qsL l)[0 * 4 + 3]? = _
    simp [Q4.l, quad]
  | q :: l, i + 1, h => by
    have ih := qsL_get l i (by simpa using h)
    have e : ∀ j, (qsL (q :: l))[(i + 1) * 4 + j]? = (qsL l)[i * 4 + j]? := by
      intro j
      show (q.l ++ qsL l)[(i + 1) * 4 + j]? = _
      have hl : q.l.length = 4 := rfl
      rw [List.getElem?_append_right (by rw [hl]; omega), hl]
      congr 1
      omega
    have e0 := e 0
    simp only [Nat.add_zero] at e0
    rw [e0, e 1, e 2, e 3]
    simpa using ih
theorem qsL_quads (l : List Q4) : Quads (qsL l) l.length (fun i => (l.getD i q0).k) (fun i => (l.getD i q0).n) (fun i => (l.getD i q0).s) (fun i => (l.getD i q0).u) :=
  ⟨fun i h => (qsL_get l i h).1, fun i h => (qsL_get l i h).2.1, fun i h => (qsL_get l i h).2.2.1, fun i h => (qsL_get l i h).2.2.2⟩

theorem cs_num {w : World} {S : Nat → Prop} (n : Nat) (h : n < 18446744073709551616) : CS w S (.mk 0 n nob []) (cellV 0 n nob (.slice none 0 0)) :=
  CS.mk 0 n nob [] none 0 (fun _ => 0) (fun _ => 0) (fun _ => nob) (fun _ => .slice none 0 0) (by decide) h (by decide) (Nat.le_refl _) (by decide) (fun _ => rfl) (fun x e => by cases e) (fun x i e => by cases e) (fun i h => absurd h (Nat.not_lt_zero _))
theorem cs_numT {w : World} {S : Nat → Prop} (n : Int) : CS w S (numT n) (cellV 0 (uw n) nob (.slice none 0 0)) := cs_num _ (uw_lt n)
theorem cs_txt {w : World} {S : Nat → Prop} (s : ByteArray) (h : s.size ≤ 9223372036854775807) : CS w S (.mk 1 0 s []) (cellV 1 0 s (.slice none 0 0)) :=
  CS.mk 1 0 s [] none 0 (fun _ => 0) (fun _ => 0) (fun _ => nob) (fun _ => .slice none 0 0) (by decide) (by decide) h (Nat.le_refl _) (by decide) (fun _ => rfl) (fun x e => by cases e) (fun x i e => by cases e) (fun i h => absurd h (Nat.not_lt_zero _))

/-- Cells that lie in a block are a list. -/
theorem cs_block {w : World} {S : Nat → Prop} {g cap : Nat} {cs : Array Value} {T : TypeId} {fr : Nat × Nat} {l : List Q4} {ts : List Tr} (hb : w.heap[g]? = some (.cells cs T fr)) (hc : cs.toList = qsL l) (hl : l.length = ts.length) (hcap : ts.length ≤ cap) (hcap2 : cap ≤ 9223372036854775807) (hg : S g)
    (kid : ∀ i (h : i < ts.length), CS w S ts[i] (l.getD i q0).v) : CS w S (lisT ts) (cellV 2 0 nob (.slice (some ⟨g, 0, none⟩) ts.length cap)) := by
  have hq := qsL_quads l
  rw [← hc, hl] at hq
  refine CS.mk 2 0 nob ts _ cap _ _ _ _ (by decide) (by decide) (by decide) hcap hcap2 (fun e => by cases e) (fun x e _ => by cases e; exact hg) (fun x i e hi => ?_) kid
  cases e
  refine ⟨rfl, ?_, ?_, ?_, ?_⟩
  · rw [Lib.cell_of_heap hb]; simp only [Nat.zero_add]; rw [← Array.getElem?_toList]; exact hq.q0 i hi
  · rw [Lib.cell_of_heap hb]; simp only [Nat.zero_add]; rw [← Array.getElem?_toList]; exact hq.q1 i hi
  · rw [Lib.cell_of_heap hb]; simp only [Nat.zero_add]; rw [← Array.getElem?_toList]; exact hq.q2 i hi
  · rw [Lib.cell_of_heap hb]; simp only [Nat.zero_add]; rw [← Array.getElem?_toList]; exact hq.q3 i hi

/-- A row of cells under way: it lies in the block b, or in one from B0 on, and so does what it holds. -/
def TR (B0 : Nat) (w : World) (b : Nat) (v : Value) (ts : List Tr) : Prop := TWz (fun _ k => B0 ≤ k) w b v ts ∧ ∀ k, v.ownBlock = some k → k = b ∨ B0 ≤ k
theorem TR.mono {B0 B1 : Nat} {w : World} {b : Nat} {v : Value} {ts : List Tr} (h : TR B0 w b v ts) (k : B1 ≤ B0) : TR B1 w b v ts := by
  obtain ⟨⟨xs, ks, ns, ss, us, h1, h2, h3⟩, h4⟩ := h
  refine ⟨⟨xs, ks, ns, ss, us, h1, h2, fun i hi => (h3 i hi).widen (fun k hk => ⟨hk.1, hk.2.1, hk.2.2.1, by omega⟩)⟩, fun k hk => ?_⟩
  rcases h4 k hk with e | e
  · exact Or.inl e
  · exact Or.inr (by omega)
theorem TR.nil {B0 : Nat} {w : World} {b : Nat} {T : Nat × Nat} (hb : w.heap[b]? = some (.cells #[] 42 T)) (hT : T = (0, 0)) : TR B0 w b (.slice (some ⟨b, 0, none⟩) 0 0) [] := by
  subst hT
  refine ⟨⟨[], fun _ => 0, fun _ => 0, fun _ => nob, fun _ => .slice none 0 0, ⟨rfl, Or.inr ⟨b, 0, #[], rfl, Nat.le_refl _, hb, Nat.le_refl _, by unfold maxLen; omega, rfl, rfl⟩⟩, ⟨fun i h => absurd h (Nat.not_lt_zero _), fun i h => absurd h (Nat.not_lt_zero _), fun i h => absurd h (Nat.not_lt_zero _), fun i h => absurd h (Nat.not_lt_zero _)⟩, fun i h => absurd h (Nat.not_lt_zero _)⟩, fun k hk => Or.inl ?_⟩
  simp [Value.ownBlock] at hk
  exact hk.symm
/-- Another row may grow beside it. -/
theorem TR.kb {B0 : Nat} {w w' : World} {b b' : Nat} {v : Value} {ts : List Tr} (h : TR B0 w b v ts) (k : Kb b' w w') (h1 : b' < B0) (h2 : b ≠ b') : TR B0 w' b v ts := by
  obtain ⟨⟨xs, ks, ns, ss, us, o1, o2, o3⟩, o4⟩ := h
  refine ⟨⟨xs, ks, ns, ss, us, ?_, o2, fun i hi => ?_⟩, o4⟩
  · cases e : v.ownBlock with
    | none =>
      obtain ⟨l1, l2⟩ := o1
      refine ⟨l1, ?_⟩
      rcases l2 with l2 | ⟨g, cap, cur, rfl, _⟩
      · exact Or.inl l2
      · simp [Value.ownBlock] at e
    | some g0 =>
      refine ownsRow_far o1 (k.block g0 (o1.lt g0 e).2 (fun q => ?_)) e
      rcases o4 g0 e with c | c <;> omega
  · have := (o3 i hi).kept (w' := w') (fun q hq => k.block q hq.2.2.1 (fun c => by have := hq.2.2.2; omega))
    exact this.widen (fun q hq => ⟨hq.1, hq.2.1, Nat.lt_of_lt_of_le hq.2.2.1 k.size, hq.2.2.2⟩)
/-- One more. -/
theorem TR.snoc {B0 : Nat} {w w1 : World} {b : Nat} {v : Value} {ts : List Tr} {t : Tr} {k : Int} {n : Nat} {s : ByteArray} {u : Value} (h : TR B0 w b v ts) (hB : b ≤ w.heap.size) (hB0 : B0 ≤ w.heap.size) (hb : Below w.heap.size w w1)
    (hc : CS w1 (fun k => w.heap.size ≤ k) t (cellV k n s u)) (o : Obj) :
    ∃ xs, ((w1.alloc o).ownsRow b 42 4 v ts.length xs) ∧ (∀ (w3 : World) (g cap : Nat), w3.ownsRow b 42 4 (.slice (some ⟨g, 0, none⟩) (ts.length + 1) cap) (ts.length + 1) (xs ++ quad k n s u) → (w1.alloc o).grownBy w3 v.ownBlock → (v.ownBlock = some g ∨ g = (w1.alloc o).heap.size) →
      TR B0 w3 b (.slice (some ⟨g, 0, none⟩) (ts.length + 1) cap) (ts ++ [t]) ∧ ∀ wq, Kb b wq w → wq.heap.size ≤ B0 → Kb b wq w3) := by
  obtain ⟨xs, o1, o2, o3⟩ := h.1.snocK (fun _ _ _ _ h => h) hB hb.size (fun k _ hk => hb.block k hk) (hc.widen (fun q hq => ⟨hq, by omega⟩)) o
  refine ⟨xs, o2, fun w3 g cap q1 q2 q3 => ⟨⟨o3 w3 g cap q1 q2 q3, fun q hq => ?_⟩, fun wq hk hqs => ?_⟩⟩
  · simp [Value.ownBlock] at hq
    subst hq
    rcases q3 with e | e
    · exact h.2 g e
    · refine Or.inr ?_
      have := hb.size
      simp at e
      omega
  · have hs1 := hb.size
    have hs2 : (w1.alloc o).heap.size = w1.heap.size + 1 := by simp
    refine ⟨q2.os.trans (hb.os.trans hk.os), q2.tape.trans (hb.tape.trans hk.tape), q2.output.trans (hb.output.trans hk.output), by have := q2.size; have := hk.size; omega, fun i hi hne => ?_⟩
    have hi2 : i < w.heap.size := Nat.lt_of_lt_of_le hi hk.size
    rw [q2.block i (by omega) (fun e => ?_), Below.heap_alloc w1 _ i (by omega), hb.block i hi2, hk.block i hi hne]
    rcases h.2 i e.symm with c | c
    · exact hne c
    · omega
end Pg

theorem uw_wrap (n : Int) : IntKind.u64.wrap n = ((uw n : Nat) : Int) := by
  rw [uw_val]
  rfl
theorem set4_block {w : World} {b : Nat} {T : TypeId} {x0 x1 x2 x3 : Value} (h : w.heap[b]? = some (.cells #[x0, x1, x2, x3] T (0, 0))) (v0 v1 v2 v3 : Value) :
    ((((w.setCell ⟨b, 0, none⟩ v0).setCell ⟨b, 1, none⟩ v1).setCell ⟨b, 2, none⟩ v2).setCell ⟨b, 3, none⟩ v3).heap[b]? = some (.cells #[v0, v1, v2, v3] T (0, 0)) := by
  have z1 := heap_setCell_same _ _ 0 _ _ v0 h
  have z2 := heap_setCell_same _ _ 1 _ _ v1 z1
  have z3 := heap_setCell_same _ _ 2 _ _ v2 z2
  exact heap_setCell_same _ _ 3 _ _ v3 z3
theorem set4_below {w w0 : World} {b B : Nat} (hb : Below B w0 w) (h : B ≤ b) (v0 v1 v2 v3 : Value) :
    Below B w0 ((((w.setCell ⟨b, 0, none⟩ v0).setCell ⟨b, 1, none⟩ v1).setCell ⟨b, 2, none⟩ v2).setCell ⟨b, 3, none⟩ v3) :=
  (((hb.setCell (p := ⟨b, 0, none⟩) h _).setCell (p := ⟨b, 1, none⟩) h _).setCell (p := ⟨b, 2, none⟩) h _).setCell (p := ⟨b, 3, none⟩) h _
theorem set4_other {w : World} {b k : Nat} (h : k ≠ b) (v0 v1 v2 v3 : Value) :
    ((((w.setCell ⟨b, 0, none⟩ v0).setCell ⟨b, 1, none⟩ v1).setCell ⟨b, 2, none⟩ v2).setCell ⟨b, 3, none⟩ v3).heap[k]? = w.heap[k]? := by
  rw [heap_setCell_other _ _ _ _ (by simpa using h), heap_setCell_other _ _ _ _ (by simpa using h), heap_setCell_other _ _ _ _ (by simpa using h), heap_setCell_other _ _ _ _ (by simpa using h)]
/-- What is in a block of four cells. -/
theorem block4 {w : World} {b : Nat} {T : TypeId} {fr : Nat × Nat} {x0 x1 x2 x3 : Value} (h : w.heap[b]? = some (.cells #[x0, x1, x2, x3] T fr)) :
    w.cell? ⟨b, 0, none⟩ = some x0 ∧ w.cell? ⟨b, 1, none⟩ = some x1 ∧ w.cell? ⟨b, 2, none⟩ = some x2 ∧ w.cell? ⟨b, 3, none⟩ = some x3 :=
  ⟨by rw [Lib.cell_of_heap h]; rfl, by rw [Lib.cell_of_heap h]; rfl, by rw [Lib.cell_of_heap h]; rfl, by rw [Lib.cell_of_heap h]; rfl⟩

set_option maxHeartbeats 1000000 in
theorem rnumber_any (n : Int) (w : World) :
    Calls Tryd.prog 54 #[.int .i64 n] w fun e w' => e = .returned (cellV 0 (uw n) nob (.slice none 0 0)) ∧ Below w.heap.size w w' := by
  have h1 := fun o : Obj => rfnumber_any (uw n) (w.alloc o)
  have hn := uw_wrap n
  have HB0 : Hid (∀ o : Obj, Below w.heap.size w (w.alloc o)) := fun o => (Below.refl _ w).alloc (Nat.le_refl _) o
  go_enter Tryd.func54, Tryd.ntmps54
  go_wp2_with fail
  refine (h1 _).mono ?_
  rintro e w2 ⟨rfl, hb⟩
  have hsz := hb.size
  have K := (hb.block w.heap.size (by simp)).trans (heap_alloc_new w _)
  obtain ⟨c0, c1, c2, c3⟩ := block4 K
  have fz := Lib.frozen_of_heap K
  have f0 := fz 0
  have f1 := fz 1
  have f2 := fz 2
  have f3 := fz 3
  have HK := hide_p (set4_block K (.int .i64 0) (.int .u64 (uw n)) (.string nob) (.slice none 0 0))
  have HB : Hid (Below w.heap.size w w2) := (HB0.out _).trans (hb.mono (by simp))
  clear K hb h1 fz hsz
  unfold cellV
  go_wp2
  exact bodyPost_ret (results_cell_row rfl _ _ w.heap.size _ _ _ _ rfl HK.out Tryd.underlying42 rfl info25) rfl ⟨rfl, set4_below HB.out (Nat.le_refl _) _ _ _ _⟩

end Go.Proofs.YtnigmiokadpajaaDoor
namespace Go.Proofs.YtnigmiokadpajaaDoor
set_option maxRecDepth 100000
open Go.RowKit Crc Pg

theorem heap_alloc_at (w : World) (k : Nat) (cs : Array Value) {t : TypeId} (h : w.heap.size = k) : (w.alloc (.cells cs t)).heap[k]? = some (.cells cs t (0, 0)) := by
  subst h
  exact heap_alloc_new w _
theorem keep2 {w w' : World} {B : Nat} {a1 a2 : Addr} {u1 u2 : Value} (h : w.cell? a1 = some u1 ∧ w.cell? a2 = some u2) (hb : Below B w w') (hB : w.heap.size ≤ B) : w'.cell? a1 = some u1 ∧ w'.cell? a2 = some u2 :=
  ⟨cell_kept hb hB h.1, cell_kept hb hB h.2⟩

theorem keep2g {w w' : World} {row : Option Nat} {B : Nat} {a1 a2 : Addr} {u1 u2 : Value} (h : w.cell? a1 = some u1 ∧ w.cell? a2 = some u2) (hg : w.grownBy w' row) (hr : ∀ k, row = some k → B ≤ k) (h1 : a1.block < B) (h2 : a2.block < B) : w'.cell? a1 = some u1 ∧ w'.cell? a2 = some u2 :=
  ⟨(hg.cell_far a1 (World.block_lt_of_cell? w a1 h.1) (fun e => by have := hr _ e.symm; omega)).trans h.1, (hg.cell_far a2 (World.block_lt_of_cell? w a2 h.2) (fun e => by have := hr _ e.symm; omega)).trans h.2⟩
theorem keep4 {w w' : World} {B : Nat} {a1 a2 a3 a4 : Addr} {u1 u2 u3 u4 : Value} (h : w.cell? a1 = some u1 ∧ w.cell? a2 = some u2 ∧ w.cell? a3 = some u3 ∧ w.cell? a4 = some u4) (hb : Below B w w') (hB : w.heap.size ≤ B) : w'.cell? a1 = some u1 ∧ w'.cell? a2 = some u2 ∧ w'.cell? a3 = some u3 ∧ w'.cell? a4 = some u4 :=
  ⟨cell_kept hb hB h.1, cell_kept hb hB h.2.1, cell_kept hb hB h.2.2.1, cell_kept hb hB h.2.2.2⟩
theorem keep4g {w w' : World} {row : Option Nat} {b j1 j2 j3 j4 : Nat} {u1 u2 u3 u4 : Value} (h : w.cell? ⟨b, j1, none⟩ = some u1 ∧ w.cell? ⟨b, j2, none⟩ = some u2 ∧ w.cell? ⟨b, j3, none⟩ = some u3 ∧ w.cell? ⟨b, j4, none⟩ = some u4) (hg : w.grownBy w' row) (hr : ∀ k, row = some k → k ≠ b) : w'.cell? ⟨b, j1, none⟩ = some u1 ∧ w'.cell? ⟨b, j2, none⟩ = some u2 ∧ w'.cell? ⟨b, j3, none⟩ = some u3 ∧ w'.cell? ⟨b, j4, none⟩ = some u4 := by
  have hlt := World.block_lt_of_cell? w _ h.1
  have hne : some b ≠ row := fun e => hr b e.symm rfl
  exact ⟨(hg.cell_far _ hlt hne).trans h.1, (hg.cell_far ⟨b, j2, none⟩ hlt hne).trans h.2.1, (hg.cell_far ⟨b, j3, none⟩ hlt hne).trans h.2.2.1, (hg.cell_far ⟨b, j4, none⟩ hlt hne).trans h.2.2.2⟩
theorem Pg.TR.ownlt {B0 : Nat} {w : World} {b : Nat} {v : Value} {ts : List Tr} (h : TR B0 w b v ts) : ∀ k, v.ownBlock = some k → b ≤ k ∧ k < w.heap.size := by
  obtain ⟨⟨xs, ks, ns, ss, us, o1, o2, o3⟩, o4⟩ := h
  exact fun k hk => o1.lt k hk
/-- A row of one number that was just made. -/
theorem tw_one (w2 : World) (n : Nat) (hn : n < 18446744073709551616) : TW (w2.alloc (.cells #[.int .i64 0, .int .u64 n, .string nob, .slice none 0 0] 42)) w2.heap.size (.slice (some ⟨w2.heap.size, 0, none⟩) 1 1) [.mk 0 n nob []] := by
  refine ⟨quad 0 n nob (.slice none 0 0), fun _ => 0, fun _ => n, fun _ => nob, fun _ => .slice none 0 0, ⟨rfl, Or.inr ⟨w2.heap.size, 1, #[.int .i64 0, .int .u64 n, .string nob, .slice none 0 0], rfl, Nat.le_refl _, heap_alloc_new w2 _, Nat.le_refl _, by unfold maxLen; omega, rfl, rfl⟩⟩, ⟨?_, ?_, ?_, ?_⟩, fun i hi => ?_⟩
  · intro i hi; have e : i = 0 := by simp at hi; exact hi
    subst e; rfl
  · intro i hi; have e : i = 0 := by simp at hi; exact hi
    subst e; rfl
  · intro i hi; have e : i = 0 := by simp at hi; exact hi
    subst e; rfl
  · intro i hi; have e : i = 0 := by simp at hi; exact hi
    subst e; rfl
  · have e : i = 0 := by simp at hi; exact hi
    subst e
    exact cs_num n hn
/-- A row that is shut, as a list, in a later world. -/
theorem tw_cs {w6 w7 : World} {B B' N cap : Nat} {a : Option Addr} {ts : List Tr} (h : TW w6 B (.slice a N cap) ts) (hN : N = ts.length) (hB : B' ≤ B) (hb : Below w6.heap.size w6 w7) : CS w7 (fun k => B' ≤ k) (lisT ts) (cellV 2 0 nob (.slice a N cap)) :=
  ((h.cs hN 2 0 nob (by decide) (by decide) (by decide)).real.kept (fun k hk => hb.block k hk.2)).widen (fun k hk => by have := hk.1; omega)
theorem Pg.TR.tw {B0 : Nat} {w : World} {b : Nat} {v : Value} {ts : List Tr} (h : TR B0 w b v ts) : TW w b v ts ∧ ∃ a c, v = .slice a ts.length c := by
  obtain ⟨⟨xs, ks, ns, ss, us, o1, o2, o3⟩, o4⟩ := h
  exact ⟨⟨xs, ks, ns, ss, us, o1, o2, fun i hi => (o3 i hi).widen (fun k hk => ⟨hk.1, hk.2.1, hk.2.2.1, trivial⟩)⟩, owns_form o1⟩
/-- A row, as a list, in a later world. -/
theorem Pg.TR.cs {B0 : Nat} {w w' : World} {b x N c : Nat} {a : Option Addr} {ts : List Tr} (h : TR B0 w b (.slice a N c) ts) (hN : N = ts.length) (hx : x < b) (k : Kb x w w') : CS w' (fun k => b ≤ k) (lisT ts) (cellV 2 0 nob (.slice a N c)) :=
  ((h.tw.1.cs hN 2 0 nob (by decide) (by decide) (by decide)).real.kept (fun q hq => k.block q hq.2 (by have := hq.1; omega))).widen (fun _ hk => hk.1)
theorem Pg.Kb.set4 {b : Nat} {x w : World} (h : Kb b x w) (v0 v1 v2 v3 : Value) : Kb b x ((((w.setCell ⟨b, 0, none⟩ v0).setCell ⟨b, 1, none⟩ v1).setCell ⟨b, 2, none⟩ v2).setCell ⟨b, 3, none⟩ v3) :=
  (((h.trans (Kb.set _ _ _ _)).trans (Kb.set _ _ _ _)).trans (Kb.set _ _ _ _)).trans (Kb.set _ _ _ _)
def nq (n : Int) : Q4 := ⟨0, uw n, nob, .slice none 0 0⟩
/-- A list of numbers that was just made. -/
theorem nums_cs {w2 w3 : World} {B cap : Nat} {l : List Int} {cs : Array Value} {T : TypeId} (hc : cs.toList = qsL (l.map nq)) (hB : B ≤ w2.heap.size) (hcap : l.length ≤ cap) (hcap2 : cap ≤ 9223372036854775807) (hb : Below (w2.alloc (.cells cs T)).heap.size (w2.alloc (.cells cs T)) w3) : CS w3 (fun k => B ≤ k) (lisT (l.map numT)) (cellV 2 0 nob (.slice (some ⟨w2.heap.size, 0, none⟩) l.length cap)) := by
  have h := cs_block (S := fun k => B ≤ k) (l := l.map nq) (ts := l.map numT) (cap := cap) ((hb.block w2.heap.size (by simp)).trans (heap_alloc_new w2 _)) hc (by simp) (by simpa using hcap) hcap2 hB (fun i hi => by
    have hi2 : i < l.length := by simpa using hi
    rw [List.getElem_map, List.getD_eq_getElem?_getD, List.getElem?_map, List.getElem?_eq_getElem hi2]
    exact cs_numT _)
  simpa using h

set_option maxHeartbeats 16000000 in
theorem rtoCell_any : ∀ (t : Pr) (x : Six) (W w : World), PR W t x → Below W.heap.size W w → t.cnt ≤ 100000 →
    Calls Tryd.prog 25 #[x.v] w fun e w' => ∃ v, e = .returned v ∧ CS w' (fun k => w.heap.size ≤ k) (cellT t) v ∧ Below w.heap.size w w' := by
  refine Pr.ind' fun pa rg us cs ks ps ih => ?_
  intro x W w h hW hcnt
  rw [PR_mk] at h
  obtain ⟨pa', rg', vu, vc, vk, vp⟩ := x
  simp only at h
  obtain ⟨rfl, rfl, hpa, hrg, hu, hc, hk, f, hp, hch⟩ := h
  obtain ⟨au, cu, rfl, lu1, lu2, -⟩ := hu.1.val
  obtain ⟨ac, cc, rfl, lc1, lc2, -⟩ := hc.1.val
  obtain ⟨ak, ck, rfl, lk1, lk2, -⟩ := hk.1.val
  obtain ⟨ap, cp, rfl, lp1, lp2, -⟩ := hp.val
  obtain ⟨i0, hi0, hz0, hz1, hz2⟩ := info_parts info25b
  rw [cellT_mk]
  rw [Pr.cnt_mk] at hcnt
  unfold Six.v
  simp only
  have HI : Hid _ := ih
  have HCH := (show Hid (∀ i (h : i < ps.length), PR W ps[i] (f i)) from hch)
  obtain ⟨nu, hnu⟩ : ∃ n, n = us.length := ⟨_, rfl⟩
  obtain ⟨nc, hnc⟩ : ∃ n, n = cs.length := ⟨_, rfl⟩
  obtain ⟨nk, hnk⟩ : ∃ n, n = ks.length := ⟨_, rfl⟩
  obtain ⟨np, hnp⟩ : ∃ n, n = ps.length := ⟨_, rfl⟩
  have HN : Hid (nu = us.length ∧ nc = cs.length ∧ nk = ks.length ∧ np = ps.length) := ⟨hnu, hnc, hnk, hnp⟩
  have HSP : Hid (SL W (.slice ap np cp) ps.length 6 (fun i j u => u = (f i).at j)) := by rw [hnp]; exact hp
  have HSU : Hid (SU W (.slice au nu cu) us) := by rw [hnu]; exact hu
  have HSC : Hid (SI W (.slice ac nc cc) cs) := by rw [hnc]; exact hc
  have HSK : Hid (SV W (.slice ak nk ck) ks) := by rw [hnk]; exact hk
  have HCN : Hid (pcnts ps ≤ 100000) := by show _ ≤ _; omega
  have hl1 : us.length ≤ 100000 := by omega
  have hl2 : cs.length ≤ 100000 := by omega
  have hl3 : ks.length ≤ 100000 := by omega
  have hl4 : ps.length ≤ 100000 := by have := plen_cnts ps; omega
  rw [← hnu, ← hnc, ← hnk, ← hnp]
  rw [← hnu] at hl1 lu1
  rw [← hnc] at hl2 lc1
  rw [← hnk] at hl3 lk1
  rw [← hnp] at hl4 lp1
  have HHW := hide_p hW
  clear hu hc hk hp hch ih hnu hnc hnk hnp hcnt hW
  obtain ⟨bx, hbx⟩ : ∃ bx, bx = w.heap.size := ⟨_, rfl⟩
  obtain ⟨w0, hw0⟩ : ∃ w0, w0 = (((((w.alloc (.cells #[.int .i64 pa', .int .i64 rg', .slice au nu cu, .slice ac nc cc, .slice ak nk ck, .slice ap np cp] 31)).alloc (.cells #[.int .i64 0, .int .u64 0, .string ⟨#[]⟩, .slice none 0 0] 42)).alloc (.cells #[] 42)).alloc (.cells #[] 42)).alloc (.cells #[] 42)).alloc (.cells #[] 42) := ⟨_, rfl⟩
  have hs0 : w0.heap.size = bx + 6 := by rw [hw0, hbx]; simp
  have HB0 : Hid (Below w.heap.size w w0) := by
    rw [hw0]
    exact ((((((Below.refl _ w).alloc (Nat.le_refl _) _).alloc (by simp) _).alloc (by simp; omega) _).alloc (by simp; omega) _).alloc (by simp; omega) _).alloc (by simp; omega) _
  have HA : Hid (w0.heap[bx]? = some (.cells #[.int .i64 pa', .int .i64 rg', .slice au nu cu, .slice ac nc cc, .slice ak nk ck, .slice ap np cp] 31 (0, 0)) ∧ w0.heap[bx + 1]? = some (.cells #[.int .i64 0, .int .u64 0, .string ⟨#[]⟩, .slice none 0 0] 42 (0, 0)) ∧ w0.heap[bx + 2]? = some (.cells #[] 42 (0, 0)) ∧ w0.heap[bx + 3]? = some (.cells #[] 42 (0, 0)) ∧ w0.heap[bx + 4]? = some (.cells #[] 42 (0, 0)) ∧ w0.heap[bx + 5]? = some (.cells #[] 42 (0, 0))) := by
    rw [hw0, hbx]
    refine ⟨?_, ?_, ?_, ?_, ?_, ?_⟩
    · rw [Below.heap_alloc _ _ _ (by (try simp); (try omega)), Below.heap_alloc _ _ _ (by (try simp); (try omega)), Below.heap_alloc _ _ _ (by (try simp); (try omega)), Below.heap_alloc _ _ _ (by (try simp); (try omega)), Below.heap_alloc _ _ _ (by simp)]
      exact heap_alloc_new w _
    · rw [Below.heap_alloc _ _ _ (by (try simp); (try omega)), Below.heap_alloc _ _ _ (by (try simp); (try omega)), Below.heap_alloc _ _ _ (by (try simp); (try omega)), Below.heap_alloc _ _ _ (by simp)]
      exact heap_alloc_at _ _ _ (by simp)
    · rw [Below.heap_alloc _ _ _ (by (try simp); (try omega)), Below.heap_alloc _ _ _ (by (try simp); (try omega)), Below.heap_alloc _ _ _ (by simp)]
      exact heap_alloc_at _ _ _ (by simp)
    · rw [Below.heap_alloc _ _ _ (by (try simp); (try omega)), Below.heap_alloc _ _ _ (by simp)]
      exact heap_alloc_at _ _ _ (by simp)
    · rw [Below.heap_alloc _ _ _ (by simp)]
      exact heap_alloc_at _ _ _ (by simp)
    · exact heap_alloc_at _ _ _ (by simp)
  go_enter Tryd.func25, Tryd.ntmps25
  go_upto_block 0 with fail
  rw [← hw0]
  simp only [Nat.add_assoc, Nat.reduceAdd] at *
  rw [← hbx]
  have HBX := hide_p hbx
  clear hw0 hbx
  have hub : ∀ i : Nat, i < nu → ∃ g o own pl, au = some ⟨g, o, none⟩ ∧ (us[i]? = some ⟨own, pl⟩) ∧ g < w.heap.size ∧ ∀ w', Below w.heap.size w w' → w'.cell? ⟨g, o + i * 2, none⟩ = some (.bool own) ∧ w'.cell? ⟨g, o + i * 2 + 1, none⟩ = some (.int .i64 pl) := by
    intro i hi
    have i1 : i < us.length := by rw [← HN.out.1]; exact hi
    obtain ⟨-, g, o, rfl, p, q, e, -, e0, e1⟩ := (HSU.out.kept HHW.out (Nat.le_refl _)).get i1
    exact ⟨g, o, p, q, rfl, by rw [List.getElem?_eq_getElem i1, e], World.block_lt_of_cell? w ⟨g, o + i * 2, none⟩ e0, fun w' hb => ⟨cell_kept hb (Nat.le_refl _) e0, cell_kept hb (Nat.le_refl _) e1⟩⟩
  have HUB := hide_p hub
  have HN1 : Hid (∀ (n : Int) (w : World), Calls Tryd.prog 54 #[.int .i64 n] w fun e w' => e = .returned (.agg #[.int .i64 0, .int .u64 (uw n), .string nob, .slice none 0 0]) ∧ Below w.heap.size w w') := rnumber_any
  have HL1 : Hid (∀ (a : Option Addr) (n cap : Nat) (w : World), Calls Tryd.prog 53 #[.slice a n cap] w fun e w' => e = .returned (.agg #[.int .i64 2, .int .u64 0, .string nob, .slice a n cap]) ∧ Below w.heap.size w w') := rflist_any
  clear hub
  go_cut [3] (fun t3 wc => Hid (TR (bx + 6) wc (bx + 2) t3 (us.map upT)) ∧ Hid (Kb (bx + 2) w0 wc))
  case first =>
    go_wp2_with fail
    go_loopw [3, 7] (fun t3 t7 wr => ∃ (i : Nat), i ≤ nu ∧ t7 = .int .i64 i ∧ Hid (TR (bx + 6) wr (bx + 2) t3 ((us.take i).map upT)) ∧ Hid (Kb (bx + 2) w0 wr)) (fun _ t7 _ => nu - (intOf t7).toNat)
    case atStart => exact ⟨0, Nat.zero_le _, rfl, TR.nil HA.out.2.2.1 rfl, Kb.refl _ _⟩
    case round =>
      obtain ⟨i, hi, rfl, HT, HK⟩ := hrel
      have b2 : wr.cell? ⟨bx, 2, none⟩ = some (.slice au nu cu) := HK.out.cell (by omega) (by omega) (by rw [Lib.cell_of_heap HA.out.1]; rfl)
      by_cases c : i < nu
      · have HBw : Hid (Below w.heap.size w wr) := HB0.out.trans (HK.out.below (by have := HBX.out; omega) (by have := HBX.out; omega))
        obtain ⟨g, o, own, pl, rfl, eu, hg, hcc⟩ := HUB.out i c
        obtain ⟨e0, e1⟩ := hcc wr HBw.out
        have hszr : bx + 6 ≤ wr.heap.size := by have := HK.out.size; omega
        have hlen : ((us.take i).map upT).length = i := by rw [List.length_map, List.length_take]; have := HN.out.1; omega
        have HTK : Hid ((us.take (i + 1)).map upT = (us.take i).map upT ++ [lisT [numT (if own then 1 else 0), numT pl]]) := by
          show _ = _
          have i1 : i < us.length := by rw [← HN.out.1]; exact c
          rw [List.take_succ_eq_append_getElem i1, List.map_append]
          rw [List.getElem?_eq_getElem i1] at eu
          injection eu with eu
          rw [eu]
          rfl
        have HGX : Hid (g < bx) := by have := HBX.out; show _ < _; omega
        clear hcc eu
        obtain ⟨ow, how⟩ : ∃ ow : Int, ow = if own then 1 else 0 := ⟨_, rfl⟩
        rw [← how] at HTK
        go_upto_if 31 with fail
        go_cut [8] (fun t8 wc => t8 = .int .i64 ow ∧ wc = wr)
        case first =>
          cases own
          · go_wp2_with fail
            go_meet
            exact ⟨by rw [how]; rfl, rfl⟩
          · go_wp2_with fail
            go_meet
            exact ⟨by rw [how]; rfl, rfl⟩
        case rest =>
          obtain ⟨rfl, hwc⟩ := hcut
          rw [hwc]
          clear hwc
          have q2 : wr.drew.cell? ⟨bx, 2, none⟩ = some (.slice (some ⟨g, o, none⟩) nu cu) := b2
          have q3 : wr.drew.cell? ⟨g, o + i * 2 + 1, none⟩ = some (.int .i64 pl) := e1
          clear e0 e1 b2 how
          go_wp2_with fail
          have hq0 : Below wr.heap.size wr wr.drew := (Below.refl _ _).drew
          go_region_held3 (fun w' => w'.cell? ⟨bx, 2, none⟩ = some (.slice (some ⟨g, o, none⟩) nu cu) ∧ w'.cell? ⟨g, o + i * 2 + 1, none⟩ = some (.int .i64 pl))
            (first
              | exact keep2g (B := bx + 2) (by assumption) hgrow (fun k hk => (ho.lt k hk).1) (by show bx < bx + 2; omega) (by show g < bx + 2; have := HGX.out; omega)
              | exact keep2 (by assumption) hbS (Nat.le_refl _)
              | go_keep)
            (first
              | (go_at_call 54; refine (HN1.out _ _).mono ?_; rintro e w2 ⟨rfl, hbS⟩; have hq := Below.trans (by assumption) (hbS.mono (Below.size (by assumption))))
              | (go_at_call 53; refine (HL1.out _ _ _ _).mono ?_; rintro e w3 ⟨rfl, hbS⟩; have hcs := nums_cs (l := [ow, pl]) (B := wr.heap.size) rfl hq.size (Nat.le_refl 2) (by decide) hbS; have hq3 := (hq.alloc hq.size _).trans (hbS.mono (by simp; have := hq.size; omega)); obtain ⟨xs, ho, hnx⟩ := HT.out.snoc (by omega) (by omega) hq3 hcs (.cells #[.int .i64 2, .int .u64 0, .string nob, .slice (some ⟨w2.heap.size, 0, none⟩) 2 2] 42); rw [hlen] at ho hnx)
              | (refine step_append_lies _ (by rfl) _ _ 40 (by rfl) (bx + 2) 42 i0 _ 4 56 Tryd.underlying40 hi0 hz0 hz1 hz2 rfl (by decide) _ i xs (by rfl) ho ⟨w3.heap.size, 0, none⟩ 1 1 (quad 2 0 nob (.slice (some ⟨w2.heap.size, 0, none⟩) 2 2)) (by rfl) rfl (cells_quad _ _ _ _ _ _) (by intro u hu; simp [quad] at hu; rcases hu with rfl | rfl | rfl | rfl <;> rfl) (by decide) (by unfold maxLen; omega) (by omega) (by have := hq3.size; simp; omega) _ rfl ?_; intro g3 cap3 w4 hown hgrow hat hlt))
          obtain ⟨ht4, hk4⟩ := hnx w4 g3 cap3 hown hgrow (by simpa using hat)
          have HT4 : Hid (TR (bx + 6) w4 (bx + 2) (.slice (some ⟨g3, 0, none⟩) (i + 1) cap3) ((us.take (i + 1)).map upT)) := by
            show TR _ _ _ _ _
            rw [HTK.out]
            exact ht4
          have HK4 : Hid (Kb (bx + 2) w0 w4) := hk4 w0 HK.out (by omega)
          clear ht4 hk4 hnx hown hgrow hat hlt hq3 hcs ho
          go_wp2
          go_roundw
          case rel => exact ⟨i + 1, by omega, by go_num, HT4, HK4⟩
          case measure => simp [intOf]; omega
      · have e : i = nu := by omega
        have et : us.take i = us := List.take_of_length_le (by have := HN.out.1; omega)
        rw [et] at HT
        subst e
        go_wp2_with fail
        go_meet
        exact ⟨HT, HK⟩
  case rest =>
    obtain ⟨HT1, HK1⟩ := hcut
    have hs1 : bx + 6 ≤ wc.heap.size := by have := HK1.out.size; omega
    obtain ⟨B1, hB1⟩ : ∃ B1, B1 = wc.heap.size := ⟨_, rfl⟩
    have HE1 : Hid (B1 = wc.heap.size) := hB1
    rw [← hB1] at hs1
    have HB1 : Hid (Below w.heap.size w wc) := HB0.out.trans (HK1.out.below (by have := HBX.out; omega) (by have := HBX.out; omega))
    have HA1 : Hid (wc.heap[bx]? = w0.heap[bx]? ∧ wc.heap[bx + 1]? = w0.heap[bx + 1]? ∧ wc.heap[bx + 3]? = w0.heap[bx + 3]? ∧ wc.heap[bx + 4]? = w0.heap[bx + 4]? ∧ wc.heap[bx + 5]? = w0.heap[bx + 5]?) :=
      ⟨HK1.out.block _ (by omega) (by omega), HK1.out.block _ (by omega) (by omega), HK1.out.block _ (by omega) (by omega), HK1.out.block _ (by omega) (by omega), HK1.out.block _ (by omega) (by omega)⟩
    have hcb : ∀ i : Nat, i < nc → ∃ g o p q r s, ac = some ⟨g, o, none⟩ ∧ (cs[i]? = some ⟨p, q, r, s⟩) ∧ ∀ w', Below w.heap.size w w' → w'.cell? ⟨g, o + i * 4, none⟩ = some (.int .i64 p) ∧ w'.cell? ⟨g, o + i * 4 + 1, none⟩ = some (.int .i64 q) ∧ w'.cell? ⟨g, o + i * 4 + 2, none⟩ = some (.int .i64 r) ∧ w'.cell? ⟨g, o + i * 4 + 3, none⟩ = some (.int .i64 s) := by
      intro i hi
      have i1 : i < cs.length := by rw [← HN.out.2.1]; exact hi
      obtain ⟨-, g, o, rfl, p, q, r, s, e, -, e0, e1, e2, e3⟩ := (HSC.out.kept HHW.out (Nat.le_refl _)).get i1
      exact ⟨g, o, p, q, r, s, rfl, by rw [List.getElem?_eq_getElem i1, e], fun w' hb => keep4 ⟨e0, e1, e2, e3⟩ hb (Nat.le_refl _)⟩
    have HCB := hide_p hcb
    clear hcb hB1
    go_upto_block 2 with fail
    go_cut [4] (fun t4 wd => Hid (TR B1 wd (bx + 3) t4 (cs.map insT)) ∧ Hid (Kb (bx + 3) wc wd))
    case first =>
      go_wp2_with fail
      go_loopw [4, 9] (fun t4 t9 wr => ∃ (i : Nat), i ≤ nc ∧ t9 = .int .i64 i ∧ Hid (TR B1 wr (bx + 3) t4 ((cs.take i).map insT)) ∧ Hid (Kb (bx + 3) wc wr)) (fun _ t9 _ => nc - (intOf t9).toNat)
      case atStart => exact ⟨0, Nat.zero_le _, rfl, TR.nil (HA1.out.2.2.1.trans HA.out.2.2.2.1) rfl, Kb.refl _ _⟩
      case round =>
        obtain ⟨i, hi, rfl, HT, HK⟩ := hrel
        have b3 : wr.cell? ⟨bx, 3, none⟩ = some (.slice ac nc cc) := HK.out.cell (by have := HE1.out; omega) (by omega) (by rw [Lib.cell_of_heap (HA1.out.1.trans HA.out.1)]; rfl)
        by_cases c : i < nc
        · have hszr : B1 ≤ wr.heap.size := by have := HK.out.size; have := HE1.out; omega
          have HBw : Hid (Below w.heap.size w wr) := HB1.out.trans (HK.out.below (by have := HBX.out; omega) (by have := HBX.out; have := HE1.out; omega))
          obtain ⟨g, o, p, q, r, s, rfl, eu, hcc⟩ := HCB.out i c
          obtain ⟨e0, e1, e2, e3⟩ := hcc wr HBw.out
          have hlen : ((cs.take i).map insT).length = i := by rw [List.length_map, List.length_take]; have := HN.out.2.1; omega
          have HTK : Hid ((cs.take (i + 1)).map insT = (cs.take i).map insT ++ [lisT [numT p, numT q, numT r, numT s]]) := by
            show _ = _
            have i1 : i < cs.length := by rw [← HN.out.2.1]; exact c
            rw [List.take_succ_eq_append_getElem i1, List.map_append]
            rw [List.getElem?_eq_getElem i1] at eu
            injection eu with eu
            rw [eu]
            rfl
          have HOL : Hid (∀ k, u4.ownBlock = some k → k ≠ wr.heap.size) := fun k hk => by have := (HT.out.ownlt k hk).2; omega
          clear hcc eu
          go_wp2_with fail
          generalize hWq : World.alloc wr _ = wq
          have hqa : Below wr.heap.size wr wq := by rw [← hWq]; exact (Below.refl _ _).alloc (Nat.le_refl _) _
          have hq0 : Below wr.heap.size wr wq.drew := hqa.drew
          have hbk : wq.drew.heap[wr.heap.size]? = some (.cells #[.int .i64 p, .int .i64 q, .int .i64 r, .int .i64 s] 53 (0, 0)) := by rw [← hWq]; exact heap_alloc_new wr _
          obtain ⟨y0, y1, y2, y3⟩ := block4 hbk
          clear e0 e1 e2 e3 b3 hbk hWq hqa
          go_region_held3 (fun w' => w'.cell? ⟨wr.heap.size, 0, none⟩ = some (.int .i64 p) ∧ w'.cell? ⟨wr.heap.size, 1, none⟩ = some (.int .i64 q) ∧ w'.cell? ⟨wr.heap.size, 2, none⟩ = some (.int .i64 r) ∧ w'.cell? ⟨wr.heap.size, 3, none⟩ = some (.int .i64 s))
            (first
              | exact keep4g (by assumption) hgrow HOL.out
              | exact keep4 (by assumption) hbS (Nat.le_refl _)
              | go_keep)
            (first
              | (go_at_call 54; refine (HN1.out _ _).mono ?_; rintro e w2 ⟨rfl, hbS⟩; have hq := Below.trans (by assumption) (hbS.mono (Below.size (by assumption))))
              | (go_at_call 53; refine (HL1.out _ _ _ _).mono ?_; rintro e w3 ⟨rfl, hbS⟩; have hcs := nums_cs (l := [p, q, r, s]) (B := wr.heap.size) rfl hq.size (Nat.le_refl 4) (by decide) hbS; have hq3 := (hq.alloc hq.size _).trans (hbS.mono (by simp; have := hq.size; omega)); obtain ⟨xs, ho, hnx⟩ := HT.out.snoc (by omega) (by omega) hq3 hcs (.cells #[.int .i64 2, .int .u64 0, .string nob, .slice (some ⟨w2.heap.size, 0, none⟩) 4 4] 42); rw [hlen] at ho hnx)
              | (refine step_append_lies _ (by rfl) _ _ 40 (by rfl) (bx + 3) 42 i0 _ 4 56 Tryd.underlying40 hi0 hz0 hz1 hz2 rfl (by decide) _ i xs (by rfl) ho ⟨w3.heap.size, 0, none⟩ 1 1 (quad 2 0 nob (.slice (some ⟨w2.heap.size, 0, none⟩) 4 4)) (by rfl) rfl (cells_quad _ _ _ _ _ _) (by intro u hu; simp [quad] at hu; rcases hu with rfl | rfl | rfl | rfl <;> rfl) (by decide) (by unfold maxLen; omega) (by omega) (by have := hq3.size; simp; omega) _ rfl ?_; intro g3 cap3 w4 hown hgrow hat hlt))
          obtain ⟨ht4, hk4⟩ := hnx w4 g3 cap3 hown hgrow (by simpa using hat)
          have HT4 : Hid (TR B1 w4 (bx + 3) (.slice (some ⟨g3, 0, none⟩) (i + 1) cap3) ((cs.take (i + 1)).map insT)) := by
            show TR _ _ _ _ _
            rw [HTK.out]
            exact ht4
          have HK4 : Hid (Kb (bx + 3) wc w4) := hk4 wc HK.out (by have := HE1.out; omega)
          clear ht4 hk4 hnx hown hgrow hat hlt hq3 hcs ho
          go_wp2
          go_roundw
          case rel => exact ⟨i + 1, by omega, by go_num, HT4, HK4⟩
          case measure => simp [intOf]; omega
        · have e : i = nc := by omega
          have et : cs.take i = cs := List.take_of_length_le (by have := HN.out.2.1; omega)
          rw [et] at HT
          subst e
          go_wp2_with fail
          go_meet
          exact ⟨HT, HK⟩
    case rest =>
      obtain ⟨HT2, HK2⟩ := hcut
      have HT1' := hide_p (HT1.out.kb HK2.out (by omega) (by omega))
      clear HT1
      have HB2 : Hid (Below w.heap.size w wc) := HB1.out.trans (HK2.out.below (by have := HBX.out; omega) (by have := HBX.out; have := HE1.out; omega))
      have HA2 : Hid (wc.heap[bx]? = w0.heap[bx]? ∧ wc.heap[bx + 1]? = w0.heap[bx + 1]? ∧ wc.heap[bx + 4]? = w0.heap[bx + 4]? ∧ wc.heap[bx + 5]? = w0.heap[bx + 5]?) := by
        have hE := HE1.out
        exact ⟨(HK2.out.block _ (by omega) (by omega)).trans HA1.out.1, (HK2.out.block _ (by omega) (by omega)).trans HA1.out.2.1, (HK2.out.block _ (by omega) (by omega)).trans HA1.out.2.2.2.1, (HK2.out.block _ (by omega) (by omega)).trans HA1.out.2.2.2.2⟩
      obtain ⟨B2, hB2⟩ : ∃ B2, B2 = wc.heap.size := ⟨_, rfl⟩
      have HE2 : Hid (B2 = wc.heap.size) := hB2
      have hs2 : B1 ≤ B2 := by have := HK2.out.size; have := HE1.out; omega
      have hkb : ∀ i : Nat, i < nk → ∃ g o p qn r s, ak = some ⟨g, o, none⟩ ∧ (ks[i]? = some ⟨p, ((qn : Nat) : Int), r, s⟩) ∧ qn < 18446744073709551616 ∧ r.size ≤ 9223372036854775807 ∧ ∀ w', Below w.heap.size w w' → w'.cell? ⟨g, o + i * 4, none⟩ = some (.int .i64 p) ∧ w'.cell? ⟨g, o + i * 4 + 1, none⟩ = some (.int .u64 (qn : Int)) ∧ w'.cell? ⟨g, o + i * 4 + 2, none⟩ = some (.string r) ∧ w'.cell? ⟨g, o + i * 4 + 3, none⟩ = some (.int .i64 s) := by
        intro i hi
        have i1 : i < ks.length := by rw [← HN.out.2.2.1]; exact hi
        obtain ⟨-, g, o, rfl, p, q, r, s, e, ⟨-, hq, hr, -⟩, e0, e1, e2, e3⟩ := (HSK.out.kept HHW.out (Nat.le_refl _)).get i1
        obtain ⟨qn, rfl⟩ : ∃ qn : Nat, q = qn := ⟨q.toNat, by omega⟩
        exact ⟨g, o, p, qn, r, s, rfl, by rw [List.getElem?_eq_getElem i1, e], by omega, by unfold far at hr; omega, fun w' hb => keep4 ⟨e0, e1, e2, e3⟩ hb (Nat.le_refl _)⟩
      have HKB := hide_p hkb
      have HM1 : Hid (∀ (n : Nat) (w : World), Calls Tryd.prog 55 #[.int .u64 n] w fun e w' => e = .returned (.agg #[.int .i64 0, .int .u64 n, .string nob, .slice none 0 0]) ∧ Below w.heap.size w w') := rfnumber_any
      have HX1 : Hid (∀ (r : ByteArray) (w : World), Calls Tryd.prog 56 #[.string r] w fun e w' => e = .returned (.agg #[.int .i64 1, .int .u64 0, .string r, .slice none 0 0]) ∧ Below w.heap.size w w') := rftext_any
      clear hkb hB2
      go_upto_block 4 with fail
      go_cut [5] (fun t5 wd => Hid (TR B2 wd (bx + 4) t5 (ks.map vlT)) ∧ Hid (Kb (bx + 4) wc wd))
      case first =>
        go_wp2_with fail
        go_loopw [5, 11] (fun t5 t11 wr => ∃ (i : Nat), i ≤ nk ∧ t11 = .int .i64 i ∧ Hid (TR B2 wr (bx + 4) t5 ((ks.take i).map vlT)) ∧ Hid (Kb (bx + 4) wc wr)) (fun _ t11 _ => nk - (intOf t11).toNat)
        case atStart => exact ⟨0, Nat.zero_le _, rfl, TR.nil (HA2.out.2.2.1.trans HA.out.2.2.2.2.1) rfl, Kb.refl _ _⟩
        case round =>
          obtain ⟨i, hi, rfl, HT, HK⟩ := hrel
          have b4 : wr.cell? ⟨bx, 4, none⟩ = some (.slice ak nk ck) := HK.out.cell (by have := HE2.out; omega) (by omega) (by rw [Lib.cell_of_heap (HA2.out.1.trans HA.out.1)]; rfl)
          by_cases c : i < nk
          · have hszr : B2 ≤ wr.heap.size := by have := HK.out.size; have := HE2.out; omega
            have HBw : Hid (Below w.heap.size w wr) := HB2.out.trans (HK.out.below (by have := HBX.out; omega) (by have := HBX.out; have := HE2.out; omega))
            obtain ⟨g, o, p, qn, r, s, rfl, eu, hqn, hr9, hcc⟩ := HKB.out i c
            obtain ⟨e0, e1, e2, e3⟩ := hcc wr HBw.out
            have hlen : ((ks.take i).map vlT).length = i := by rw [List.length_map, List.length_take]; have := HN.out.2.2.1; omega
            have HTK : Hid ((ks.take (i + 1)).map vlT = (ks.take i).map vlT ++ [vlT ⟨p, (qn : Int), r, s⟩]) := by
              show _ = _
              have i1 : i < ks.length := by rw [← HN.out.2.2.1]; exact c
              rw [List.take_succ_eq_append_getElem i1, List.map_append]
              rw [List.getElem?_eq_getElem i1] at eu
              injection eu with eu
              rw [eu]
              rfl
            clear hcc eu
            go_wp2_with fail
            refine (HN1.out _ _).mono ?_
            rintro e w2 ⟨rfl, hb2⟩
            have HQ2 : Hid (Below wr.heap.size wr w2) := ((Below.refl _ wr).alloc (Nat.le_refl _) _).trans (hb2.mono (by simp))
            have hw2 : wr.heap.size < w2.heap.size := by have := hb2.size; simp at this; omega
            obtain ⟨x0, x1, x2, x3⟩ := block4 ((hb2.block wr.heap.size (by simp)).trans (heap_alloc_new wr _))
            have y0 : (w2.alloc (.cells #[.int .i64 0, .int .u64 (uw p), .string nob, .slice none 0 0] 42)).cell? ⟨wr.heap.size, 0, none⟩ = some (.int .i64 p) := (World.cell?_alloc_lt _ _ _ hw2).trans x0
            have y1 : (w2.alloc (.cells #[.int .i64 0, .int .u64 (uw p), .string nob, .slice none 0 0] 42)).cell? ⟨wr.heap.size, 1, none⟩ = some (.int .u64 qn) := (World.cell?_alloc_lt _ _ _ hw2).trans x1
            have y2 : (w2.alloc (.cells #[.int .i64 0, .int .u64 (uw p), .string nob, .slice none 0 0] 42)).cell? ⟨wr.heap.size, 2, none⟩ = some (.string r) := (World.cell?_alloc_lt _ _ _ hw2).trans x2
            have y3 : True := trivial
            have HL := hide_p (tw_one w2 (uw p) (uw_lt p))
            have HQ : Hid (Below wr.heap.size wr (w2.alloc (.cells #[.int .i64 0, .int .u64 (uw p), .string nob, .slice none 0 0] 42))) := HQ2.out.alloc (by omega) _
            clear e0 e1 e2 e3 b4 x0 x1 x2 x3 hb2 HQ2
            by_cases c3 : p = 3
            · have hpk : vlT ⟨p, (qn : Int), r, s⟩ = lisT [numT 3, .mk 0 qn nob []] := by rw [c3]; rfl
              rw [hpk] at HTK
              subst c3
              go_wp2_with fail
              refine (HM1.out qn _).mono ?_
              rintro e w5 ⟨rfl, hb5⟩
              obtain ⟨xs, -, ho, hnx⟩ := HL.out.snoc (by simp) hb5 (cs_num qn (by omega)) (.cells #[.int .i64 0, .int .u64 qn, .string nob, .slice none 0 0] 42)
              have HNX := hide_p hnx
              have hs5 := hb5.size
              have HQ5 : Hid (Below wr.heap.size wr w5) := HQ.out.trans (hb5.mono HQ.out.size)
              have z0 : w5.cell? ⟨wr.heap.size, 0, none⟩ = some (.int .i64 3) := cell_kept hb5 (Nat.le_refl _) y0
              have hs6 : w2.heap.size + 1 ≤ w5.heap.size := by simpa using hs5
              have hlt5 : wr.heap.size < w5.heap.size := by omega
              clear hb5 hnx hs5 HL HQ y0 y1 y2 y3
              go_wp2_with (at_builtin; refine wpList_append_lies _ rfl _ _ 40 rfl w2.heap.size 42 i0 _ 4 56 Tryd.underlying40 hi0 hz0 hz1 hz2 rfl (by decide) _ 1 xs rfl ho ⟨w5.heap.size, 0, none⟩ 1 1 (quad 0 qn nob (.slice none 0 0)) rfl rfl (cells_quad _ _ _ _ _ _) (by intro u hu; simp [quad] at hu; rcases hu with rfl | rfl | rfl | rfl <;> rfl) (by decide) (by unfold maxLen; omega) (by omega) (by simp; omega) _ rfl ?_)
              intro g6 cap6 w6 hown hgrow hat hlt
              have HL : Hid (TW w6 w2.heap.size (.slice (some ⟨g6, 0, none⟩) 2 cap6) [numT 3, .mk 0 qn nob []]) := HNX.out w6 g6 cap6 hown hgrow (by simpa using hat)
              have HQ : Hid (Below wr.heap.size wr w6) := (HQ5.out.alloc (by omega) _).grown hgrow (by simp; omega) (fun k hk => by have := (ho.lt k hk).1; omega)
              have y0 : w6.cell? ⟨wr.heap.size, 0, none⟩ = some (.int .i64 3) := by
                rw [hgrow.cell_far ⟨wr.heap.size, 0, none⟩ (by simp; omega) (fun e => by have := (ho.lt _ e.symm).1; simp at this; omega), World.cell?_alloc_lt _ _ _ hlt5]
                exact z0
              clear HNX hown hgrow hat hlt ho z0 HQ5
              go_wp2_with fail
              refine (HL1.out _ _ _ _).mono ?_
              rintro e w7 ⟨rfl, hb7⟩
              have hcs := tw_cs HL.out rfl (B' := wr.heap.size) (by omega) hb7
              have hq7 : Below wr.heap.size wr w7 := HQ.out.trans (hb7.mono HQ.out.size)
              obtain ⟨xs, ho, hnx⟩ := HT.out.snoc (by omega) (by omega) hq7 hcs (.cells #[.int .i64 2, .int .u64 0, .string nob, .slice (some ⟨g6, 0, none⟩) 2 cap6] 42)
              rw [hlen] at ho hnx
              have HNX := hide_p hnx
              have hs7 := hq7.size
              clear hb7 hcs hnx hq7
              go_wp2_with (at_builtin; refine wpList_append_lies _ rfl _ _ 40 rfl (bx + 4) 42 i0 _ 4 56 Tryd.underlying40 hi0 hz0 hz1 hz2 rfl (by decide) _ i xs rfl ho ⟨w7.heap.size, 0, none⟩ 1 1 (quad 2 0 nob (.slice (some ⟨g6, 0, none⟩) 2 cap6)) rfl rfl (cells_quad _ _ _ _ _ _) (by intro u hu; simp [quad] at hu; rcases hu with rfl | rfl | rfl | rfl <;> rfl) (by decide) (by unfold maxLen; omega) (by omega) (by simp; omega) _ rfl ?_)
              intro g8 cap8 w8 hown hgrow hat hlt
              obtain ⟨ht8, hk8⟩ := HNX.out w8 g8 cap8 hown hgrow (by simpa using hat)
              have HT8 : Hid (TR B2 w8 (bx + 4) (.slice (some ⟨g8, 0, none⟩) (i + 1) cap8) ((ks.take (i + 1)).map vlT)) := by
                show TR _ _ _ _ _
                rw [HTK.out]
                exact ht8
              have HK8 : Hid (Kb (bx + 4) wc w8) := hk8 wc HK.out (by have := HE2.out; omega)
              clear ht8 hk8 HNX hown hgrow hat hlt ho
              go_wp2
              go_roundw
              case rel => exact ⟨i + 1, by omega, by go_num, HT8, HK8⟩
              case measure => simp [intOf]; omega
            · by_cases c4 : p = 4
              · have hpk : vlT ⟨p, (qn : Int), r, s⟩ = lisT [numT 4, .mk 1 0 r []] := by rw [c4]; rfl
                rw [hpk] at HTK
                subst c4
                go_wp2_with fail
                refine (HX1.out r _).mono ?_
                rintro e w5 ⟨rfl, hb5⟩
                obtain ⟨xs, -, ho, hnx⟩ := HL.out.snoc (by simp) hb5 (cs_txt r hr9) (.cells #[.int .i64 1, .int .u64 0, .string r, .slice none 0 0] 42)
                have HNX := hide_p hnx
                have hs5 := hb5.size
                have HQ5 : Hid (Below wr.heap.size wr w5) := HQ.out.trans (hb5.mono HQ.out.size)
                have z0 : w5.cell? ⟨wr.heap.size, 0, none⟩ = some (.int .i64 4) := cell_kept hb5 (Nat.le_refl _) y0
                have hs6 : w2.heap.size + 1 ≤ w5.heap.size := by simpa using hs5
                have hlt5 : wr.heap.size < w5.heap.size := by omega
                clear hb5 hnx hs5 HL HQ y0 y1 y2 y3
                go_wp2_with (at_builtin; refine wpList_append_lies _ rfl _ _ 40 rfl w2.heap.size 42 i0 _ 4 56 Tryd.underlying40 hi0 hz0 hz1 hz2 rfl (by decide) _ 1 xs rfl ho ⟨w5.heap.size, 0, none⟩ 1 1 (quad 1 0 r (.slice none 0 0)) rfl rfl (cells_quad _ _ _ _ _ _) (by intro u hu; simp [quad] at hu; rcases hu with rfl | rfl | rfl | rfl <;> rfl) (by decide) (by unfold maxLen; omega) (by omega) (by simp; omega) _ rfl ?_)
                intro g6 cap6 w6 hown hgrow hat hlt
                have HL : Hid (TW w6 w2.heap.size (.slice (some ⟨g6, 0, none⟩) 2 cap6) [numT 4, .mk 1 0 r []]) := HNX.out w6 g6 cap6 hown hgrow (by simpa using hat)
                have HQ : Hid (Below wr.heap.size wr w6) := (HQ5.out.alloc (by omega) _).grown hgrow (by simp; omega) (fun k hk => by have := (ho.lt k hk).1; omega)
                have y0 : w6.cell? ⟨wr.heap.size, 0, none⟩ = some (.int .i64 4) := by
                  rw [hgrow.cell_far ⟨wr.heap.size, 0, none⟩ (by simp; omega) (fun e => by have := (ho.lt _ e.symm).1; simp at this; omega), World.cell?_alloc_lt _ _ _ hlt5]
                  exact z0
                clear HNX hown hgrow hat hlt ho z0 HQ5
                go_wp2_with fail
                refine (HL1.out _ _ _ _).mono ?_
                rintro e w7 ⟨rfl, hb7⟩
                have hcs := tw_cs HL.out rfl (B' := wr.heap.size) (by omega) hb7
                have hq7 : Below wr.heap.size wr w7 := HQ.out.trans (hb7.mono HQ.out.size)
                obtain ⟨xs, ho, hnx⟩ := HT.out.snoc (by omega) (by omega) hq7 hcs (.cells #[.int .i64 2, .int .u64 0, .string nob, .slice (some ⟨g6, 0, none⟩) 2 cap6] 42)
                rw [hlen] at ho hnx
                have HNX := hide_p hnx
                have hs7 := hq7.size
                clear hb7 hcs hnx hq7
                go_wp2_with (at_builtin; refine wpList_append_lies _ rfl _ _ 40 rfl (bx + 4) 42 i0 _ 4 56 Tryd.underlying40 hi0 hz0 hz1 hz2 rfl (by decide) _ i xs rfl ho ⟨w7.heap.size, 0, none⟩ 1 1 (quad 2 0 nob (.slice (some ⟨g6, 0, none⟩) 2 cap6)) rfl rfl (cells_quad _ _ _ _ _ _) (by intro u hu; simp [quad] at hu; rcases hu with rfl | rfl | rfl | rfl <;> rfl) (by decide) (by unfold maxLen; omega) (by omega) (by simp; omega) _ rfl ?_)
                intro g8 cap8 w8 hown hgrow hat hlt
                obtain ⟨ht8, hk8⟩ := HNX.out w8 g8 cap8 hown hgrow (by simpa using hat)
                have HT8 : Hid (TR B2 w8 (bx + 4) (.slice (some ⟨g8, 0, none⟩) (i + 1) cap8) ((ks.take (i + 1)).map vlT)) := by
                  show TR _ _ _ _ _
                  rw [HTK.out]
                  exact ht8
                have HK8 : Hid (Kb (bx + 4) wc w8) := hk8 wc HK.out (by have := HE2.out; omega)
                clear ht8 hk8 HNX hown hgrow hat hlt ho
                go_wp2
                go_roundw
                case rel => exact ⟨i + 1, by omega, by go_num, HT8, HK8⟩
                case measure => simp [intOf]; omega
              · have hpk : vlT ⟨p, (qn : Int), r, s⟩ = lisT [numT p] := by unfold vlT; simp only [c3, c4, if_false]
                rw [hpk] at HTK
                go_wp2_with fail
                refine (HL1.out _ _ _ _).mono ?_
                rintro e w7 ⟨rfl, hb7⟩
                have hcs := tw_cs HL.out rfl (B' := wr.heap.size) (by omega) hb7
                have hq7 : Below wr.heap.size wr w7 := HQ.out.trans (hb7.mono HQ.out.size)
                obtain ⟨xs, ho, hnx⟩ := HT.out.snoc (by omega) (by omega) hq7 hcs (.cells #[.int .i64 2, .int .u64 0, .string nob, .slice (some ⟨w2.heap.size, 0, none⟩) 1 1] 42)
                rw [hlen] at ho hnx
                have HNX := hide_p hnx
                have hs7 := hq7.size
                clear hb7 hcs hnx hq7
                go_wp2_with (at_builtin; refine wpList_append_lies _ rfl _ _ 40 rfl (bx + 4) 42 i0 _ 4 56 Tryd.underlying40 hi0 hz0 hz1 hz2 rfl (by decide) _ i xs rfl ho ⟨w7.heap.size, 0, none⟩ 1 1 (quad 2 0 nob (.slice (some ⟨w2.heap.size, 0, none⟩) 1 1)) rfl rfl (cells_quad _ _ _ _ _ _) (by intro u hu; simp [quad] at hu; rcases hu with rfl | rfl | rfl | rfl <;> rfl) (by decide) (by unfold maxLen; omega) (by omega) (by simp; omega) _ rfl ?_)
                intro g8 cap8 w8 hown hgrow hat hlt
                obtain ⟨ht8, hk8⟩ := HNX.out w8 g8 cap8 hown hgrow (by simpa using hat)
                have HT8 : Hid (TR B2 w8 (bx + 4) (.slice (some ⟨g8, 0, none⟩) (i + 1) cap8) ((ks.take (i + 1)).map vlT)) := by
                  show TR _ _ _ _ _
                  rw [HTK.out]
                  exact ht8
                have HK8 : Hid (Kb (bx + 4) wc w8) := hk8 wc HK.out (by have := HE2.out; omega)
                clear ht8 hk8 HNX hown hgrow hat hlt ho
                go_wp2
                go_roundw
                case rel => exact ⟨i + 1, by omega, by go_num, HT8, HK8⟩
                case measure => simp [intOf]; omega
          · have e : i = nk := by omega
            have et : ks.take i = ks := List.take_of_length_le (by have := HN.out.2.2.1; omega)
            rw [et] at HT
            subst e
            go_wp2_with fail
            go_meet
            exact ⟨HT, HK⟩
      case rest =>
        obtain ⟨HT3, HK3⟩ := hcut
        have HT1 := hide_p (HT1'.out.kb HK3.out (by omega) (by omega))
        have HT2' := hide_p (HT2.out.kb HK3.out (by omega) (by omega))
        clear HT1' HT2
        have HB3 : Hid (Below w.heap.size w wc) := HB2.out.trans (HK3.out.below (by have := HBX.out; omega) (by have := HBX.out; have := HE2.out; omega))
        have HA3 : Hid (wc.heap[bx]? = w0.heap[bx]? ∧ wc.heap[bx + 1]? = w0.heap[bx + 1]? ∧ wc.heap[bx + 5]? = w0.heap[bx + 5]?) := by
          have hE := HE2.out
          exact ⟨(HK3.out.block _ (by omega) (by omega)).trans HA2.out.1, (HK3.out.block _ (by omega) (by omega)).trans HA2.out.2.1, (HK3.out.block _ (by omega) (by omega)).trans HA2.out.2.2.2⟩
        obtain ⟨B3, hB3⟩ : ∃ B3, B3 = wc.heap.size := ⟨_, rfl⟩
        have HE3 : Hid (B3 = wc.heap.size) := hB3
        have hs3 : B2 ≤ B3 := by have := HK3.out.size; have := HE2.out; omega
        clear hB3
        go_upto_block 6 with fail
        go_cut [6] (fun t6 wd => Hid (TR B3 wd (bx + 5) t6 (ps.map cellT)) ∧ Hid (Kb (bx + 5) wc wd))
        case first =>
          go_wp2_with fail
          go_loopw [6, 14] (fun t6 t14 wr => ∃ (i : Nat), i ≤ np ∧ t14 = .int .i64 i ∧ Hid (TR B3 wr (bx + 5) t6 ((ps.take i).map cellT)) ∧ Hid (Kb (bx + 5) wc wr)) (fun _ t14 _ => np - (intOf t14).toNat)
          case atStart => exact ⟨0, Nat.zero_le _, rfl, TR.nil (HA3.out.2.2.trans HA.out.2.2.2.2.2) rfl, Kb.refl _ _⟩
          case round =>
            obtain ⟨i, hi, rfl, HT, HK⟩ := hrel
            have b5 : wr.cell? ⟨bx, 5, none⟩ = some (.slice ap np cp) := HK.out.cell (by have := HE3.out; omega) (by omega) (by rw [Lib.cell_of_heap (HA3.out.1.trans HA.out.1)]; rfl)
            by_cases c : i < np
            · have hszr : B3 ≤ wr.heap.size := by have := HK.out.size; have := HE3.out; omega
              have HBw : Hid (Below w.heap.size w wr) := HB3.out.trans (HK.out.below (by have := HBX.out; omega) (by have := HBX.out; have := HE3.out; omega))
              have HBW : Hid (Below W.heap.size W wr) := HHW.out.trans (HBw.out.mono HHW.out.size)
              have i1 : i < ps.length := by rw [← HN.out.2.2.2]; exact c
              obtain ⟨-, g, o, rfl, e0, e1, e2, e3, e4, e5⟩ := SP.get (HSP.out.kept HBW.out (Nat.le_refl _)) i1
              have hcall := HI.out ps[i] (List.getElem_mem i1) (f i) W wr (HCH.out i i1) HBW.out (by have := pcnts_get i i1; have := HCN.out; omega)
              have hlen : ((ps.take i).map cellT).length = i := by rw [List.length_map, List.length_take]; omega
              have HTK : Hid ((ps.take (i + 1)).map cellT = (ps.take i).map cellT ++ [cellT ps[i]]) := by
                show _ = _
                rw [List.take_succ_eq_append_getElem i1, List.map_append]
                rfl
              generalize cellT ps[i] = ct at *
              unfold Six.v at hcall
              generalize f i = z at *
              obtain ⟨ypa, yrg, yu, yc, yk, yp⟩ := z
              simp only at e0 e1 e2 e3 e4 e5 hcall
              clear i1
              go_wp2_with fail
              refine hcall.mono ?_
              rintro e w2 ⟨v2, rfl, hcs, hb2⟩
              obtain ⟨k2, n2, s2, a2, m2, cap2, rfl⟩ := hcs.form
              obtain ⟨xs, ho, hnx⟩ := HT.out.snoc (by omega) (by omega) hb2 hcs (.cells #[.int .i64 k2, .int .u64 n2, .string s2, .slice a2 m2 cap2] 42)
              rw [hlen] at ho hnx
              have HNX := hide_p hnx
              have hs7 := hb2.size
              unfold cellV
              clear hb2 hcs hnx hcall e0 e1 e2 e3 e4 e5
              go_wp2_with (at_builtin; refine wpList_append_lies _ rfl _ _ 40 rfl (bx + 5) 42 i0 _ 4 56 Tryd.underlying40 hi0 hz0 hz1 hz2 rfl (by decide) _ i xs rfl ho ⟨w2.heap.size, 0, none⟩ 1 1 (quad k2 n2 s2 (.slice a2 m2 cap2)) rfl rfl (cells_quad _ _ _ _ _ _) (by intro u hu; simp [quad] at hu; rcases hu with rfl | rfl | rfl | rfl <;> rfl) (by decide) (by unfold maxLen; omega) (by omega) (by simp; omega) _ rfl ?_)
              intro g8 cap8 w8 hown hgrow hat hlt
              obtain ⟨ht8, hk8⟩ := HNX.out w8 g8 cap8 hown hgrow (by simpa using hat)
              have HT8 : Hid (TR B3 w8 (bx + 5) (.slice (some ⟨g8, 0, none⟩) (i + 1) cap8) ((ps.take (i + 1)).map cellT)) := by
                show TR _ _ _ _ _
                rw [HTK.out]
                exact ht8
              have HK8 : Hid (Kb (bx + 5) wc w8) := hk8 wc HK.out (by have := HE3.out; omega)
              clear ht8 hk8 HNX hown hgrow hat hlt ho
              go_wp2
              go_roundw
              case rel => exact ⟨i + 1, by omega, by go_num, HT8, HK8⟩
              case measure => simp [intOf]; omega
            · have e : i = np := by omega
              have et : ps.take i = ps := List.take_of_length_le (by have := HN.out.2.2.2; omega)
              rw [et] at HT
              subst e
              go_wp2_with fail
              go_meet
              exact ⟨HT, HK⟩
        case rest =>
          obtain ⟨HT4, HK4⟩ := hcut
          have HT1' := hide_p (HT1.out.kb HK4.out (by omega) (by omega))
          have HT2 := hide_p (HT2'.out.kb HK4.out (by omega) (by omega))
          have HT3' := hide_p (HT3.out.kb HK4.out (by omega) (by omega))
          have HB4 : Hid (Below w.heap.size w wc) := HB3.out.trans (HK4.out.below (by have := HBX.out; omega) (by have := HBX.out; have := HE3.out; omega))
          have HA4 : Hid (wc.heap[bx]? = some (.cells #[.int .i64 pa', .int .i64 rg', .slice au nu cu, .slice ac nc cc, .slice ak nk ck, .slice ap np cp] 31 (0, 0)) ∧ wc.heap[bx + 1]? = some (.cells #[.int .i64 0, .int .u64 0, .string ⟨#[]⟩, .slice none 0 0] 42 (0, 0))) := by
            have hE := HE3.out
            exact ⟨((HK4.out.block _ (by omega) (by omega)).trans HA3.out.1).trans HA.out.1, ((HK4.out.block _ (by omega) (by omega)).trans HA3.out.2.1).trans HA.out.2.1⟩
          have hs4 : B3 ≤ wc.heap.size := by have := HK4.out.size; have := HE3.out; omega
          obtain ⟨-, a3, c3, q3⟩ := HT1'.out.tw
          obtain ⟨-, a4, c4, q4⟩ := HT2.out.tw
          obtain ⟨-, a5, c5, q5⟩ := HT3'.out.tw
          obtain ⟨-, a6, c6, q6⟩ := HT4.out.tw
          have l3 : (us.map upT).length = nu := by rw [List.length_map]; exact HN.out.1.symm
          have l4 : (cs.map insT).length = nc := by rw [List.length_map]; exact HN.out.2.1.symm
          have l5 : (ks.map vlT).length = nk := by rw [List.length_map]; exact HN.out.2.2.1.symm
          have l6 : (ps.map cellT).length = np := by rw [List.length_map]; exact HN.out.2.2.2.symm
          rw [l3] at q3
          rw [l4] at q4
          rw [l5] at q5
          rw [l6] at q6
          subst q3 q4 q5 q6
          have HFIN : Hid (∀ (w8 w9 : World), Below wc.heap.size wc w8 → Below (w8.alloc (.cells #[.int .i64 0, .int .u64 (uw pa'), .string nob, .slice none 0 0, .int .i64 0, .int .u64 (uw rg'), .string nob, .slice none 0 0, .int .i64 2, .int .u64 0, .string nob, .slice a3 nu c3, .int .i64 2, .int .u64 0, .string nob, .slice a4 nc c4, .int .i64 2, .int .u64 0, .string nob, .slice a5 nk c5, .int .i64 2, .int .u64 0, .string nob, .slice a6 np c6] 42)).heap.size (w8.alloc (.cells #[.int .i64 0, .int .u64 (uw pa'), .string nob, .slice none 0 0, .int .i64 0, .int .u64 (uw rg'), .string nob, .slice none 0 0, .int .i64 2, .int .u64 0, .string nob, .slice a3 nu c3, .int .i64 2, .int .u64 0, .string nob, .slice a4 nc c4, .int .i64 2, .int .u64 0, .string nob, .slice a5 nk c5, .int .i64 2, .int .u64 0, .string nob, .slice a6 np c6] 42)) w9 →
              ∀ W9 : World, W9 = (((w9.setCell ⟨bx + 1, 0, none⟩ (.int .i64 2)).setCell ⟨bx + 1, 1, none⟩ (.int .u64 0)).setCell ⟨bx + 1, 2, none⟩ (.string nob)).setCell ⟨bx + 1, 3, none⟩ (.slice (some ⟨w8.heap.size, 0, none⟩) 6 6) →
              W9.heap[bx + 1]? = some (.cells #[.int .i64 2, .int .u64 0, .string nob, .slice (some ⟨w8.heap.size, 0, none⟩) 6 6] 42 (0, 0)) ∧ CS W9 (fun k => w.heap.size ≤ k) (lisT [numT pa', numT rg', lisT (us.map upT), lisT (cs.map insT), lisT (ks.map vlT), lisT (ps.map cellT)]) (cellV 2 0 nob (.slice (some ⟨w8.heap.size, 0, none⟩) 6 6)) ∧ Below w.heap.size w W9) := by
            intro w8 w9 h8 h9 W9 hW9
            have hbx := HBX.out
            have s8 := h8.size
            have s9 := h9.size
            simp only [World.size_alloc] at s9
            have k9 : Kb (bx + 1) wc w9 := Kb.of_below ((h8.alloc s8 _).trans (h9.mono (by simp; omega)))
            have k10 : Kb (bx + 1) wc W9 := by rw [hW9]; exact k9.set4 _ _ _ _
            refine ⟨?_, ?_, ?_⟩
            · rw [hW9]
              refine set4_block (x0 := .int .i64 0) (x1 := .int .u64 0) (x2 := .string nob) (x3 := .slice none 0 0) ?_ _ _ _ _
              exact (((h8.alloc s8 _).trans (h9.mono (by simp; omega))).block (bx + 1) (by omega)).trans HA4.out.2
            · have hblk : W9.heap[w8.heap.size]? = some (.cells #[.int .i64 0, .int .u64 (uw pa'), .string nob, .slice none 0 0, .int .i64 0, .int .u64 (uw rg'), .string nob, .slice none 0 0, .int .i64 2, .int .u64 0, .string nob, .slice a3 nu c3, .int .i64 2, .int .u64 0, .string nob, .slice a4 nc c4, .int .i64 2, .int .u64 0, .string nob, .slice a5 nk c5, .int .i64 2, .int .u64 0, .string nob, .slice a6 np c6] 42 (0, 0)) := by
                rw [hW9, set4_other (by omega), h9.block w8.heap.size (by simp)]
                exact heap_alloc_new w8 _
              refine cs_block (l := [nq pa', nq rg', ⟨2, 0, nob, .slice a3 nu c3⟩, ⟨2, 0, nob, .slice a4 nc c4⟩, ⟨2, 0, nob, .slice a5 nk c5⟩, ⟨2, 0, nob, .slice a6 np c6⟩]) hblk rfl rfl (Nat.le_refl 6) (by decide) (by omega) (fun i hi => ?_)
              match i, hi with
              | 0, _ => exact cs_numT _
              | 1, _ => exact cs_numT _
              | 2, _ => exact (HT1'.out.cs l3.symm (by omega) k10).widen (fun k hk => by omega)
              | 3, _ => exact (HT2.out.cs l4.symm (by omega) k10).widen (fun k hk => by omega)
              | 4, _ => exact (HT3'.out.cs l5.symm (by omega) k10).widen (fun k hk => by omega)
              | 5, _ => exact (HT4.out.cs l6.symm (by omega) k10).widen (fun k hk => by omega)
            · exact HB4.out.trans (k10.below (by omega) (by omega))
          have q0 : wc.drew.cell? ⟨bx, 0, none⟩ = some (.int .i64 pa') := by show wc.cell? _ = _; rw [Lib.cell_of_heap HA4.out.1]; rfl
          have q1 : wc.drew.cell? ⟨bx, 1, none⟩ = some (.int .i64 rg') := by show wc.cell? _ = _; rw [Lib.cell_of_heap HA4.out.1]; rfl
          have hq0 : Below wc.heap.size wc wc.drew := (Below.refl _ _).drew
          have HC9 : Hid (∀ w9, Below wc.heap.size wc w9 → (∀ j, w9.frozen? ⟨bx + 1, j, none⟩ = false) ∧ w9.cell? ⟨bx + 1, 0, none⟩ = some (.int .i64 0) ∧ w9.cell? ⟨bx + 1, 1, none⟩ = some (.int .u64 0) ∧ w9.cell? ⟨bx + 1, 2, none⟩ = some (.string nob) ∧ w9.cell? ⟨bx + 1, 3, none⟩ = some (.slice none 0 0)) := by
            intro w9 h9
            have hb := (h9.block (bx + 1) (by omega)).trans HA4.out.2
            exact ⟨fun j => Lib.frozen_of_heap hb j, block4 hb⟩
          clear HT1 HT2' HT3 l3 l4 l5 l6
          go_wp2_with fail
          go_region_held3 (fun w' => w'.cell? ⟨bx, 0, none⟩ = some (.int .i64 pa') ∧ w'.cell? ⟨bx, 1, none⟩ = some (.int .i64 rg'))
            (first
              | exact keep2 (by assumption) hbS (Nat.le_refl _)
              | go_keep)
            (first
              | (go_at_call 54; refine (HN1.out _ _).mono ?_; rintro e w2 ⟨rfl, hbS⟩; have hq := Below.trans (by assumption) (hbS.mono (Below.size (by assumption))))
              | (go_at_call 53; refine (HL1.out _ _ _ _).mono ?_; rintro e w3 ⟨rfl, hbS⟩; have hq := Below.trans (by assumption) (hbS.mono (Below.size (by assumption))))
              | (go_at_call 53; refine (HL1.out _ _ _ _).mono ?_; rintro e w9 ⟨rfl, hbS⟩; have HF := hide_p (HFIN.out _ _ (by assumption) hbS); have hq9 := ((by assumption : Below wc.heap.size wc w3).alloc (Below.size (by assumption)) _).trans (hbS.mono (by have := Below.size (by assumption : Below wc.heap.size wc w3); simp; omega)); obtain ⟨hfz, hc0, hc1, hc2, hc3⟩ := HC9.out w9 hq9))
          obtain ⟨z1, z2, z3⟩ := HF.out _ rfl
          have HZ := hide_p z1
          have HZ2 := hide_p z2
          have HZ3 := hide_p z3
          clear z1 z2 z3 HF hfz hc0 hc1 hc2 hc3 hq9 HFIN HC9
          go_wp2
          exact bodyPost_ret (results_cell_row rfl _ _ (bx + 1) _ _ _ _ rfl HZ.out Tryd.underlying42 rfl info25) rfl ⟨_, rfl, HZ2.out, HZ3.out⟩

end Go.Proofs.YtnigmiokadpajaaDoor
namespace Go.Proofs.YtnigmiokadpajaaDoor
set_option maxRecDepth 100000
open Go.RowKit Crc Pg

namespace Pg
theorem cellsF_set6 {n i : Nat} {y : Nat → Six} {x : Six} (hi : i < n) : ((((((cellsF n 6 (sixC y)).set (i * 6) (.int .i64 x.pa)).set (i * 6 + 1) (.int .i64 x.rg)).set (i * 6 + 2) x.u).set (i * 6 + 3) x.c).set (i * 6 + 4) x.k).set (i * 6 + 5) x.p = cellsF n 6 (sixC fun k => if k = i then x else y k) := by
  apply List.ext_getElem?
  intro k
  by_cases h : k < n * 6
  · rw [cellsF_get h]
    by_cases c : k / 6 = i
    · have h6 : k % 6 = 0 ∨ k % 6 = 1 ∨ k % 6 = 2 ∨ k % 6 = 3 ∨ k % 6 = 4 ∨ k % 6 = 5 := by omega
      have hk : k = i * 6 + k % 6 := by omega
      have hb : i * 6 + 5 < n * 6 := by omega
      have hd : ∀ c, c < 6 → (i * 6 + c) / 6 = i := fun c hc => by omega
      have hm : ∀ c, c < 6 → (i * 6 + c) % 6 = c := fun c hc => by omega
      clear c
      rcases h6 with q | q | q | q | q | q
      · rw [q] at hk; rw [hk, hd 0 (by decide), hm 0 (by decide)]; simp [List.getElem?_set, cellsF_length, sixC, Six.at]; omega
      · rw [q] at hk; rw [hk, hd 1 (by decide), hm 1 (by decide)]; simp [List.getElem?_set, cellsF_length, sixC, Six.at]; omega
      · rw [q] at hk; rw [hk, hd 2 (by decide), hm 2 (by decide)]; simp [List.getElem?_set, cellsF_length, sixC, Six.at]; omega
      · rw [q] at hk; rw [hk, hd 3 (by decide), hm 3 (by decide)]; simp [List.getElem?_set, cellsF_length, sixC, Six.at]; omega
      · rw [q] at hk; rw [hk, hd 4 (by decide), hm 4 (by decide)]; simp [List.getElem?_set, cellsF_length, sixC, Six.at]; omega
      · rw [q] at hk; rw [hk, hd 5 (by decide), hm 5 (by decide)]; simp [List.getElem?_set, cellsF_length, sixC, Six.at]; omega
    · have h0 : k ≠ i * 6 := by omega
      have h1 : k ≠ i * 6 + 1 := by omega
      have h2 : k ≠ i * 6 + 2 := by omega
      have h3 : k ≠ i * 6 + 3 := by omega
      have h4 : k ≠ i * 6 + 4 := by omega
      have h5 : k ≠ i * 6 + 5 := by omega
      rw [List.getElem?_set_ne h5.symm, List.getElem?_set_ne h4.symm, List.getElem?_set_ne h3.symm, List.getElem?_set_ne h2.symm, List.getElem?_set_ne h1.symm, List.getElem?_set_ne h0.symm, cellsF_get h]
      simp [sixC, c]
  · rw [List.getElem?_eq_none (by simp [cellsF_length]; omega), List.getElem?_eq_none (by rw [cellsF_length]; omega)]
/-- Six cells stored into a row of one's own. -/
theorem owns_six {w : World} {B e n cap g i : Nat} {y : Nat → Six} (x : Six) (h : w.ownsRow B e 6 (.slice (some ⟨g, 0, none⟩) n cap) n (cellsF n 6 (sixC y))) (hi : i < n) :
    ((((((w.setCell ⟨g, i * 6, none⟩ (.int .i64 x.pa)).setCell ⟨g, i * 6 + 1, none⟩ (.int .i64 x.rg)).setCell ⟨g, i * 6 + 2, none⟩ x.u).setCell ⟨g, i * 6 + 3, none⟩ x.c).setCell ⟨g, i * 6 + 4, none⟩ x.k).setCell ⟨g, i * 6 + 5, none⟩ x.p).ownsRow B e 6 (.slice (some ⟨g, 0, none⟩) n cap) n (cellsF n 6 (sixC fun k => if k = i then x else y k)) := by
  rw [← cellsF_set6 hi]
  exact ((((((h.stored (i * 6) _).1.stored (i * 6 + 1) _).1.stored (i * 6 + 2) _).1.stored (i * 6 + 3) _).1.stored (i * 6 + 4) _).1.stored (i * 6 + 5) _).1
theorem set6_other {w : World} {g k o : Nat} (h : k ≠ g) (v0 v1 v2 v3 v4 v5 : Value) : ((((((w.setCell ⟨g, o, none⟩ v0).setCell ⟨g, o + 1, none⟩ v1).setCell ⟨g, o + 2, none⟩ v2).setCell ⟨g, o + 3, none⟩ v3).setCell ⟨g, o + 4, none⟩ v4).setCell ⟨g, o + 5, none⟩ v5).heap[k]? = w.heap[k]? := by
  rw [heap_setCell_other _ _ _ _ (by simpa using h), heap_setCell_other _ _ _ _ (by simpa using h), heap_setCell_other _ _ _ _ (by simpa using h), heap_setCell_other _ _ _ _ (by simpa using h), heap_setCell_other _ _ _ _ (by simpa using h), heap_setCell_other _ _ _ _ (by simpa using h)]
theorem os_setx (w : World) (a : Addr) (v : Value) : (w.setCell a v).os = w.os := rfl
theorem tape_setx (w : World) (a : Addr) (v : Value) : (w.setCell a v).tape = w.tape := rfl
theorem output_setx (w : World) (a : Addr) (v : Value) : (w.setCell a v).output = w.output := rfl
theorem grown_six {w0 w : World} {g o : Nat} (k : w0.grownBy w (some g)) (v0 v1 v2 v3 v4 v5 : Value) : w0.grownBy ((((((w.setCell ⟨g, o, none⟩ v0).setCell ⟨g, o + 1, none⟩ v1).setCell ⟨g, o + 2, none⟩ v2).setCell ⟨g, o + 3, none⟩ v3).setCell ⟨g, o + 4, none⟩ v4).setCell ⟨g, o + 5, none⟩ v5) (some g) :=
  ⟨by simp only [os_setx]; exact k.os, by simp only [tape_setx]; exact k.tape, by simp only [output_setx]; exact k.output, by simp only [World.size_setCell]; exact k.size, fun q hq hne => (set6_other (fun e => hne (by rw [e])) _ _ _ _ _ _).trans (k.block q hq hne)⟩
theorem grown_then {w0 w w' : World} {row : Option Nat} (k : w0.grownBy w row) (h : Below w.heap.size w w') : w0.grownBy w' row :=
  ⟨h.os.trans k.os, h.tape.trans k.tape, h.output.trans k.output, Nat.le_trans k.size h.size, fun q hq hne => (h.block q (Nat.lt_of_lt_of_le hq k.size)).trans (k.block q hq hne)⟩
theorem own_setlt {w : World} {B : Nat} {e : TypeId} {z : Nat} {v : Value} {n : Nat} {xs : List Value} {b j : Nat} (h : w.ownsRow B e z v n xs) (hb : b < B) (u : Value) : (w.setCell ⟨b, j, none⟩ u).ownsRow B e z v n xs :=
  h.kept (row := some b) ⟨rfl, rfl, rfl, by simp [World.setCell], fun k _ hk => Below.heap_setCell _ _ _ _ (fun e => hk (by simp [e]))⟩ (Or.inr (fun e => by have := (h.lt b e).1; omega))
/-- What is laid behind nothing lies in a block of its own. -/
theorem grown_none {w w' : World} (k : w.grownBy w' none) : Below w.heap.size w w' := ⟨k.os, k.tape, k.output, k.size, fun q hq => k.block q hq (by simp)⟩
end Pg

theorem keep7 {W w' : World} {B : Nat} {a : Addr} {u0 u1 u2 u3 u4 u5 u6 : Value} (h : W.cell? a = some u6 ∧ W.cell? ⟨B, 0, none⟩ = some u0 ∧ W.cell? ⟨B, 1, none⟩ = some u1 ∧ W.cell? ⟨B, 2, none⟩ = some u2 ∧ W.cell? ⟨B, 3, none⟩ = some u3 ∧ W.cell? ⟨B, 4, none⟩ = some u4 ∧ W.cell? ⟨B, 5, none⟩ = some u5) (k : Below W.heap.size W w') : w'.cell? a = some u6 ∧ w'.cell? ⟨B, 0, none⟩ = some u0 ∧ w'.cell? ⟨B, 1, none⟩ = some u1 ∧ w'.cell? ⟨B, 2, none⟩ = some u2 ∧ w'.cell? ⟨B, 3, none⟩ = some u3 ∧ w'.cell? ⟨B, 4, none⟩ = some u4 ∧ w'.cell? ⟨B, 5, none⟩ = some u5 := by
  obtain ⟨h6, h0, h1, h2, h3, h4, h5⟩ := h
  exact ⟨cell_kept k (Nat.le_refl _) h6, cell_kept k (Nat.le_refl _) h0, cell_kept k (Nat.le_refl _) h1, cell_kept k (Nat.le_refl _) h2, cell_kept k (Nat.le_refl _) h3, cell_kept k (Nat.le_refl _) h4, cell_kept k (Nat.le_refl _) h5⟩
theorem keep7s {W : World} {B g o : Nat} {a : Addr} {v0 v1 v2 v3 v4 v5 u0 u1 u2 u3 u4 u5 u6 : Value} (h : W.cell? a = some u6 ∧ W.cell? ⟨B, 0, none⟩ = some u0 ∧ W.cell? ⟨B, 1, none⟩ = some u1 ∧ W.cell? ⟨B, 2, none⟩ = some u2 ∧ W.cell? ⟨B, 3, none⟩ = some u3 ∧ W.cell? ⟨B, 4, none⟩ = some u4 ∧ W.cell? ⟨B, 5, none⟩ = some u5) (ha : a.block ≠ g) (hB : B ≠ g) :
    ((((((W.setCell ⟨g, o, none⟩ v0).setCell ⟨g, o + 1, none⟩ v1).setCell ⟨g, o + 2, none⟩ v2).setCell ⟨g, o + 3, none⟩ v3).setCell ⟨g, o + 4, none⟩ v4).setCell ⟨g, o + 5, none⟩ v5).cell? a = some u6 ∧
    ((((((W.setCell ⟨g, o, none⟩ v0).setCell ⟨g, o + 1, none⟩ v1).setCell ⟨g, o + 2, none⟩ v2).setCell ⟨g, o + 3, none⟩ v3).setCell ⟨g, o + 4, none⟩ v4).setCell ⟨g, o + 5, none⟩ v5).cell? ⟨B, 0, none⟩ = some u0 ∧
    ((((((W.setCell ⟨g, o, none⟩ v0).setCell ⟨g, o + 1, none⟩ v1).setCell ⟨g, o + 2, none⟩ v2).setCell ⟨g, o + 3, none⟩ v3).setCell ⟨g, o + 4, none⟩ v4).setCell ⟨g, o + 5, none⟩ v5).cell? ⟨B, 1, none⟩ = some u1 ∧
    ((((((W.setCell ⟨g, o, none⟩ v0).setCell ⟨g, o + 1, none⟩ v1).setCell ⟨g, o + 2, none⟩ v2).setCell ⟨g, o + 3, none⟩ v3).setCell ⟨g, o + 4, none⟩ v4).setCell ⟨g, o + 5, none⟩ v5).cell? ⟨B, 2, none⟩ = some u2 ∧
    ((((((W.setCell ⟨g, o, none⟩ v0).setCell ⟨g, o + 1, none⟩ v1).setCell ⟨g, o + 2, none⟩ v2).setCell ⟨g, o + 3, none⟩ v3).setCell ⟨g, o + 4, none⟩ v4).setCell ⟨g, o + 5, none⟩ v5).cell? ⟨B, 3, none⟩ = some u3 ∧
    ((((((W.setCell ⟨g, o, none⟩ v0).setCell ⟨g, o + 1, none⟩ v1).setCell ⟨g, o + 2, none⟩ v2).setCell ⟨g, o + 3, none⟩ v3).setCell ⟨g, o + 4, none⟩ v4).setCell ⟨g, o + 5, none⟩ v5).cell? ⟨B, 4, none⟩ = some u4 ∧
    ((((((W.setCell ⟨g, o, none⟩ v0).setCell ⟨g, o + 1, none⟩ v1).setCell ⟨g, o + 2, none⟩ v2).setCell ⟨g, o + 3, none⟩ v3).setCell ⟨g, o + 4, none⟩ v4).setCell ⟨g, o + 5, none⟩ v5).cell? ⟨B, 5, none⟩ = some u5 := by
  obtain ⟨h6, h0, h1, h2, h3, h4, h5⟩ := h
  have k : ∀ b : Addr, b.block ≠ g → ((((((W.setCell ⟨g, o, none⟩ v0).setCell ⟨g, o + 1, none⟩ v1).setCell ⟨g, o + 2, none⟩ v2).setCell ⟨g, o + 3, none⟩ v3).setCell ⟨g, o + 4, none⟩ v4).setCell ⟨g, o + 5, none⟩ v5).cell? b = W.cell? b := fun b hb => World.cell?_of_block (set6_other hb _ _ _ _ _ _)
  exact ⟨(k a ha).trans h6, (k ⟨B, 0, none⟩ hB).trans h0, (k ⟨B, 1, none⟩ hB).trans h1, (k ⟨B, 2, none⟩ hB).trans h2, (k ⟨B, 3, none⟩ hB).trans h3, (k ⟨B, 4, none⟩ hB).trans h4, (k ⟨B, 5, none⟩ hB).trans h5⟩
theorem sixAt {w : World} {B e n cap g i : Nat} {y : Nat → Six} (h : w.ownsRow B e 6 (.slice (some ⟨g, 0, none⟩) n cap) n (cellsF n 6 (sixC y))) (hi : i < n) :
    w.cell? ⟨g, i * 6, none⟩ = some (.int .i64 (y i).pa) ∧ w.cell? ⟨g, i * 6 + 1, none⟩ = some (.int .i64 (y i).rg) ∧ w.cell? ⟨g, i * 6 + 2, none⟩ = some (y i).u ∧ w.cell? ⟨g, i * 6 + 3, none⟩ = some (y i).c ∧ w.cell? ⟨g, i * 6 + 4, none⟩ = some (y i).k ∧ w.cell? ⟨g, i * 6 + 5, none⟩ = some (y i).p := by
  have hk : ∀ j, j < 6 → w.cell? ⟨g, i * 6 + j, none⟩ = some ((y i).at j) := fun j hj => by
    rw [h.cellAt (i * 6 + j) (by omega), cellsF_at hi hj]
    rfl
  exact ⟨hk 0 (by decide), hk 1 (by decide), hk 2 (by decide), hk 3 (by decide), hk 4 (by decide), hk 5 (by decide)⟩
theorem block6 {w : World} {b : Nat} {T : TypeId} {fr : Nat × Nat} {x0 x1 x2 x3 x4 x5 : Value} (h : w.heap[b]? = some (.cells #[x0, x1, x2, x3, x4, x5] T fr)) :
    w.cell? ⟨b, 0, none⟩ = some x0 ∧ w.cell? ⟨b, 1, none⟩ = some x1 ∧ w.cell? ⟨b, 2, none⟩ = some x2 ∧ w.cell? ⟨b, 3, none⟩ = some x3 ∧ w.cell? ⟨b, 4, none⟩ = some x4 ∧ w.cell? ⟨b, 5, none⟩ = some x5 :=
  ⟨by rw [Lib.cell_of_heap h]; rfl, by rw [Lib.cell_of_heap h]; rfl, by rw [Lib.cell_of_heap h]; rfl, by rw [Lib.cell_of_heap h]; rfl, by rw [Lib.cell_of_heap h]; rfl, by rw [Lib.cell_of_heap h]; rfl⟩

set_option maxHeartbeats 16000000 in
theorem copied_any : ∀ (t : Pr) (x : Six) (W w : World), PR W t x → Below W.heap.size W w → t.cnt ≤ 100000 →
    Calls Tryd.prog 69 #[x.v] w fun e w' => ∃ x' : Six, e = .returned x'.v ∧ PRS (fun b => w.heap.size ≤ b) w' t x' ∧ Below w.heap.size w w' := by
  refine Pr.ind' fun pa rg us cs ks ps ih => ?_
  intro x W w h hW hcnt
  rw [PR_mk] at h
  obtain ⟨pa', rg', vu, vc, vk, vp⟩ := x
  simp only at h
  obtain ⟨rfl, rfl, hpa, hrg, hu, hc, hk, f, hp, hch⟩ := h
  obtain ⟨au, cu, rfl, lu1, lu2, -⟩ := hu.1.val
  obtain ⟨ac, cc, rfl, lc1, lc2, -⟩ := hc.1.val
  obtain ⟨ak, ck, rfl, lk1, lk2, -⟩ := hk.1.val
  obtain ⟨ap, cp, rfl, lp1, lp2, -⟩ := hp.val
  rw [Pr.cnt_mk] at hcnt
  obtain ⟨iu0, iu1, iu2, iu3, iu4⟩ := info_parts infoUp
  obtain ⟨ic0, ic1, ic2, ic3, ic4⟩ := info_parts infoIns
  obtain ⟨ik0, ik1, ik2, ik3, ik4⟩ := info_parts infoVal
  obtain ⟨ip0, ip1, ip2, ip3, ip4⟩ := info_parts infoProto
  unfold Six.v
  simp only
  have HI : Hid _ := ih
  have HCH := (show Hid (∀ i (h : i < ps.length), PR W ps[i] (f i)) from hch)
  have hsu := hu.src
  have hsc := hc.src
  have hsk := hk.src
  have hsp : Src W 6 (.slice ap ps.length cp) ps.length (cellsF ps.length 6 (sixC f)) := hp.src (by decide) (fun i j u _ _ h => h) (fun i j hi _ => pr_one (hch i hi) j)
  obtain ⟨nu, hnu⟩ : ∃ n, n = us.length := ⟨_, rfl⟩
  obtain ⟨nc, hnc⟩ : ∃ n, n = cs.length := ⟨_, rfl⟩
  obtain ⟨nk, hnk⟩ : ∃ n, n = ks.length := ⟨_, rfl⟩
  obtain ⟨np, hnp⟩ : ∃ n, n = ps.length := ⟨_, rfl⟩
  obtain ⟨xu, hxu⟩ : ∃ l, l = cellsF us.length 2 (uppC us) := ⟨_, rfl⟩
  obtain ⟨xc, hxc⟩ : ∃ l, l = cellsF cs.length 4 (insC cs) := ⟨_, rfl⟩
  obtain ⟨xk, hxk⟩ : ∃ l, l = cellsF ks.length 4 (vlC ks) := ⟨_, rfl⟩
  obtain ⟨xp, hxp⟩ : ∃ l, l = cellsF ps.length 6 (sixC f) := ⟨_, rfl⟩
  rw [← hxu, ← hnu] at hsu
  rw [← hxc, ← hnc] at hsc
  rw [← hxk, ← hnk] at hsk
  rw [← hxp, ← hnp] at hsp
  have HXS : Hid (xu = cellsF us.length 2 (uppC us) ∧ xc = cellsF cs.length 4 (insC cs) ∧ xk = cellsF ks.length 4 (vlC ks) ∧ xp = cellsF ps.length 6 (sixC f)) := ⟨hxu, hxc, hxk, hxp⟩
  have HN : Hid (nu = us.length ∧ nc = cs.length ∧ nk = ks.length ∧ np = ps.length) := ⟨hnu, hnc, hnk, hnp⟩
  have HOK : Hid ((∀ x ∈ us, x.ok) ∧ (∀ x ∈ cs, x.ok) ∧ (∀ x ∈ ks, x.ok)) := ⟨hu.2, hc.2, hk.2⟩
  have HSR : Hid (∀ w', Below W.heap.size W w' → Src w' 2 (.slice au nu cu) nu xu ∧ Src w' 4 (.slice ac nc cc) nc xc ∧ Src w' 4 (.slice ak nk ck) nk xk ∧ Src w' 6 (.slice ap np cp) np xp) := fun w' hb => ⟨hsu.stay (fun a u h _ => cell_kept hb (Nat.le_refl _) h), hsc.stay (fun a u h _ => cell_kept hb (Nat.le_refl _) h), hsk.stay (fun a u h _ => cell_kept hb (Nat.le_refl _) h), hsp.stay (fun a u h _ => cell_kept hb (Nat.le_refl _) h)⟩
  have HCN : Hid (pcnts ps ≤ 100000) := by show _ ≤ _; omega
  have hl1 : us.length ≤ 100000 := by omega
  have hl2 : cs.length ≤ 100000 := by omega
  have hl3 : ks.length ≤ 100000 := by omega
  have hl4 : ps.length ≤ 100000 := by have := plen_cnts ps; omega
  rw [← hnu, ← hnc, ← hnk, ← hnp]
  rw [← hnu] at hl1 lu1
  rw [← hnc] at hl2 lc1
  rw [← hnk] at hl3 lk1
  rw [← hnp] at hl4 lp1
  have HHW := hide_p hW
  clear hu hc hk hp hch ih hnu hnc hnk hnp hxu hxc hxk hxp hcnt hW hsu hsc hsk hsp
  obtain ⟨bx, hbx⟩ : ∃ bx, bx = w.heap.size := ⟨_, rfl⟩
  obtain ⟨w0, hw0⟩ : ∃ w0, w0 = (w.alloc (.cells #[.int .i64 pa', .int .i64 rg', .slice au nu cu, .slice ac nc cc, .slice ak nk ck, .slice ap np cp] 31)).alloc (.cells #[.int .i64 0, .int .i64 0, .slice none 0 0, .slice none 0 0, .slice none 0 0, .slice none 0 0] 31) := ⟨_, rfl⟩
  have hs0 : w0.heap.size = bx + 2 := by rw [hw0, hbx]; simp
  have HB0 : Hid (Below w.heap.size w w0) := by rw [hw0]; exact ((Below.refl _ _).alloc (Nat.le_refl _) _).alloc (by simp) _
  have HK0 : Hid (w0.heap[bx]? = some (.cells #[.int .i64 pa', .int .i64 rg', .slice au nu cu, .slice ac nc cc, .slice ak nk ck, .slice ap np cp] 31 (0, 0)) ∧ w0.heap[bx + 1]? = some (.cells #[.int .i64 0, .int .i64 0, .slice none 0 0, .slice none 0 0, .slice none 0 0, .slice none 0 0] 31 (0, 0))) := by
    rw [hw0, hbx]
    exact ⟨(Below.heap_alloc _ _ _ (by simp)).trans (heap_alloc_new w _), heap_alloc_at _ _ _ (by simp)⟩
  go_enter Tryd.func69, Tryd.ntmps69
  go_upto_region 1 with fail
  rw [← hw0]
  rw [← hbx]
  have HBX := hide_p hbx
  clear hw0 hbx
  have HW0 : Hid (Kb bx w0 w0) := Kb.refl _ _
  have HBL0 := hide_p HK0.out.1
  have HBW0 : Hid (Below W.heap.size W w0) := HHW.out.trans ((HB0.out.trans (HW0.out.below (by have := HBX.out; omega) (by have := HBX.out; omega))).mono HHW.out.size)
  have hz0 : bx + 2 ≤ w0.heap.size := by have := HW0.out.size; omega
  obtain ⟨x0, x1, x2, x3, x4, x5⟩ := block6 HBL0.out
  have hs := (HSR.out w0 HBW0.out).1
  go_wp2_with (at_builtin; refine wpList_append_src _ rfl _ _ 26 rfl (bx + 2) 79 iu0 _ 2 16 Tryd.underlying26 iu1 iu2 iu3 iu4 rfl (by decide) (.slice none 0 0) 0 [] rfl (World.ownsRow_nil _ _ _ _) _ nu xu rfl hs (by unfold maxLen; omega) (by omega) hz0 ?_)
  intro a1 c1 v1 q1 q2 q3
  have hbl := grown_none q2
  have hblk : v1.heap[bx]? = _ := (hbl.block bx (by omega)).trans HBL0.out
  have hcl := Lib.cell_of_heap hblk 2
  have hcl2 : v1.cell? ⟨bx, 2, none⟩ = some (.slice au nu cu) := hcl
  have hfz := Lib.frozen_of_heap hblk 2
  obtain ⟨w1, hw1⟩ : ∃ w1, w1 = v1.setCell ⟨bx, 2, none⟩ (.slice a1 nu c1) := ⟨_, rfl⟩
  have HBL1 : Hid (w1.heap[bx]? = some (.cells #[.int .i64 pa', .int .i64 rg', .slice a1 nu c1, .slice ac nc cc, .slice ak nk ck, .slice ap np cp] 31 (0, 0))) := by rw [hw1]; exact heap_setCell_same _ _ 2 _ _ _ hblk
  have HW1 : Hid (Kb bx w0 w1) := by rw [hw1]; exact (HW0.out.trans (Kb.of_below hbl)).trans (Kb.set _ _ _ _)
  have HRu1 := hide_p (own_setlt (b := bx) (j := 2) q1 (by omega) (.slice a1 nu c1))
  rw [← hw1] at HRu1
  clear q1 q2 q3 hs hbl hblk hcl
  go_upto_region 2 with fail
  rw [← hw1]
  clear hw1 hcl2 hfz x0 x1 x2 x3 x4 x5 HBL0 HBW0
  have HBW1 : Hid (Below W.heap.size W w1) := HHW.out.trans ((HB0.out.trans (HW1.out.below (by have := HBX.out; omega) (by have := HBX.out; omega))).mono HHW.out.size)
  have hz1 : bx + 2 ≤ w1.heap.size := by have := HW1.out.size; omega
  obtain ⟨x0, x1, x2, x3, x4, x5⟩ := block6 HBL1.out
  have hs := (HSR.out w1 HBW1.out).2.1
  go_wp2_with (at_builtin; refine wpList_append_src _ rfl _ _ 27 rfl (bx + 2) 53 ic0 _ 4 32 Tryd.underlying27 ic1 ic2 ic3 ic4 rfl (by decide) (.slice none 0 0) 0 [] rfl (World.ownsRow_nil _ _ _ _) _ nc xc rfl hs (by unfold maxLen; omega) (by omega) hz1 ?_)
  intro a2 c2 v2 q1 q2 q3
  have hbl := grown_none q2
  have hblk : v2.heap[bx]? = _ := (hbl.block bx (by omega)).trans HBL1.out
  have hcl := Lib.cell_of_heap hblk 3
  have hcl2 : v2.cell? ⟨bx, 3, none⟩ = some (.slice ac nc cc) := hcl
  have hfz := Lib.frozen_of_heap hblk 3
  obtain ⟨w2, hw2⟩ : ∃ w2, w2 = v2.setCell ⟨bx, 3, none⟩ (.slice a2 nc c2) := ⟨_, rfl⟩
  have HBL2 : Hid (w2.heap[bx]? = some (.cells #[.int .i64 pa', .int .i64 rg', .slice a1 nu c1, .slice a2 nc c2, .slice ak nk ck, .slice ap np cp] 31 (0, 0))) := by rw [hw2]; exact heap_setCell_same _ _ 3 _ _ _ hblk
  have HW2 : Hid (Kb bx w0 w2) := by rw [hw2]; exact (HW1.out.trans (Kb.of_below hbl)).trans (Kb.set _ _ _ _)
  have HRu2 := hide_p (own_setlt (b := bx) (j := 3) (own_below HRu1.out hbl) (by omega) (.slice a2 nc c2))
  rw [← hw2] at HRu2
  clear HRu1
  have HRc2 := hide_p (own_setlt (b := bx) (j := 3) q1 (by omega) (.slice a2 nc c2))
  rw [← hw2] at HRc2
  clear q1 q2 q3 hs hbl hblk hcl
  go_upto_region 3 with fail
  rw [← hw2]
  clear hw2 hcl2 hfz x0 x1 x2 x3 x4 x5 HBL1 HBW1 HW1
  have HBW2 : Hid (Below W.heap.size W w2) := HHW.out.trans ((HB0.out.trans (HW2.out.below (by have := HBX.out; omega) (by have := HBX.out; omega))).mono HHW.out.size)
  have hz2 : bx + 2 ≤ w2.heap.size := by have := HW2.out.size; omega
  obtain ⟨x0, x1, x2, x3, x4, x5⟩ := block6 HBL2.out
  have hs := (HSR.out w2 HBW2.out).2.2.1
  go_wp2_with (at_builtin; refine wpList_append_src _ rfl _ _ 28 rfl (bx + 2) 86 ik0 _ 4 40 Tryd.underlying28 ik1 ik2 ik3 ik4 rfl (by decide) (.slice none 0 0) 0 [] rfl (World.ownsRow_nil _ _ _ _) _ nk xk rfl hs (by unfold maxLen; omega) (by omega) hz2 ?_)
  intro a3 c3 v3 q1 q2 q3
  have hbl := grown_none q2
  have hblk : v3.heap[bx]? = _ := (hbl.block bx (by omega)).trans HBL2.out
  have hcl := Lib.cell_of_heap hblk 4
  have hcl2 : v3.cell? ⟨bx, 4, none⟩ = some (.slice ak nk ck) := hcl
  have hfz := Lib.frozen_of_heap hblk 4
  obtain ⟨w3, hw3⟩ : ∃ w3, w3 = v3.setCell ⟨bx, 4, none⟩ (.slice a3 nk c3) := ⟨_, rfl⟩
  have HBL3 : Hid (w3.heap[bx]? = some (.cells #[.int .i64 pa', .int .i64 rg', .slice a1 nu c1, .slice a2 nc c2, .slice a3 nk c3, .slice ap np cp] 31 (0, 0))) := by rw [hw3]; exact heap_setCell_same _ _ 4 _ _ _ hblk
  have HW3 : Hid (Kb bx w0 w3) := by rw [hw3]; exact (HW2.out.trans (Kb.of_below hbl)).trans (Kb.set _ _ _ _)
  have HRu3 := hide_p (own_setlt (b := bx) (j := 4) (own_below HRu2.out hbl) (by omega) (.slice a3 nk c3))
  rw [← hw3] at HRu3
  clear HRu2
  have HRc3 := hide_p (own_setlt (b := bx) (j := 4) (own_below HRc2.out hbl) (by omega) (.slice a3 nk c3))
  rw [← hw3] at HRc3
  clear HRc2
  have HRk3 := hide_p (own_setlt (b := bx) (j := 4) q1 (by omega) (.slice a3 nk c3))
  rw [← hw3] at HRk3
  clear q1 q2 q3 hs hbl hblk hcl
  go_upto_region 4 with fail
  rw [← hw3]
  clear hw3 hcl2 hfz x0 x1 x2 x3 x4 x5 HBL2 HBW2 HW2
  have HBW3 : Hid (Below W.heap.size W w3) := HHW.out.trans ((HB0.out.trans (HW3.out.below (by have := HBX.out; omega) (by have := HBX.out; omega))).mono HHW.out.size)
  have hz3 : bx + 2 ≤ w3.heap.size := by have := HW3.out.size; omega
  obtain ⟨x0, x1, x2, x3, x4, x5⟩ := block6 HBL3.out
  have hs := (HSR.out w3 HBW3.out).2.2.2
  go_wp2_with (at_builtin; refine wpList_append_src _ rfl _ _ 29 rfl (bx + 2) 31 ip0 _ 6 112 Tryd.underlying29 ip1 ip2 ip3 ip4 rfl (by decide) (.slice none 0 0) 0 [] rfl (World.ownsRow_nil _ _ _ _) _ np xp rfl hs (by unfold maxLen; omega) (by omega) hz3 ?_)
  intro a4 c4 v4 q1 q2 q3
  have hbl := grown_none q2
  have hblk : v4.heap[bx]? = _ := (hbl.block bx (by omega)).trans HBL3.out
  have hcl := Lib.cell_of_heap hblk 5
  have hcl2 : v4.cell? ⟨bx, 5, none⟩ = some (.slice ap np cp) := hcl
  have hfz := Lib.frozen_of_heap hblk 5
  obtain ⟨w4, hw4⟩ : ∃ w4, w4 = v4.setCell ⟨bx, 5, none⟩ (.slice a4 np c4) := ⟨_, rfl⟩
  have HBL4 : Hid (w4.heap[bx]? = some (.cells #[.int .i64 pa', .int .i64 rg', .slice a1 nu c1, .slice a2 nc c2, .slice a3 nk c3, .slice a4 np c4] 31 (0, 0))) := by rw [hw4]; exact heap_setCell_same _ _ 5 _ _ _ hblk
  have HW4 : Hid (Kb bx w0 w4) := by rw [hw4]; exact (HW3.out.trans (Kb.of_below hbl)).trans (Kb.set _ _ _ _)
  have HRu4 := hide_p (own_setlt (b := bx) (j := 5) (own_below HRu3.out hbl) (by omega) (.slice a4 np c4))
  rw [← hw4] at HRu4
  clear HRu3
  have HRc4 := hide_p (own_setlt (b := bx) (j := 5) (own_below HRc3.out hbl) (by omega) (.slice a4 np c4))
  rw [← hw4] at HRc4
  clear HRc3
  have HRk4 := hide_p (own_setlt (b := bx) (j := 5) (own_below HRk3.out hbl) (by omega) (.slice a4 np c4))
  rw [← hw4] at HRk4
  clear HRk3
  have HRp4 := hide_p (own_setlt (b := bx) (j := 5) q1 (by omega) (.slice a4 np c4))
  rw [← hw4] at HRp4
  have HPX : Hid (∀ g, (.slice a4 np c4 : Value).ownBlock = some g → g < w4.heap.size ∧ bx + 2 ≤ g) := fun g hg => by rw [hw4, World.size_setCell]; exact ⟨(q1.lt g hg).2, (q1.lt g hg).1⟩
  clear q1 q2 q3 hs hbl hblk hcl
  go_upto_region 5 with fail
  rw [← hw4]
  clear hw4 hcl2 hfz x0 x1 x2 x3 x4 x5 HBL3 HBW3 HW3
  have HBW4 : Hid (Below W.heap.size W w4) := HHW.out.trans ((HB0.out.trans (HW4.out.below (by have := HBX.out; omega) (by have := HBX.out; omega))).mono HHW.out.size)
  obtain ⟨x0, x1, x2, x3, x4, x5⟩ := block6 HBL4.out
  have HS4 : Hid (bx + 2 ≤ w4.heap.size) := by have := HW4.out.size; show _ ≤ _; omega
  have HOWN : Hid (w4.ownsRow (bx + 2) 31 6 (.slice a4 np c4) np (cellsF np 6 (sixC f))) := by
    have := HRp4.out
    rw [HXS.out.2.2.2, ← HN.out.2.2.2] at this
    exact this
  go_wp2_with fail
  clear x0 x1 x2 x3 x4 x5
  go_loopw [24] (fun t24 wr => ∃ (i : Nat) (y : Nat → Six), i ≤ np ∧ t24 = .int .i64 i ∧ Hid (wr.ownsRow (bx + 2) 31 6 (.slice a4 np c4) np (cellsF np 6 (sixC y))) ∧ Hid (∀ j, i ≤ j → y j = f j) ∧ Hid (∀ j (h : j < ps.length), j < i → PRS (fun b => w4.heap.size ≤ b) wr ps[j] (y j)) ∧ Hid (w4.grownBy wr (Value.slice a4 np c4).ownBlock)) (fun t24 _ => np - (intOf t24).toNat)
  case atStart => exact ⟨0, f, Nat.zero_le _, rfl, HOWN, fun _ _ => rfl, fun j _ hj => absurd hj (Nat.not_lt_zero _), ⟨rfl, rfl, rfl, Nat.le_refl _, fun _ _ _ => rfl⟩⟩
  case round =>
    obtain ⟨i, y, hi, rfl, HO, HY, HQ, HG⟩ := hrel
    have hs4 := HS4.out
    have hszr := HG.out.size
    have HBB : Hid (wr.heap[bx]? = some (.cells #[.int .i64 pa', .int .i64 rg', .slice a1 nu c1, .slice a2 nc c2, .slice a3 nk c3, .slice a4 np c4] 31 (0, 0))) := (HG.out.block bx (by omega) (fun e => by have := (HPX.out bx e.symm).2; omega)).trans HBL4.out
    have HBWr : Hid (Below W.heap.size W wr) := by
      have h1 := HBW4.out
      have h2 := HHW.out.size
      have h3 := HBX.out
      exact ⟨HG.out.os.trans h1.os, HG.out.tape.trans h1.tape, HG.out.output.trans h1.output, by have := h1.size; omega, fun k hk => (HG.out.block k (by omega) (fun e => by have := (HPX.out k e.symm).2; omega)).trans (h1.block k hk)⟩
    by_cases c : i < np
    · have i1 : i < ps.length := by rw [← HN.out.2.2.2]; exact c
      obtain ⟨g, rfl⟩ : ∃ g, a4 = some ⟨g, 0, none⟩ := by
        rcases HO.out.2 with ⟨e, e2⟩ | ⟨g, cap, cur, e, _⟩
        · omega
        · simp only [Value.slice.injEq] at e
          exact ⟨g, e.1⟩
      have hgx := HPX.out g rfl
      obtain ⟨e0, e1, e2, e3, e4, e5⟩ := sixAt HO.out c
      rw [HY.out i (Nat.le_refl _)] at e0 e1 e2 e3 e4 e5
      have hcl : ∀ w', Below wr.heap.size wr w' → Calls Tryd.prog 69 #[(f i).v] w' fun e w'' => ∃ x' : Six, e = .returned x'.v ∧ PRS (fun b => w'.heap.size ≤ b) w'' ps[i] x' ∧ Below w'.heap.size w' w'' := fun w' hb => HI.out ps[i] (List.getElem_mem i1) (f i) W w' (HCH.out i i1) (HBWr.out.trans (hb.mono HBWr.out.size)) (by have := pcnts_get i i1; have := HCN.out; omega)
      unfold Six.v at hcl
      have hfm := six_form (PR.prs _ _ (HCH.out i i1))
      generalize f i = z at *
      obtain ⟨ypa, yrg, yu, yc, yk, yp⟩ := z
      simp only at e0 e1 e2 e3 e4 e5 hcl hfm
      obtain ⟨b1, o1, r1, b2, o2, r2, b3, o3, r3, b4, o4, r4, rfl, rfl, rfl, rfl⟩ := hfm
      have HCL := hide_p hcl
      clear hcl
      go_wp2_with fail
      generalize hWq : World.alloc wr _ = wq
      have hqa : Below wr.heap.size wr wq := by rw [← hWq]; exact (Below.refl _ _).alloc (Nat.le_refl _) _
      have hq0 : Below wr.heap.size wr wq.drew := hqa.drew
      have hbk : wq.drew.heap[wr.heap.size]? = some (.cells #[.int .i64 ypa, .int .i64 yrg, .slice b1 o1 r1, .slice b2 o2 r2, .slice b3 o3 r3, .slice b4 o4 r4] 31 (0, 0)) := by rw [← hWq]; exact heap_alloc_new wr _
      obtain ⟨y0, y1, y2, y3, y4, y5⟩ := block6 hbk
      have y6 : wq.drew.cell? ⟨bx, 5, none⟩ = some (.slice (some ⟨g, 0, none⟩) np c4) := cell_kept hq0 (Nat.le_refl _) (by rw [Lib.cell_of_heap HBB.out]; rfl)
      have hgn1 : bx ≠ g := by omega
      have hgn2 : wr.heap.size ≠ g := by omega
      have ci0 : (0 : Int) ≤ (i : Int) := by omega
      have ci : (i : Int) < (np : Int) := by omega
      clear e0 e1 e2 e3 e4 e5 hbk hWq hqa
      go_region_held3 (fun w' => w'.cell? ⟨bx, 5, none⟩ = some (.slice (some ⟨g, 0, none⟩) np c4) ∧ w'.cell? ⟨wr.heap.size, 0, none⟩ = some (.int .i64 ypa) ∧ w'.cell? ⟨wr.heap.size, 1, none⟩ = some (.int .i64 yrg) ∧ w'.cell? ⟨wr.heap.size, 2, none⟩ = some (.slice b1 o1 r1) ∧ w'.cell? ⟨wr.heap.size, 3, none⟩ = some (.slice b2 o2 r2) ∧ w'.cell? ⟨wr.heap.size, 4, none⟩ = some (.slice b3 o3 r3) ∧ w'.cell? ⟨wr.heap.size, 5, none⟩ = some (.slice b4 o4 r4))
        (first
          | with_reducible refine keep7s ?_ hgn1 hgn2; assumption
          | with_reducible refine keep7 ?_ hbS; assumption
          | (refine ⟨?_, ?_, ?_, ?_, ?_, ?_, ?_⟩ <;> with_reducible assumption))
        (first
          | (go_at_call 69; refine (HCL.out _ hq0).mono ?_; rintro e w2 ⟨x', rfl, hprs, hbS⟩; obtain ⟨d1, m1, k1, d2, m2, k2, d3, m3, k3, d4, m4, k4, h1, h2, h3, h4⟩ := six_form hprs; obtain ⟨xpa, xrg, xu', xc', xk', xp'⟩ := x'; simp only at h1 h2 h3 h4; subst h1 h2 h3 h4; have hq2 := hq0.trans (hbS.mono hq0.size); have ho2 := own_below HO.out hq2; obtain ⟨z0, z1, z2, z3, z4, z5⟩ := sixAt ho2 c; have f0 := ho2.frozenAt (i * 6); have f1 := ho2.frozenAt (i * 6 + 1); have f2 := ho2.frozenAt (i * 6 + 2); have f3 := ho2.frozenAt (i * 6 + 3); have f4 := ho2.frozenAt (i * 6 + 4); have f5 := ho2.frozenAt (i * 6 + 5); have HO2 := hide_p ho2; have HPRS := hide_p hprs; have HQ2 := hide_p hq2; clear ho2 hprs hq2))
      have hsq : wr.heap.size ≤ wq.drew.heap.size := hq0.size
      have HO5 := hide_p (owns_six ⟨xpa, xrg, .slice d1 m1 k1, .slice d2 m2 k2, .slice d3 m3 k3, .slice d4 m4 k4⟩ HO2.out c)
      have HG5 := hide_p (grown_six (o := i * 6) (grown_then HG.out HQ2.out) (.int .i64 xpa) (.int .i64 xrg) (.slice d1 m1 k1) (.slice d2 m2 k2) (.slice d3 m3 k3) (.slice d4 m4 k4))
      have HQ5 : Hid (∀ W5 : World, W5 = (((((w2.setCell ⟨g, i * 6, none⟩ (.int .i64 xpa)).setCell ⟨g, i * 6 + 1, none⟩ (.int .i64 xrg)).setCell ⟨g, i * 6 + 2, none⟩ (.slice d1 m1 k1)).setCell ⟨g, i * 6 + 3, none⟩ (.slice d2 m2 k2)).setCell ⟨g, i * 6 + 4, none⟩ (.slice d3 m3 k3)).setCell ⟨g, i * 6 + 5, none⟩ (.slice d4 m4 k4) →
          ∀ j (h : j < ps.length), j < i + 1 → PRS (fun b => w4.heap.size ≤ b) W5 ps[j] ((fun k => if k = i then ⟨xpa, xrg, .slice d1 m1 k1, .slice d2 m2 k2, .slice d3 m3 k3, .slice d4 m4 k4⟩ else y k) j)) := by
        intro W5 hW5 j hj hj2
        have hsame : ∀ b, w4.heap.size ≤ b → W5.heap[b]? = w2.heap[b]? := fun b hb => by rw [hW5]; exact set6_other (by omega) _ _ _ _ _ _
        by_cases e : j = i
        · subst e
          simp only [if_true]
          exact PRS.same hsame _ _ (PRS.widen (fun b hb => by omega) _ _ HPRS.out)
        · simp only [if_neg e]
          exact PRS.same hsame _ _ (PRS.below HQ2.out (Nat.le_refl _) _ _ (HQ.out j hj (by omega)))
      have HY5 : Hid (∀ j, i + 1 ≤ j → (fun k => if k = i then (⟨xpa, xrg, .slice d1 m1 k1, .slice d2 m2 k2, .slice d3 m3 k3, .slice d4 m4 k4⟩ : Six) else y k) j = f j) := fun j hj => by
        simp only [if_neg (show ¬ j = i by omega)]
        exact HY.out j (by omega)
      have HQ6 := hide_p (HQ5.out _ rfl)
      clear z0 z1 z2 z3 z4 z5 f0 f1 f2 f3 f4 f5 hbS HO2 HPRS HQ2 HQ5 y0 y1 y2 y3 y4 y5 y6
      go_wp2
      go_roundw
      case rel => exact ⟨i + 1, _, by omega, by go_num, HO5, HY5, HQ6, HG5⟩
      case measure => simp [intOf]; omega
    · have e : i = np := by omega
      have hE : ∀ (b : Nat), b < w4.heap.size → some b ≠ (Value.slice a4 np c4).ownBlock → wr.heap[b]? = w4.heap[b]? := fun b hb hne => HG.out.block b hb hne
      have hblk2 : wr.heap[bx + 1]? = some (.cells #[.int .i64 0, .int .i64 0, .slice none 0 0, .slice none 0 0, .slice none 0 0, .slice none 0 0] 31 (0, 0)) := ((HG.out.block (bx + 1) (by omega) (fun e => by have := (HPX.out (bx + 1) e.symm).2; omega)).trans (HW4.out.block (bx + 1) (by omega) (by omega))).trans HK0.out.2
      have ru := HRu4.out.kept HG.out (own_ne HRu4.out HRp4.out (by decide))
      have rc := HRc4.out.kept HG.out (own_ne HRc4.out HRp4.out (by decide))
      have rk := HRk4.out.kept HG.out (own_ne HRk4.out HRp4.out (by decide))
      have hprs : PRS (fun k => bx + 2 ≤ k) wr (.mk pa' rg' us cs ks ps) ⟨pa', rg', .slice a1 nu c1, .slice a2 nc c2, .slice a3 nk c3, .slice a4 np c4⟩ := by
        have hxs := HXS.out
        have hns := HN.out
        rw [PRS_mk]
        refine ⟨rfl, rfl, hpa, hrg, ⟨⟨?_, HOK.out.1⟩, InB.own ru⟩, ⟨⟨?_, HOK.out.2.1⟩, InB.own rc⟩, ⟨⟨?_, HOK.out.2.2⟩, InB.own rk⟩, y, ⟨?_, InB.own HO.out⟩, fun j hj => PRS.widen (fun b hb => by omega) _ _ (HQ.out j hj (by omega))⟩
        · rw [hxs.1, hns.1] at ru
          show SL wr (.slice a1 nu c1) us.length 2 (uppF us)
          rw [hns.1]
          exact SL.of_owns ru (by unfold far; omega) (fun i j hi hj => uppC_F j hi)
        · rw [hxs.2.1, hns.2.1] at rc
          show SL wr (.slice a2 nc c2) cs.length 4 (insF cs)
          rw [hns.2.1]
          exact SL.of_owns rc (by unfold far; omega) (fun i j hi hj => insC_F j hi)
        · rw [hxs.2.2.1, hns.2.2.1] at rk
          show SL wr (.slice a3 nk c3) ks.length 4 (vlF ks)
          rw [hns.2.2.1]
          exact SL.of_owns rk (by unfold far; omega) (fun i j hi hj => vlC_F j hi)
        · have ho := HO.out
          show SL wr (.slice a4 np c4) ps.length 6 _
          rw [← hns.2.2.2]
          exact SL.of_owns ho (by unfold far; omega) (fun _ _ _ _ => rfl)
      have HBw : Below w.heap.size w wr := by
        have h3 := HBX.out
        have h4 := HB0.out.trans (HW4.out.below (B := w.heap.size) (by omega) (by omega))
        exact ⟨HG.out.os.trans h4.os, HG.out.tape.trans h4.tape, HG.out.output.trans h4.output, by have := h4.size; omega, fun k hk => (HG.out.block k (by omega) (fun e => by have := (HPX.out k e.symm).2; omega)).trans (h4.block k hk)⟩
      have HKK : Hid (∀ W : World, W = (((((wr.setCell ⟨bx + 1, 0, none⟩ (.int .i64 pa')).setCell ⟨bx + 1, 1, none⟩ (.int .i64 rg')).setCell ⟨bx + 1, 2, none⟩ (.slice a1 nu c1)).setCell ⟨bx + 1, 3, none⟩ (.slice a2 nc c2)).setCell ⟨bx + 1, 4, none⟩ (.slice a3 nk c3)).setCell ⟨bx + 1, 5, none⟩ (.slice a4 np c4) →
          W.heap[bx + 1]? = some (.cells #[.int .i64 pa', .int .i64 rg', .slice a1 nu c1, .slice a2 nc c2, .slice a3 nk c3, .slice a4 np c4] 31 (0, 0)) ∧ PRS (fun k => w.heap.size ≤ k) W (.mk pa' rg' us cs ks ps) ⟨pa', rg', .slice a1 nu c1, .slice a2 nc c2, .slice a3 nk c3, .slice a4 np c4⟩ ∧ Below w.heap.size w W) := by
        intro W hW
        subst hW
        have hbxw := HBX.out
        refine ⟨?_, ?_, ?_⟩
        · have z1 := heap_setCell_same _ _ 0 _ _ (.int .i64 pa') hblk2
          have z2 := heap_setCell_same _ _ 1 _ _ (.int .i64 rg') z1
          have z3 := heap_setCell_same _ _ 2 _ _ (.slice a1 nu c1) z2
          have z4 := heap_setCell_same _ _ 3 _ _ (.slice a2 nc c2) z3
          have z5 := heap_setCell_same _ _ 4 _ _ (.slice a3 nk c3) z4
          exact heap_setCell_same _ _ 5 _ _ (.slice a4 np c4) z5
        · refine PRS.widen (fun b hb => by omega) _ _ (PRS.same (S := fun k => bx + 2 ≤ k) (fun q hq => ?_) _ _ hprs)
          exact set6_other (o := 0) (by omega) _ _ _ _ _ _
        · exact (((((HBw.setCell (by simp; omega) _).setCell (by simp; omega) _).setCell (by simp; omega) _).setCell (by simp; omega) _).setCell (by simp; omega) _).setCell (by simp; omega) _
      obtain ⟨k0, k1, k2, k3, k4, k5⟩ := block6 HBB.out
      obtain ⟨d0, d1, d2, d3, d4, d5⟩ := block6 hblk2
      have g0 := Lib.frozen_of_heap hblk2 0
      have g1 := Lib.frozen_of_heap hblk2 1
      have g2 := Lib.frozen_of_heap hblk2 2
      have g3 := Lib.frozen_of_heap hblk2 3
      have g4 := Lib.frozen_of_heap hblk2 4
      have g5 := Lib.frozen_of_heap hblk2 5
      subst e
      clear hE ru rc rk hprs hblk2 HBw hszr hs4
      go_wp2
      obtain ⟨y1, y2, y3⟩ := HKK.out _ rfl
      exact bodyPost_ret (results_cell_row rfl _ _ (bx + 1) _ _ _ _ rfl y1 Tryd.underlying31 rfl infoP) rfl ⟨⟨pa', rg', .slice a1 nu c1, .slice a2 nc c2, .slice a3 nk c3, .slice a4 i c4⟩, rfl, y2, y3⟩

end Go.Proofs.YtnigmiokadpajaaDoor
namespace Go.Proofs.YtnigmiokadpajaaDoor
set_option maxRecDepth 100000
open Go.RowKit Crc Pg

theorem pcnts_take (ps : List Pr) (i : Nat) (h : i < ps.length) : pcnts (ps.take i) + ps[i].cnt ≤ pcnts ps := by
  have h1 := pcnts_append (ps.take (i + 1)) (ps.drop (i + 1))
  rw [List.take_append_drop, List.take_succ_eq_append_getElem h, pcnts_append, pcnts_cons, pcnts_nil] at h1
  omega

set_option maxHeartbeats 16000000 in
theorem flatten_any : ∀ (t : Pr) (x : Six) (W w : World) (B : Nat) (v : Value) (ts : List Pr) (y : Nat → Six), PR W t x → Below W.heap.size W w → W.heap.size ≤ B → B ≤ w.heap.size → PW 31 w B v ts y → ts.length + t.cnt ≤ 100000 →
    Calls Tryd.prog 44 #[v, x.v] w fun e w' => ∃ (v' : Value) (y' : Nat → Six), e = .returned v' ∧ PW 31 w' B v' (ts ++ flatT t) y' ∧ Below B w w' := by
  refine Pr.ind' fun pa rg us cs ks ps ih => ?_
  intro x W w B v ts y h hW hWB hB hpw hcnt
  have HPR := hide_p h
  have hcop := fun w' hb hc => copied_any (.mk pa rg us cs ks ps) x W w' h hb hc
  rw [PR_mk] at h
  obtain ⟨pa', rg', vu, vc, vk, vp⟩ := x
  simp only at h
  obtain ⟨rfl, rfl, hpa, hrg, hu, hc, hk, f, hp, hch⟩ := h
  obtain ⟨au, cu, rfl, -, -, -⟩ := hu.1.val
  obtain ⟨ac, cc, rfl, -, -, -⟩ := hc.1.val
  obtain ⟨ak, ck, rfl, -, -, -⟩ := hk.1.val
  obtain ⟨ap, cp, rfl, hpl, hpc, lp⟩ := hp.val
  obtain ⟨ip0, ip1, ip2, ip3, ip4⟩ := info_parts infoProto
  obtain ⟨n0, hn0⟩ : ∃ n, n = ts.length := ⟨_, rfl⟩
  have hform := owns_form hpw.own
  obtain ⟨a0, c0, rfl⟩ := hform
  rw [flatT_mk]
  have hcnt2 := hcnt
  rw [Pr.cnt_mk] at hcnt
  unfold Six.v at hcop ⊢
  simp only at hcop ⊢
  generalize us.length = nu at *
  generalize cs.length = nc at *
  generalize ks.length = nk at *
  have HI : Hid _ := ih
  have HCH := (show Hid (∀ i (h : i < ps.length), PR W ps[i] (f i)) from hch)
  have HFL : Hid (∀ i, i ≤ ps.length → ts.length + (flatL [.mk pa' rg' us cs ks ps] (ps.take i)).length + pcnts (ps.drop i) ≤ 100000) := by
    intro i hi
    have h1 := flatL_len (ps.take i) (fun q hq => flatT_len q) [.mk pa' rg' us cs ks ps]
    have h2 := pcnts_append (ps.take i) (ps.drop i)
    rw [List.take_append_drop] at h2
    simp only [List.length_singleton] at h1
    omega
  obtain ⟨np, hnp⟩ : ∃ n, n = ps.length := ⟨_, rfl⟩
  have HNP := hide_p hnp
  have HSP : Hid (SL W (.slice ap np cp) ps.length 6 (fun i j u => u = (f i).at j)) := by rw [hnp]; exact hp
  have hl4 : ps.length ≤ 100000 := by have := plen_cnts ps; omega
  rw [← hnp] at hcop hl4 ⊢
  rw [← hn0] at hpw ⊢
  have HHW := hide_p hW
  have HPW := hide_p hpw
  obtain ⟨bx, hbx⟩ : ∃ bx, bx = w.heap.size := ⟨_, rfl⟩
  obtain ⟨w0, hw0⟩ : ∃ w0, w0 = w.alloc (.cells #[.int .i64 pa', .int .i64 rg', .slice au nu cu, .slice ac nc cc, .slice ak nk ck, .slice ap np cp] 31) := ⟨_, rfl⟩
  have hs0 : w0.heap.size = bx + 1 := by rw [hw0, hbx]; simp
  have HB0 : Hid (Below w.heap.size w w0) := by rw [hw0]; exact (Below.refl _ _).alloc (Nat.le_refl _) _
  have HK0 : Hid (w0.heap[bx]? = some (.cells #[.int .i64 pa', .int .i64 rg', .slice au nu cu, .slice ac nc cc, .slice ak nk ck, .slice ap np cp] 31 (0, 0))) := by rw [hw0, hbx]; exact heap_alloc_new w _
  have hcop0 := hcop w0 (HHW.out.trans (HB0.out.mono HHW.out.size)) (by omega)
  obtain ⟨x0, x1, x2, x3, x4, x5⟩ := block6 HK0.out
  have hn1 : n0 ≤ 100000 := by omega
  have HN0 := hide_p hn0
  clear hu hc hk hp hch ih hnp hpl hpc lp hW hpw hcop hcnt hcnt2 hn0
  go_enter Tryd.func44, Tryd.ntmps44
  go_upto_region 1 with fail
  rw [← hw0]
  rw [← hbx]
  have HBX := hide_p hbx
  rw [← hbx] at hB
  clear hw0 hbx
  go_wp2_with fail
  refine hcop0.mono ?_
  rintro e w2 ⟨x', rfl, hprs, hbw2⟩
  obtain ⟨a1, n1, c1, a2, n2, c2, a3, n3, c3, a4, n4, c4, h1, h2, h3, h4⟩ := six_form hprs
  obtain ⟨xpa, xrg, xu', xc', xk', xp'⟩ := x'
  simp only at h1 h2 h3 h4
  subst h1 h2 h3 h4
  have hs2 := hbw2.size
  have HBw2 : Hid (Below w.heap.size w w2) := HB0.out.trans (hbw2.mono (by have := HBX.out; omega))
  have HPW2 : Hid (PW 31 (w2.alloc (.cells #[.int .i64 xpa, .int .i64 xrg, .slice a1 n1 c1, .slice a2 n2 c2, .slice a3 n3 c3, .slice a4 n4 c4] 31)) B (.slice a0 n0 c0) ts y) := (HPW.out.below HBw2.out).below ((Below.refl _ _).alloc (Nat.le_refl _) _)
  have HX2 : Hid (PRS (fun b => B ≤ b ∧ some b ≠ (Value.slice a0 n0 c0).ownBlock) (w2.alloc (.cells #[.int .i64 xpa, .int .i64 xrg, .slice a1 n1 c1, .slice a2 n2 c2, .slice a3 n3 c3, .slice a4 n4 c4] 31)) (.mk pa' rg' us cs ks ps) ⟨xpa, xrg, .slice a1 n1 c1, .slice a2 n2 c2, .slice a3 n3 c3, .slice a4 n4 c4⟩) := by
    refine PRS.below ((Below.refl _ _).alloc (Nat.le_refl _) _) (Nat.le_refl _) _ _ (PRS.widen (fun b hb => ⟨by omega, fun e => ?_⟩) _ _ hprs)
    have := (HPW.out.own.lt b e.symm).2
    have := HBX.out
    omega
  have hown : (w2.alloc (.cells #[.int .i64 xpa, .int .i64 xrg, .slice a1 n1 c1, .slice a2 n2 c2, .slice a3 n3 c3, .slice a4 n4 c4] 31)).ownsRow B 31 6 (.slice a0 n0 c0) n0 (cellsF n0 6 (sixC y)) := by
    have := HPW2.out.own
    rw [← HN0.out] at this
    exact this
  have hsrc : Src (w2.alloc (.cells #[.int .i64 xpa, .int .i64 xrg, .slice a1 n1 c1, .slice a2 n2 c2, .slice a3 n3 c3, .slice a4 n4 c4] 31)) 6 (.slice (some ⟨w2.heap.size, 0, none⟩) 1 1) 1 (cellsF 1 6 (sixC fun _ => ⟨xpa, xrg, .slice a1 n1 c1, .slice a2 n2 c2, .slice a3 n3 c3, .slice a4 n4 c4⟩)) := by
    have e6 : cellsF 1 6 (sixC fun _ => ⟨xpa, xrg, .slice a1 n1 c1, .slice a2 n2 c2, .slice a3 n3 c3, .slice a4 n4 c4⟩) = [.int .i64 xpa, .int .i64 xrg, .slice a1 n1 c1, .slice a2 n2 c2, .slice a3 n3 c3, .slice a4 n4 c4] := rfl
    rw [e6]
    refine Or.inr ⟨⟨w2.heap.size, 0, none⟩, 1, rfl, rfl, fun j u hu => ?_, fun u hu => ?_⟩
    · rw [addr_add, Nat.zero_add, World.cell?_alloc_new]
      simpa using hu
    · simp only [List.mem_cons, List.not_mem_nil, or_false] at hu
      rcases hu with rfl | rfl | rfl | rfl | rfl | rfl <;> rfl
  have HSN : Hid (∀ (w4 : World) (a' : Option Addr) (c' : Nat), w4.ownsRow B 31 6 (.slice a' (n0 + 1) c') (n0 + 1) (cellsF n0 6 (sixC y) ++ cellsF 1 6 (sixC fun _ => ⟨xpa, xrg, .slice a1 n1 c1, .slice a2 n2 c2, .slice a3 n3 c3, .slice a4 n4 c4⟩)) → (w2.alloc (.cells #[.int .i64 xpa, .int .i64 xrg, .slice a1 n1 c1, .slice a2 n2 c2, .slice a3 n3 c3, .slice a4 n4 c4] 31)).grownBy w4 (Value.slice a0 n0 c0).ownBlock → ((Value.slice a' (n0 + 1) c').ownBlock = (Value.slice a0 n0 c0).ownBlock ∨ (Value.slice a' (n0 + 1) c').ownBlock = some (w2.alloc (.cells #[.int .i64 xpa, .int .i64 xrg, .slice a1 n1 c1, .slice a2 n2 c2, .slice a3 n3 c3, .slice a4 n4 c4] 31)).heap.size) →
      ∃ y', PW 31 w4 B (.slice a' (n0 + 1) c') (ts ++ flatL [.mk pa' rg' us cs ks ps] (ps.take 0)) y') := by
    intro w4 a' c' q1 q2 q3
    have := HPW2.out.snoc (a' := a') (c' := c') HX2.out (by rw [← HN0.out]; exact q1) q2 (by rw [← HN0.out]; exact q3)
    rw [← HN0.out] at this
    exact ⟨_, this⟩
  have HB3 : Hid (Below B w (w2.alloc (.cells #[.int .i64 xpa, .int .i64 xrg, .slice a1 n1 c1, .slice a2 n2 c2, .slice a3 n3 c3, .slice a4 n4 c4] 31))) := (HBw2.out.mono (by have := HBX.out; omega)).alloc (by omega) _
  have HBL2 : Hid (w2.heap[bx]? = _) := (hbw2.block bx (by omega)).trans HK0.out
  clear hprs hbw2 hcop0 x0 x1 x2 x3 x4 x5
  go_wp2_with (at_builtin; refine wpList_append_src _ rfl _ _ 29 rfl B 31 ip0 _ 6 112 Tryd.underlying29 ip1 ip2 ip3 ip4 rfl (by decide) _ n0 _ rfl hown _ 1 _ rfl hsrc (by unfold maxLen; omega) (by omega) (by simp; omega) ?_)
  intro a' c' w4 q1 q2 q3
  have HPW4 := hide_p (HSN.out w4 a' c' q1 q2 (by simpa using q3))
  have HB4 : Hid (Below B w w4) := HB3.out.grown q2 (by simp; omega) (fun k hk => (hown.lt k hk).1)
  have x5 : w4.cell? ⟨bx, 5, none⟩ = some (.slice ap np cp) := by
    have hne : some bx ≠ (Value.slice a0 n0 c0).ownBlock := fun e => by have := (HPW.out.own.lt bx e.symm).2; have := HBX.out; omega
    rw [q2.cell_far ⟨bx, 5, none⟩ (by simp; omega) hne, World.cell?_alloc_lt _ _ _ (by simp; omega), Lib.cell_of_heap HBL2.out]
    rfl
  have hs4 : B ≤ w4.heap.size := by have := q2.size; simp at this; omega
  clear q1 q2 q3 hown hsrc HSN HPW2 HX2 HB3 HBL2
  obtain ⟨y', hy'⟩ := HPW4.out
  have HPW5 := hide_p hy'
  clear hy' HPW4
  go_wp2_with fail
  go_loopw [0, 15] (fun t0 t15 wr => ∃ (i : Nat) (y : Nat → Six), i ≤ np ∧ t15 = .int .i64 i ∧ Hid (PW 31 wr B t0 (ts ++ flatL [.mk pa' rg' us cs ks ps] (ps.take i)) y) ∧ Hid (Below B w wr)) (fun _ t15 _ => np - (intOf t15).toNat)
  case atStart => exact ⟨0, y', Nat.zero_le _, rfl, HPW5, HB4⟩
  case round =>
    obtain ⟨i, yr, hi, rfl, HP, HB⟩ := hrel
    have HBW : Hid (Below W.heap.size W wr) := HHW.out.trans (HB.out.mono hWB)
    have hszr : B ≤ wr.heap.size := by have := HB.out.size; have := HBX.out; omega
    by_cases c : i < np
    · have i1 : i < ps.length := by rw [← HNP.out]; exact c
      obtain ⟨-, g, o, rfl, e0, e1, e2, e3, e4, e5⟩ := SP.get (HSP.out.kept HBW.out (Nat.le_refl _)) i1
      have HTK : Hid (flatL [.mk pa' rg' us cs ks ps] (ps.take (i + 1)) = flatL [.mk pa' rg' us cs ks ps] (ps.take i) ++ flatT ps[i]) := flatL_take _ _ i i1
      have hbd := HFL.out i (by have := HNP.out; omega)
      have hdr : ps[i].cnt ≤ pcnts (ps.drop i) := by rw [List.drop_eq_getElem_cons i1, pcnts_cons]; omega
      have hcl : ∀ w', Below wr.heap.size wr w' → Calls Tryd.prog 44 #[u0, (f i).v] w' fun e w'' => ∃ (v' : Value) (y' : Nat → Six), e = .returned v' ∧ PW 31 w'' B v' (ts ++ flatL [.mk pa' rg' us cs ks ps] (ps.take i) ++ flatT ps[i]) y' ∧ Below B w' w'' := fun w' hb => HI.out ps[i] (List.getElem_mem i1) (f i) W w' B u0 _ yr (HCH.out i i1) (HBW.out.trans (hb.mono HBW.out.size)) hWB (by have := hb.size; omega) (HP.out.below hb) (by rw [List.length_append]; omega)
      have HCL : Hid (∀ w', Below wr.heap.size wr w' → Calls Tryd.prog 44 #[u0, (f i).v] w' fun e w'' => ∃ (v' : Value) (y' : Nat → Six), e = .returned v' ∧ PW 31 w'' B v' (ts ++ flatL [.mk pa' rg' us cs ks ps] (ps.take (i + 1))) y' ∧ Below B w' w'') := by
        rw [HTK.out, ← List.append_assoc]
        exact hcl
      have hfm := six_form (PR.prs _ _ (HCH.out i i1))
      obtain ⟨a9, c9, h9⟩ := owns_form HP.out.own
      clear hcl hbd hdr HTK
      unfold Six.v at HCL
      generalize f i = z at *
      obtain ⟨ypa, yrg, yu, yc, yk, yp⟩ := z
      simp only at e0 e1 e2 e3 e4 e5 HCL hfm
      obtain ⟨b1, o1, r1, b2, o2, r2, b3, o3, r3, b4, o4, r4, rfl, rfl, rfl, rfl⟩ := hfm
      clear h9
      go_wp2_with fail
      refine (HCL.out _ ((Below.refl _ _).alloc (Nat.le_refl _) _)).mono ?_
      rintro e w3 ⟨v3, y3, rfl, hp3, hb3⟩
      have HP3 := hide_p hp3
      have HB3 : Hid (Below B w w3) := (HB.out.alloc (by omega) _).trans hb3
      clear hp3 hb3 e0 e1 e2 e3 e4 e5
      go_wp2
      go_roundw
      case rel => exact ⟨i + 1, y3, by omega, by go_num, HP3, HB3⟩
      case measure => simp [intOf]; omega
    · have e : i = np := by omega
      have hfw := HP.out
      rw [List.take_of_length_le (by have := HNP.out; omega)] at hfw
      have HFW := hide_p hfw
      subst e
      clear hfw HP
      go_wp2
      go_ret
      exact ⟨_, yr, rfl, HFW.out, HB.out⟩

set_option maxHeartbeats 1000000 in
theorem flat_any (t : Pr) (x : Six) (W w : World) (h : PR W t x) (hW : Below W.heap.size W w) (hc : t.cnt ≤ 100000) :
    Calls Tryd.prog 20 #[x.v] w fun e w' => ∃ (v : Value) (y : Nat → Six), e = .returned v ∧ PW 31 w' w.heap.size v (flatT t) y ∧ Below w.heap.size w w' := by
  have hforms := six_form (PR.prs _ _ h)
  have hfl : ∀ o : Obj, Calls Tryd.prog 44 #[.slice none 0 0, x.v] (w.alloc o) fun e w' => ∃ (v : Value) (y : Nat → Six), e = .returned v ∧ PW 31 w' w.heap.size v (flatT t) y ∧ Below w.heap.size w w' := by
    intro o
    have hb : Below w.heap.size w (w.alloc o) := (Below.refl _ _).alloc (Nat.le_refl _) _
    refine (flatten_any t x W (w.alloc o) w.heap.size (.slice none 0 0) [] (fun _ => x) h (hW.trans (hb.mono hW.size)) hW.size hb.size (PW.nil _ ?_) (by simpa using hc)).mono ?_
    · exact ⟨rfl, Or.inl ⟨rfl, rfl⟩⟩
    · rintro e w' ⟨v, y, rfl, hp, hb2⟩
      exact ⟨v, y, rfl, by simpa using hp, hb.trans hb2⟩
  obtain ⟨pa, rg, vu, vc, vk, vp⟩ := x
  simp only at hforms
  obtain ⟨a1, n1, c1, a2, n2, c2, a3, n3, c3, a4, n4, c4, rfl, rfl, rfl, rfl⟩ := hforms
  unfold Six.v at hfl ⊢
  simp only at hfl ⊢
  clear h hW hc
  go_enter Tryd.func20, Tryd.ntmps20
  go_wp2_with fail
  refine (hfl _).mono ?_
  rintro e w2 ⟨v, y, rfl, hp, hb⟩
  have HP := hide_p hp
  have HB := hide_p hb
  clear hp hb hfl
  go_wp2
  go_ret
  exact ⟨_, y, rfl, HP.out, HB.out⟩

end Go.Proofs.YtnigmiokadpajaaDoor
namespace Go.Proofs.YtnigmiokadpajaaDoor
set_option maxRecDepth 100000
open Go.RowKit Crc Pg

theorem sameT_refl : ∀ t : Tr, sameT t t = true := by
  refine (Tr.ind (Q := fun ts => sameL ts ts = true) (fun k n s ts ih => ?_) sameL_nn (fun t ts h1 h2 => ?_)).1
  · rw [sameT_mk]
    simp [ih]
  · rw [sameL_cc, h1, h2]
    rfl

theorem keep12 {W w' : World} {B C : Nat} {u0 u1 u2 u3 u4 u5 z0 z1 z2 z3 z4 z5 : Value} (h : W.cell? ⟨B, 0, none⟩ = some u0 ∧ W.cell? ⟨B, 1, none⟩ = some u1 ∧ W.cell? ⟨B, 2, none⟩ = some u2 ∧ W.cell? ⟨B, 3, none⟩ = some u3 ∧ W.cell? ⟨B, 4, none⟩ = some u4 ∧ W.cell? ⟨B, 5, none⟩ = some u5 ∧ W.cell? ⟨C, 0, none⟩ = some z0 ∧ W.cell? ⟨C, 1, none⟩ = some z1 ∧ W.cell? ⟨C, 2, none⟩ = some z2 ∧ W.cell? ⟨C, 3, none⟩ = some z3 ∧ W.cell? ⟨C, 4, none⟩ = some z4 ∧ W.cell? ⟨C, 5, none⟩ = some z5) (k : Below W.heap.size W w') : w'.cell? ⟨B, 0, none⟩ = some u0 ∧ w'.cell? ⟨B, 1, none⟩ = some u1 ∧ w'.cell? ⟨B, 2, none⟩ = some u2 ∧ w'.cell? ⟨B, 3, none⟩ = some u3 ∧ w'.cell? ⟨B, 4, none⟩ = some u4 ∧ w'.cell? ⟨B, 5, none⟩ = some u5 ∧ w'.cell? ⟨C, 0, none⟩ = some z0 ∧ w'.cell? ⟨C, 1, none⟩ = some z1 ∧ w'.cell? ⟨C, 2, none⟩ = some z2 ∧ w'.cell? ⟨C, 3, none⟩ = some z3 ∧ w'.cell? ⟨C, 4, none⟩ = some z4 ∧ w'.cell? ⟨C, 5, none⟩ = some z5 := by
  obtain ⟨h0, h1, h2, h3, h4, h5, g0, g1, g2, g3, g4, g5⟩ := h
  exact ⟨cell_kept k (Nat.le_refl _) h0, cell_kept k (Nat.le_refl _) h1, cell_kept k (Nat.le_refl _) h2, cell_kept k (Nat.le_refl _) h3, cell_kept k (Nat.le_refl _) h4, cell_kept k (Nat.le_refl _) h5, cell_kept k (Nat.le_refl _) g0, cell_kept k (Nat.le_refl _) g1, cell_kept k (Nat.le_refl _) g2, cell_kept k (Nat.le_refl _) g3, cell_kept k (Nat.le_refl _) g4, cell_kept k (Nat.le_refl _) g5⟩

set_option maxHeartbeats 4000000 in
theorem rsameP_any (t u : Pr) (x y : Six) (W w : World) (h : PR W t x) (h' : PR W u y) (hW : Below W.heap.size W w) (hc : t.cnt ≤ 100000) (hc' : u.cnt ≤ 100000) :
    Calls Tryd.prog 22 #[x.v, y.v] w fun e w' => e = .returned (.bool (sameT (cellT t) (cellT u))) ∧ Below w.heap.size w w' := by
  have hforms := six_form (PR.prs _ _ h)
  have hforms' := six_form (PR.prs _ _ h')
  have HX : Hid (∀ w', Below w.heap.size w w' → Calls Tryd.prog 25 #[x.v] w' fun e w'' => ∃ v, e = .returned v ∧ CR w'' (cellT t) v ∧ Below w'.heap.size w' w'') := fun w' hb => by
    refine (rtoCell_any t x W w' h (hW.trans (hb.mono hW.size)) hc).mono ?_
    rintro e w'' ⟨v, he, hcs, hb2⟩
    exact ⟨v, he, hcs.cr, hb2⟩
  have HY : Hid (∀ w', Below w.heap.size w w' → ∀ v, CR w' (cellT t) v → Calls Tryd.prog 25 #[y.v] w' fun e w'' => ∃ v', e = .returned v' ∧ Below w'.heap.size w' w'' ∧ Calls Tryd.prog 24 #[v, v'] w'' (fun e w3 => e = .returned (.bool (sameT (cellT t) (cellT u))) ∧ Below w''.heap.size w'' w3)) := fun w' hb v hv => by
    refine (rtoCell_any u y W w' h' (hW.trans (hb.mono hW.size)) hc').mono ?_
    rintro e w'' ⟨v', he, hcs, hb2⟩
    exact ⟨v', he, hb2, same_any ((cellT t).dep + 1) _ _ _ _ _ (by omega) (hv.kept hb2 (Nat.le_refl _)) hcs.cr⟩
  obtain ⟨pa, rg, vu, vc, vk, vp⟩ := x
  simp only at hforms
  obtain ⟨a1, n1, c1, a2, n2, c2, a3, n3, c3, a4, n4, c4, rfl, rfl, rfl, rfl⟩ := hforms
  obtain ⟨qpa, qrg, qvu, qvc, qvk, qvp⟩ := y
  simp only at hforms'
  obtain ⟨b1, o1, r1, b2, o2, r2, b3, o3, r3, b4, o4, r4, rfl, rfl, rfl, rfl⟩ := hforms'
  unfold Six.v at HX HY ⊢
  simp only at HX HY ⊢
  generalize sameT (cellT t) (cellT u) = R at *
  obtain ⟨w0, hw0⟩ : ∃ w0, w0 = (w.alloc (.cells #[.int .i64 pa, .int .i64 rg, .slice a1 n1 c1, .slice a2 n2 c2, .slice a3 n3 c3, .slice a4 n4 c4] 31)).alloc (.cells #[.int .i64 qpa, .int .i64 qrg, .slice b1 o1 r1, .slice b2 o2 r2, .slice b3 o3 r3, .slice b4 o4 r4] 31) := ⟨_, rfl⟩
  have HB0 : Hid (Below w.heap.size w w0) := by rw [hw0]; exact ((Below.refl _ _).alloc (Nat.le_refl _) _).alloc (by simp) _
  have HA0 : Hid (∀ j, w0.cell? ⟨w.heap.size, j, none⟩ = (#[.int .i64 pa, .int .i64 rg, .slice a1 n1 c1, .slice a2 n2 c2, .slice a3 n3 c3, .slice a4 n4 c4] : Array Value)[j]?) := by
    intro j
    rw [hw0, World.cell?_alloc_lt _ _ _ (by simp), World.cell?_alloc_new]
  have HA1 : Hid (∀ j, w0.cell? ⟨w.heap.size + 1, j, none⟩ = (#[.int .i64 qpa, .int .i64 qrg, .slice b1 o1 r1, .slice b2 o2 r2, .slice b3 o3 r3, .slice b4 o4 r4] : Array Value)[j]?) := by
    intro j
    rw [hw0]
    simp
  have x0 : w0.cell? ⟨w.heap.size, 0, none⟩ = some (.int .i64 pa) := HA0.out 0
  have x1 : w0.cell? ⟨w.heap.size, 1, none⟩ = some (.int .i64 rg) := HA0.out 1
  have x2 : w0.cell? ⟨w.heap.size, 2, none⟩ = some (.slice a1 n1 c1) := HA0.out 2
  have x3 : w0.cell? ⟨w.heap.size, 3, none⟩ = some (.slice a2 n2 c2) := HA0.out 3
  have x4 : w0.cell? ⟨w.heap.size, 4, none⟩ = some (.slice a3 n3 c3) := HA0.out 4
  have x5 : w0.cell? ⟨w.heap.size, 5, none⟩ = some (.slice a4 n4 c4) := HA0.out 5
  have y0 : w0.cell? ⟨w.heap.size + 1, 0, none⟩ = some (.int .i64 qpa) := HA1.out 0
  have y1 : w0.cell? ⟨w.heap.size + 1, 1, none⟩ = some (.int .i64 qrg) := HA1.out 1
  have y2 : w0.cell? ⟨w.heap.size + 1, 2, none⟩ = some (.slice b1 o1 r1) := HA1.out 2
  have y3 : w0.cell? ⟨w.heap.size + 1, 3, none⟩ = some (.slice b2 o2 r2) := HA1.out 3
  have y4 : w0.cell? ⟨w.heap.size + 1, 4, none⟩ = some (.slice b3 o3 r3) := HA1.out 4
  have y5 : w0.cell? ⟨w.heap.size + 1, 5, none⟩ = some (.slice b4 o4 r4) := HA1.out 5
  have hq1 : Below w.heap.size w w0.drew := HB0.out.drew
  clear h h' hW hc hc' HA0 HA1
  go_enter Tryd.func22, Tryd.ntmps22
  go_upto_region 1 with fail
  rw [← hw0]
  clear hw0
  go_region_held3 (fun w' => w'.cell? ⟨w.heap.size, 0, none⟩ = some (.int .i64 pa) ∧ w'.cell? ⟨w.heap.size, 1, none⟩ = some (.int .i64 rg) ∧ w'.cell? ⟨w.heap.size, 2, none⟩ = some (.slice a1 n1 c1) ∧ w'.cell? ⟨w.heap.size, 3, none⟩ = some (.slice a2 n2 c2) ∧ w'.cell? ⟨w.heap.size, 4, none⟩ = some (.slice a3 n3 c3) ∧ w'.cell? ⟨w.heap.size, 5, none⟩ = some (.slice a4 n4 c4) ∧ w'.cell? ⟨w.heap.size + 1, 0, none⟩ = some (.int .i64 qpa) ∧ w'.cell? ⟨w.heap.size + 1, 1, none⟩ = some (.int .i64 qrg) ∧ w'.cell? ⟨w.heap.size + 1, 2, none⟩ = some (.slice b1 o1 r1) ∧ w'.cell? ⟨w.heap.size + 1, 3, none⟩ = some (.slice b2 o2 r2) ∧ w'.cell? ⟨w.heap.size + 1, 4, none⟩ = some (.slice b3 o3 r3) ∧ w'.cell? ⟨w.heap.size + 1, 5, none⟩ = some (.slice b4 o4 r4))
    (first
      | exact keep12 (by assumption) hbS
      | go_keep)
    (first
      | (go_at_call 24; refine hsm.mono ?_; rintro e w4 ⟨rfl, hbS⟩; have hq4 := hq3.trans (hbS.mono hq3.size))
      | (go_at_call 25; refine (HY.out _ hq2 _ hcr).mono ?_; rintro e w3 ⟨v3, rfl, hbS, hsm⟩; have hq3 := hq2.trans (hbS.mono hq2.size))
      | (go_at_call 25; refine (HX.out _ hq1).mono ?_; rintro e w2 ⟨v2, rfl, hcr, hbS⟩; have hq2 := hq1.trans (hbS.mono hq1.size)))
  all_goals go_wp2
  all_goals go_ret
  all_goals exact ⟨rfl, hq4⟩

end Go.Proofs.YtnigmiokadpajaaDoor
namespace Go.Proofs.YtnigmiokadpajaaDoor
set_option maxRecDepth 100000
open Go.RowKit Crc Txt Pg

theorem flatT_cnt : ∀ (t : Pr), ∀ r ∈ flatT t, r.cnt ≤ t.cnt := by
  refine Pr.ind' fun pa rg us cs ks ps ih => ?_
  have key : ∀ (qs : List Pr), (∀ q ∈ qs, q ∈ ps) → ∀ l : List Pr, (∀ r ∈ l, r.cnt ≤ (Pr.mk pa rg us cs ks ps).cnt) → ∀ r ∈ flatL l qs, r.cnt ≤ (Pr.mk pa rg us cs ks ps).cnt := by
    intro qs
    induction qs with
    | nil => exact fun _ l hl r hr => hl r hr
    | cons q qs ihq =>
      intro hq l hl r hr
      refine ihq (fun q' h' => hq q' (List.mem_cons_of_mem _ h')) (l ++ flatT q) (fun r' hr' => ?_) r hr
      rcases List.mem_append.1 hr' with h | h
      · exact hl r' h
      · have hm := hq q List.mem_cons_self
        have h1 := ih q hm r' h
        obtain ⟨i, hi, he⟩ := List.getElem_of_mem hm
        have h2 := pcnts_get i hi
        rw [he] at h2
        rw [Pr.cnt_mk]
        omega
  intro r hr
  rw [flatT_mk] at hr
  exact key ps (fun _ h => h) _ (fun r' h' => by rw [List.mem_singleton.1 h']; exact Nat.le_refl _) r hr

theorem keep6f {W w' : World} {B : Nat} {u0 u1 u2 u3 u4 u5 : Value} (h : W.cell? ⟨B, 0, none⟩ = some u0 ∧ W.cell? ⟨B, 1, none⟩ = some u1 ∧ W.cell? ⟨B, 2, none⟩ = some u2 ∧ W.cell? ⟨B, 3, none⟩ = some u3 ∧ W.cell? ⟨B, 4, none⟩ = some u4 ∧ W.cell? ⟨B, 5, none⟩ = some u5) (k : Below W.heap.size W w') : w'.cell? ⟨B, 0, none⟩ = some u0 ∧ w'.cell? ⟨B, 1, none⟩ = some u1 ∧ w'.cell? ⟨B, 2, none⟩ = some u2 ∧ w'.cell? ⟨B, 3, none⟩ = some u3 ∧ w'.cell? ⟨B, 4, none⟩ = some u4 ∧ w'.cell? ⟨B, 5, none⟩ = some u5 := by
  obtain ⟨h0, h1, h2, h3, h4, h5⟩ := h
  exact ⟨cell_kept k (Nat.le_refl _) h0, cell_kept k (Nat.le_refl _) h1, cell_kept k (Nat.le_refl _) h2, cell_kept k (Nat.le_refl _) h3, cell_kept k (Nat.le_refl _) h4, cell_kept k (Nat.le_refl _) h5⟩

theorem keep12i {W w' : World} {g o g' o' : Nat} {u0 u1 u2 u3 u4 u5 z0 z1 z2 z3 z4 z5 : Value} (h : W.cell? ⟨g, o, none⟩ = some u0 ∧ W.cell? ⟨g, o + 1, none⟩ = some u1 ∧ W.cell? ⟨g, o + 2, none⟩ = some u2 ∧ W.cell? ⟨g, o + 3, none⟩ = some u3 ∧ W.cell? ⟨g, o + 4, none⟩ = some u4 ∧ W.cell? ⟨g, o + 5, none⟩ = some u5 ∧ W.cell? ⟨g', o', none⟩ = some z0 ∧ W.cell? ⟨g', o' + 1, none⟩ = some z1 ∧ W.cell? ⟨g', o' + 2, none⟩ = some z2 ∧ W.cell? ⟨g', o' + 3, none⟩ = some z3 ∧ W.cell? ⟨g', o' + 4, none⟩ = some z4 ∧ W.cell? ⟨g', o' + 5, none⟩ = some z5) (k : Below W.heap.size W w') : w'.cell? ⟨g, o, none⟩ = some u0 ∧ w'.cell? ⟨g, o + 1, none⟩ = some u1 ∧ w'.cell? ⟨g, o + 2, none⟩ = some u2 ∧ w'.cell? ⟨g, o + 3, none⟩ = some u3 ∧ w'.cell? ⟨g, o + 4, none⟩ = some u4 ∧ w'.cell? ⟨g, o + 5, none⟩ = some u5 ∧ w'.cell? ⟨g', o', none⟩ = some z0 ∧ w'.cell? ⟨g', o' + 1, none⟩ = some z1 ∧ w'.cell? ⟨g', o' + 2, none⟩ = some z2 ∧ w'.cell? ⟨g', o' + 3, none⟩ = some z3 ∧ w'.cell? ⟨g', o' + 4, none⟩ = some z4 ∧ w'.cell? ⟨g', o' + 5, none⟩ = some z5 := by
  obtain ⟨h0, h1, h2, h3, h4, h5, g0, g1, g2, g3, g4, g5⟩ := h
  exact ⟨cell_kept k (Nat.le_refl _) h0, cell_kept k (Nat.le_refl _) h1, cell_kept k (Nat.le_refl _) h2, cell_kept k (Nat.le_refl _) h3, cell_kept k (Nat.le_refl _) h4, cell_kept k (Nat.le_refl _) h5, cell_kept k (Nat.le_refl _) g0, cell_kept k (Nat.le_refl _) g1, cell_kept k (Nat.le_refl _) g2, cell_kept k (Nat.le_refl _) g3, cell_kept k (Nat.le_refl _) g4, cell_kept k (Nat.le_refl _) g5⟩

/-- What both rows of functions are, behind Flat of both sides. -/
def TwoFlat (W : World) (L : List Pr) (n : Nat) (va vb : Value) : Prop := ∃ (a b : Option Addr) (ca cb : Nat) (y z : Nat → Six), va = .slice a n ca ∧ vb = .slice b n cb ∧ SL W va n 6 (fun i j u => u = (y i).at j) ∧ SL W vb n 6 (fun i j u => u = (z i).at j) ∧ (∀ i (h : i < L.length), PR W L[i] (y i)) ∧ ∀ i (h : i < L.length), PR W L[i] (z i)

set_option maxHeartbeats 4000000 in
theorem progFlat_walk (t : Pr) (x : Six) (w : World) (h : PR w t x) (hT : Ot w) (hTB : TB w) :
    Calls Tryd.prog 5 #[x.v] w fun e w' => e = .returned (.bool true) ∧ Below w.heap.size w w' := by
  have HP := hide_p h
  have HT := hide_p hT
  have HTB := hide_p hTB
  have h00 := hT.1
  have hforms := six_form (PR.prs _ _ h)
  have hsm := small_law t x
  obtain ⟨L, hL⟩ : ∃ L, L = flatT t := ⟨_, rfl⟩
  obtain ⟨N, hN⟩ : ∃ N, N = L.length := ⟨_, rfl⟩
  have HLC : Hid (t.cnt ≤ 3000 → N ≤ 3000 ∧ ∀ r ∈ L, r.cnt ≤ 3000) := fun hc => ⟨by have := flatT_len t; rw [hN, hL]; omega, fun r hr => by have := flatT_cnt t r (by rw [← hL]; exact hr); omega⟩
  have HN := hide_p hN
  have HLV : Hid (∀ w', Below w.heap.size w w' → Calls Tryd.prog 13 #[] w' fun e w'' => e = .returned (.bool true) ∧ Below w'.heap.size w' w'') := fun w' hb => glives_any w' (HT.out.below hb h00) (HTB.out.below hb)
  have HOW : Hid (∀ w', Below w.heap.size w w' → t.cnt ≤ 3000 → Calls Tryd.prog 16 #[x.v] w' fun e w'' => ∃ v' : Value, e = .returned v' ∧ Below w'.heap.size w' w'' ∧ Calls Tryd.prog 20 #[v'] w'' (fun e w3 => ∃ (v : Value) (y : Nat → Six), e = .returned v ∧ Below w''.heap.size w'' w3 ∧ PW 31 w3 w''.heap.size v L y)) := fun w' hb hc => by
    refine (ownP_any t x w' (PR.kept hb (Nat.le_refl _) _ _ HP.out) (by omega)).mono ?_
    rintro e w'' ⟨x', he, hp, hb2⟩
    refine ⟨x'.v, he, hb2, (flat_any t x' w'' w'' (PRS.pr _ _ hp) (Below.refl _ _) (by omega)).mono ?_⟩
    rintro e w3 ⟨v, y, rfl, hp3, hb3⟩
    exact ⟨v, y, rfl, hb3, by rw [hL]; exact hp3⟩
  have HRF : Hid (∀ w' va y, Below w.heap.size w w' → t.cnt ≤ 3000 → (∃ B, PW 31 w' B va L y) → Calls Tryd.prog 21 #[x.v] w' fun e w'' => ∃ v : Value, e = .returned v ∧ Below w'.heap.size w' w'' ∧ TwoFlat w'' L N va v) := fun w' va y hb hc hpw => by
    obtain ⟨B, hpw⟩ := hpw
    refine (rflat_any t x w w' HP.out hb (by omega)).mono ?_
    rintro e w'' ⟨v, z, he, hf, hb2⟩
    obtain ⟨l1, l2⟩ := HLC.out hc
    rw [← hL] at hf
    have hfar : L.length ≤ far := by have := HN.out; unfold far; omega
    have s1 := (hpw.below hb2).sl hfar
    have s2 : SL w'' v L.length 6 (fun i j u => u = (z i).at j) := SL.of_owns hf.own hfar (fun i j _ _ => rfl)
    obtain ⟨a, ca, ea, -⟩ := s1.val
    obtain ⟨b, cb, eb, -⟩ := s2.val
    rw [← HN.out] at s1 s2 ea eb
    exact ⟨v, he, hb2, a, b, ca, cb, y, z, ea, eb, s1, s2, fun i hi => PRS.pr _ _ ((hpw.below hb2).kid i hi), fun i hi => PR.kept (hb.trans (hb2.mono hb.size)) (Nat.le_refl _) _ _ (hf.kid i hi)⟩
  have HSM : Hid (∀ (W w' : World) (y z : Nat → Six) (i : Nat) (hi : i < L.length), t.cnt ≤ 3000 → Below W.heap.size W w' → PR W L[i] (y i) → PR W L[i] (z i) → Calls Tryd.prog 22 #[(y i).v, (z i).v] w' fun e w'' => e = .returned (.bool true) ∧ Below w'.heap.size w' w'') := fun W w' y z i hi hc hb h1 h2 => by
    obtain ⟨l1, l2⟩ := HLC.out hc
    have := rsameP_any L[i] L[i] (y i) (z i) W w' h1 h2 hb (by have := l2 _ (List.getElem_mem hi); omega) (by have := l2 _ (List.getElem_mem hi); omega)
    rw [sameT_refl] at this
    exact this
  obtain ⟨pa, rg, vu, vc, vk, vp⟩ := x
  simp only at hforms
  obtain ⟨a1, n1, c1, a2, n2, c2, a3, n3, c3, a4, n4, c4, rfl, rfl, rfl, rfl⟩ := hforms
  unfold Six.v at HOW HRF hsm ⊢
  simp only at HOW HRF hsm ⊢
  obtain ⟨w0, hw0⟩ : ∃ w0, w0 = w.alloc (.cells #[.int .i64 pa, .int .i64 rg, .slice a1 n1 c1, .slice a2 n2 c2, .slice a3 n3 c3, .slice a4 n4 c4] 31) := ⟨_, rfl⟩
  have HB0 : Hid (Below w.heap.size w w0) := by rw [hw0]; exact (Below.refl _ _).alloc (Nat.le_refl _) _
  have HA0 : Hid (∀ j, w0.cell? ⟨w.heap.size, j, none⟩ = (#[.int .i64 pa, .int .i64 rg, .slice a1 n1 c1, .slice a2 n2 c2, .slice a3 n3 c3, .slice a4 n4 c4] : Array Value)[j]?) := by
    intro j
    rw [hw0, World.cell?_alloc_new]
  have x0 : w0.cell? ⟨w.heap.size, 0, none⟩ = some (.int .i64 pa) := HA0.out 0
  have x1 : w0.cell? ⟨w.heap.size, 1, none⟩ = some (.int .i64 rg) := HA0.out 1
  have x2 : w0.cell? ⟨w.heap.size, 2, none⟩ = some (.slice a1 n1 c1) := HA0.out 2
  have x3 : w0.cell? ⟨w.heap.size, 3, none⟩ = some (.slice a2 n2 c2) := HA0.out 3
  have x4 : w0.cell? ⟨w.heap.size, 4, none⟩ = some (.slice a3 n3 c3) := HA0.out 4
  have x5 : w0.cell? ⟨w.heap.size, 5, none⟩ = some (.slice a4 n4 c4) := HA0.out 5
  have hsm0 := hsm w0 (PR.kept HB0.out (Nat.le_refl _) _ _ HP.out)
  clear h hT hTB hsm hL hN
  go_enter Tryd.func5, Tryd.ntmps5
  go_upto_region 1 with fail
  rw [← hw0]
  clear hw0
  go_wp2_with fail
  refine hsm0.mono ?_
  rintro e w1 ⟨ok, rfl, hok, hb1⟩
  have HB1w : Hid (Below w.heap.size w w1) := HB0.out.trans (hb1.mono HB0.out.size)
  have y0 : w1.cell? ⟨w.heap.size, 0, none⟩ = some (.int .i64 pa) := box6 HA0.out hb1 (Nat.le_refl _) rfl
  have y1 : w1.cell? ⟨w.heap.size, 1, none⟩ = some (.int .i64 rg) := box6 HA0.out hb1 (Nat.le_refl _) rfl
  have y2 : w1.cell? ⟨w.heap.size, 2, none⟩ = some (.slice a1 n1 c1) := box6 HA0.out hb1 (Nat.le_refl _) rfl
  have y3 : w1.cell? ⟨w.heap.size, 3, none⟩ = some (.slice a2 n2 c2) := box6 HA0.out hb1 (Nat.le_refl _) rfl
  have y4 : w1.cell? ⟨w.heap.size, 4, none⟩ = some (.slice a3 n3 c3) := box6 HA0.out hb1 (Nat.le_refl _) rfl
  have y5 : w1.cell? ⟨w.heap.size, 5, none⟩ = some (.slice a4 n4 c4) := box6 HA0.out hb1 (Nat.le_refl _) rfl
  clear hsm0 hb1 x0 x1 x2 x3 x4 x5
  cases ok with
  | false =>
    have hl := HLV.out w1 HB1w.out
    clear hok
    go_wp2_with fail
    refine hl.mono ?_
    rintro e w2 ⟨rfl, hb2⟩
    have HB2w : Hid (Below w.heap.size w w2) := HB1w.out.trans (hb2.mono HB1w.out.size)
    clear hl hb2
    go_wp2
    go_ret
    exact ⟨rfl, HB2w.out⟩
  | true =>
    obtain ⟨hcn, -⟩ := hok rfl
    have hq1 : Below w.heap.size w w1.drew := HB1w.out.drew
    clear hok
    go_upto_region 3 with fail
    go_cut [3, 4] (fun va vb wc => Hid (TwoFlat wc L N va vb) ∧ Hid (Below w.heap.size w wc))
    case first =>
      go_region_held3 (fun w' => w'.cell? ⟨w.heap.size, 0, none⟩ = some (.int .i64 pa) ∧ w'.cell? ⟨w.heap.size, 1, none⟩ = some (.int .i64 rg) ∧ w'.cell? ⟨w.heap.size, 2, none⟩ = some (.slice a1 n1 c1) ∧ w'.cell? ⟨w.heap.size, 3, none⟩ = some (.slice a2 n2 c2) ∧ w'.cell? ⟨w.heap.size, 4, none⟩ = some (.slice a3 n3 c3) ∧ w'.cell? ⟨w.heap.size, 5, none⟩ = some (.slice a4 n4 c4))
        (first
          | exact keep6f (by assumption) hbS
          | go_keep)
        (first
          | (go_at_call 21; refine (HRF.out _ _ _ hq3 hcn ⟨_, hpw⟩).mono ?_; rintro e w4 ⟨v4, rfl, hbS, htf⟩; have hq4 := hq3.trans (hbS.mono hq3.size))
          | (go_at_call 20; refine hfl.mono ?_; rintro e w3 ⟨v3, y3, rfl, hbS, hpw⟩; have hq3 := hq2.trans (hbS.mono hq2.size))
          | (go_at_call 16; refine (HOW.out _ hq1 hcn).mono ?_; rintro e w2 ⟨v2, rfl, hbS, hfl⟩; have hq2 := hq1.trans (hbS.mono hq1.size)))
      all_goals go_wp2_with fail
      all_goals go_meet
      case rel => exact ⟨htf, hq4⟩
    case rest =>
      obtain ⟨HTF, HBc⟩ := hcut
      obtain ⟨a, b, ca, cb, y, z, rfl, rfl, s1, s2, k1, k2⟩ := HTF.out
      have HS1 := hide_p s1
      have HS2 := hide_p s2
      have HK1 := (show Hid (∀ i (h : i < L.length), PR wc L[i] (y i)) from k1)
      have HK2 := (show Hid (∀ i (h : i < L.length), PR wc L[i] (z i)) from k2)
      have hN3 : N ≤ 3000 := (HLC.out hcn).1
      clear s1 s2 k1 k2 HTF hq1 y0 y1 y2 y3 y4 y5
      go_wp2_with fail
      go_loopw [5] (fun t5 wr => ∃ i : Nat, i ≤ N ∧ t5 = .int .i64 i ∧ Hid (Below wc.heap.size wc wr)) (fun t5 _ => N - (intOf t5).toNat)
      case atStart => exact ⟨0, Nat.zero_le _, rfl, Below.refl _ _⟩
      case round =>
        obtain ⟨i, hi, rfl, HB⟩ := hrel
        by_cases c : i < N
        · have i1 : i < L.length := by rw [← HN.out]; exact c
          obtain ⟨-, g, o, rfl, e0, e1, e2, e3, e4, e5⟩ := SP.get (HS1.out.kept HB.out (Nat.le_refl _)) c
          obtain ⟨-, g', o', rfl, d0, d1, d2, d3, d4, d5⟩ := SP.get (HS2.out.kept HB.out (Nat.le_refl _)) c
          have hcl := fun w' hb => HSM.out wc w' y z i i1 hcn hb (HK1.out i i1) (HK2.out i i1)
          have hf1 := six_form (PR.prs _ _ (HK1.out i i1))
          have hf2 := six_form (PR.prs _ _ (HK2.out i i1))
          unfold Six.v at hcl
          generalize y i = q at *
          generalize z i = q' at *
          obtain ⟨ypa, yrg, yu, yc, yk, yp⟩ := q
          obtain ⟨zpa, zrg, zu, zc, zk, zp⟩ := q'
          simp only at e0 e1 e2 e3 e4 e5 d0 d1 d2 d3 d4 d5 hcl hf1 hf2
          obtain ⟨b1, o1, r1, b2, o2, r2, b3, o3, r3, b4, o4, r4, rfl, rfl, rfl, rfl⟩ := hf1
          obtain ⟨f1, p1, s1, f2, p2, s2, f3, p3, s3, f4, p4, s4, rfl, rfl, rfl, rfl⟩ := hf2
          have hq5 : Below wc.heap.size wc wr.drew := HB.out.drew
          go_wp2_with fail
          go_region_held3 (fun w' => w'.cell? ⟨g, o + i * 6, none⟩ = some (.int .i64 ypa) ∧ w'.cell? ⟨g, o + i * 6 + 1, none⟩ = some (.int .i64 yrg) ∧ w'.cell? ⟨g, o + i * 6 + 2, none⟩ = some (.slice b1 o1 r1) ∧ w'.cell? ⟨g, o + i * 6 + 3, none⟩ = some (.slice b2 o2 r2) ∧ w'.cell? ⟨g, o + i * 6 + 4, none⟩ = some (.slice b3 o3 r3) ∧ w'.cell? ⟨g, o + i * 6 + 5, none⟩ = some (.slice b4 o4 r4) ∧ w'.cell? ⟨g', o' + i * 6, none⟩ = some (.int .i64 zpa) ∧ w'.cell? ⟨g', o' + i * 6 + 1, none⟩ = some (.int .i64 zrg) ∧ w'.cell? ⟨g', o' + i * 6 + 2, none⟩ = some (.slice f1 p1 s1) ∧ w'.cell? ⟨g', o' + i * 6 + 3, none⟩ = some (.slice f2 p2 s2) ∧ w'.cell? ⟨g', o' + i * 6 + 4, none⟩ = some (.slice f3 p3 s3) ∧ w'.cell? ⟨g', o' + i * 6 + 5, none⟩ = some (.slice f4 p4 s4))
            (first
              | exact keep12i (by assumption) hbS
              | go_keep)
            (first
              | (go_at_call 22; refine (hcl _ hq5).mono ?_; rintro e w6 ⟨rfl, hbS⟩; have hq6 := hq5.trans (hbS.mono hq5.size)))
          all_goals go_wp2
          all_goals go_roundw
          all_goals first
            | exact ⟨i + 1, by omega, by go_num, hq6⟩
            | (simp [intOf]; omega)
        · have e : i = N := by omega
          subst e
          have hl := HLV.out wr (HBc.out.trans (HB.out.mono HBc.out.size))
          have HBB : Hid (Below w.heap.size w wr) := HBc.out.trans (HB.out.mono HBc.out.size)
          go_wp2_with fail
          refine hl.mono ?_
          rintro e w2 ⟨rfl, hb2⟩
          have HB2w : Hid (Below w.heap.size w w2) := HBB.out.trans (hb2.mono HBB.out.size)
          clear hl hb2
          go_wp2
          go_ret
          exact ⟨rfl, HB2w.out⟩

end Go.Proofs.YtnigmiokadpajaaDoor
namespace Go.Proofs.YtnigmiokadpajaaDoor.progFlat
set_option maxRecDepth 100000
open Go.ChangeShapes Go.WideShapes Go.ChangeAt Go.RowKit

theorem contract (H : Type) (enc : TypeId × Value → H) (W : World) (base : Nat) (args : Array Value) (ds gs : List (DataW H)) (before : List MemPlace)
    (hval0 : ∀ (j : Nat) t v, Tryd.f5.params[j]? = some t → args[j]? = some v → Value.okWide Tryd.prog W .any base t v)
    (hW : DataW.Whole enc Tryd.prog Tryd.f5.params.toList Rows.progFlatSpec.vars false W args.toList ds gs before) (hL : laidMetH Tryd.prog laidAll W)
    (hsz : (DataW.weightsEach Tryd.prog (Tryd.f5.params.toList ++ (OpenSpec.ofChange Rows.progFlatSpec).bare.plain.varTypes Tryd.prog) (ds ++ gs)).all (· ≤ reachBytes) = true) :
    Calls Tryd.prog 5 args W fun e W' => ∃ v, e = .returned v ∧ Rows.progFlatSpec.post enc Tryd.prog Tryd.f5 false true false false W args v W' := by
  have hval : ∀ (j : Nat) t v, Tryd.f5.params[j]? = some t → args[j]? = some v → Value.okWide Tryd.prog W .any base t v := hval0
  have hW' := hW
  obtain ⟨p, q, hA0, hV, rfl, hfz, hnd⟩ := hW
  have hA : DataW.TrodAll enc Tryd.prog W 0 (fun _ => true) true Tryd.f5.params.toList args.toList ds p := hA0
  rw [Tryd.params5] at hA hval hsz
  obtain ⟨v0, vs0, d0, ds0, p0, q0, hargs, rfl, rfl, h0, r0⟩ := trodAll_cons hA
  obtain ⟨rfl, rfl, rfl⟩ := trodAll_nil r0
  obtain rfl : args = #[v0] := by cases args; simp_all
  obtain ⟨rfl, rfl⟩ := trodVars_none hV
  have lt0 : ∀ x ∈ p0, x.block < W.heap.size := by obtain ⟨m, hm⟩ := h0; exact DataW.trod_lt m _ _ _ hm
  obtain ⟨t0, x0, rfl, b0⟩ := open_proto (hval 0 31 v0 rfl rfl) h0 hsz (j := 0) rfl rfl
  obtain ⟨hT, hTB⟩ := bothTabs hL
  clear hA0 hval0
  refine (progFlat_walk t0 x0 W b0 hT hTB).mono fun e W' ⟨he, bel⟩ => ?_
  subst he
  exact ⟨_, rfl, _, _, _, [], _, [], hW', trodAll_mk1 (shut_bool Tryd.underlying4 _), (trodAll_cons_mk (Below.trod laidOut (by kernel_rfl) (of_decide_eq_true (by kernel_rfl)) h0 bel lt0) trodAll_mk0), rfl, bel.frame _, fun h => by cases h⟩

theorem laid_met (os : Os) : laidMet Tryd.prog Rows.progFlatRow.laid ((World.doorLaid Tryd.prog 4000 os).forCall (fun _ _ => 0) ⟨#[], #[.agg #[.int .i64 0, .int .i64 0, .slice none 0 0, .slice none 0 0, .slice none 0 0, .slice none 0 0]], []⟩).memory :=
  laidMet_of_run' 8 (by kernel_rfl) (by kernel_rfl)
theorem reads (os : Os) {H : Type} (enc : TypeId × Value → H) : ∃ places, DataW.whole enc Tryd.prog ((World.doorLaid Tryd.prog 4000 os).forCall (fun _ _ => 0) ⟨#[], #[.agg #[.int .i64 0, .int .i64 0, .slice none 0 0, .slice none 0 0, .slice none 0 0, .slice none 0 0]], []⟩).memory Tryd.f5.params.toList Rows.progFlatSpec.vars false (#[.agg #[.int .i64 0, .int .i64 0, .slice none 0 0, .slice none 0 0, .slice none 0 0, .slice none 0 0]] : Array Value).toList 8 = some ([.agg [.lit (.int .i64 0), .lit (.int .i64 0), .nil, .nil, .nil, .nil]], [], places) :=
  ⟨[], by kernel_rfl⟩

set_option maxRecDepth 100000 in
theorem lifted (os : Os) (started : os.Started) (H : Type) (enc : TypeId × Value → H) (F : Stop.Interp) :
    ReturnsInHanded {} Tryd.checked os 5 .any ((OpenSpec.ofChange Rows.progFlatSpec).preRow enc Tryd.prog Tryd.f5 Rows.progFlatRow.domain false Rows.progFlatRow.laid) (((OpenSpec.ofChange Rows.progFlatSpec).at F).post enc Tryd.prog Tryd.f5 false true false false) := by
  obtain ⟨places, hx⟩ := reads os enc
  refine returnsInHanded_of_row (C := Tryd.checked) (s := OpenSpec.ofChange Rows.progFlatSpec) ownKnob_none started (by kernel_rfl) Tryd.func5
    (witness_row_at (enc := enc) (C := Tryd.checked) false (World.doorLaid Tryd.prog 4000 os) #[.agg #[.int .i64 0, .int .i64 0, .slice none 0 0, .slice none 0 0, .slice none 0 0, .slice none 0 0]] rfl (by kernel_rfl) (by kernel_rfl) (by kernel_rfl)
      (OpenSpec.preRow_of_cond 8 hx (by kernel_rfl) (fun k hk => by cases hk) (by kernel_rfl) (laid_met os))) ?_
  intro W base args ds gs before hval hW _ _ hsz hL _ _
  exact contract H enc W base args ds gs before hval hW hL hsz

theorem said : Rows.ProgFlatSaid :=
  OpenClaim.holds_of_cond 5 Tryd.f5 rfl rfl rfl rfl rfl rfl rfl ⟨rfl, rfl, rfl, rfl, rfl⟩ rfl rfl rfl rfl rfl (by kernel_rfl) Tryd.func5 (by kernel_rfl)
    (of_decide_eq_true (by kernel_rfl)) (by unfold Func.isWrapper; first | (rw [if_pos (by decide +kernel)]; kernel_rfl) | (rw [if_neg (by decide +kernel)]; exact ⟨rfl, rfl⟩))
    (fun os started H enc _ F => by rw [OpenClaim.pre_eq_preRow]; exact lifted os started H enc F)

theorem plain (f : FuncId) (fn : Func) (hf : Tryd.pinned.checked.prog.funcNamed "minstrel/minstrellaw13.ProgFlat" = some f) (hfn : Tryd.pinned.checked.prog.funcs[f]? = some fn) :
    false = Tryd.pinned.checked.prog.looks [] ∧ ∀ (j : Nat) t, fn.params[j]? = some t → Tryd.pinned.checked.prog.wantsStandIn t = false := by
  obtain rfl : f = 5 := Option.some.inj ((show Tryd.prog.funcNamed "minstrel/minstrellaw13.ProgFlat" = some 5 by kernel_rfl).symm.trans hf) |>.symm
  obtain rfl : fn = Tryd.f5 := (Option.some.inj (Tryd.func5.symm.trans hfn)).symm
  refine ⟨by kernel_rfl, fun j t ht => ?_⟩
  rw [Tryd.params5] at ht
  have hm : t ∈ [31] := by simpa using Array.mem_of_getElem? ht
  have hall : ([31].all fun u => !Tryd.prog.wantsStandIn u) = true := by kernel_rfl
  exact (show Tryd.prog.wantsStandIn t = false by simpa using List.all_eq_true.1 hall t hm)

/-- The statement. -/
theorem proved : Rows.ProgFlatCardSaid :=
  Claim7.holds_tied_plain_at .later [] _ _ _ _ said (fun _ h => by cases h) (by kernel_rfl) (fun _ h => by cases h) progFlat_row_tie rfl ⟨rfl, rfl⟩ (by kernel_rfl) rfl plain (by kernel_rfl)
end Go.Proofs.YtnigmiokadpajaaDoor.progFlat
