/-
  Bytes in memory: rows that are read (BR) and rows of one's own (OW); the law's own.
-/
import Derived.Test.YtgkgflkcnigeaaaFrMath
import Derived.WalkKit
import Derived.ProofKit
import Derived.OpenShut
import Derived.ShutString
import Derived.ChangeOld
import Derived.Below
import Derived.Laws.AppendOwn
import Derived.Laws.AppendOwnNone
import Derived.Deep.AppendLies
import Derived.Deep.Light
import Derived.Deep.DeepCutAuto
import Derived.Deep.QuietTactic
import Derived.BigQuiet
namespace Go.Proofs.Ytgkgflkcnigeaaa
set_option maxRecDepth 100000
open Go.RowKit

theorem info8 : (Try.prog.info? 5).map (fun i => (i.zero, i.size, i.bytes)) = some (some (.int .u8 0), 1, 1) := by kernel_rfl
theorem info_parts {P : Program} {e : TypeId} {z : Option Value} {s b : Nat} (h : (P.info? e).map (fun i => (i.zero, i.size, i.bytes)) = some (z, s, b)) : ∃ i, P.info? e = some i ∧ i.zero = z ∧ i.size = s ∧ i.bytes = b := by
  cases hi : P.info? e with
  | none => rw [hi] at h; cases h
  | some i =>
    rw [hi] at h
    simp at h
    exact ⟨i, rfl, h.1, h.2.1, h.2.2⟩

def Sm8 (l : List Nat) : Prop := ∀ d ∈ l, d < 256
def c8 (l : List Nat) : List Value := l.map fun (d : Nat) => Value.int .u8 (d : Int)
/-- The slice v reads as the bytes l. -/
def BR (w : World) (v : Value) (l : List Nat) : Prop :=
  Sm8 l ∧ ∃ a cap, v = .slice a l.length cap ∧ l.length ≤ cap ∧ cap ≤ maxLen ∧ ((a = none ∧ cap = 0) ∨ ∃ x, a = some x ∧ ∀ i, i < l.length → w.cell? (x.add i) = some (.int .u8 (l.getD i 0 : Nat)))
/-- The slice v, in a block not below B that is all its own, holds the bytes l. -/
def OW (w : World) (B : Nat) (v : Value) (l : List Nat) : Prop := Sm8 l ∧ w.ownsRow B 5 1 v l.length (c8 l)

theorem c8_length (l : List Nat) : (c8 l).length = l.length := by unfold c8; simp
theorem c8_append (l m : List Nat) : c8 (l ++ m) = c8 l ++ c8 m := by unfold c8; simp
theorem c8_one (l : List Nat) : ∀ u ∈ c8 l, u.oneCell' = true := by
  intro u hu
  unfold c8 at hu
  obtain ⟨d, _, rfl⟩ := List.mem_map.1 hu
  rfl
theorem c8_at {l : List Nat} {j : Nat} {u : Value} (h : (c8 l)[j]? = some u) : j < l.length ∧ u = .int .u8 (l.getD j 0 : Nat) := by
  unfold c8 at h
  rw [List.getElem?_map] at h
  cases e : l[j]? with
  | none => rw [e] at h; cases h
  | some d =>
    rw [e] at h
    simp at h
    obtain ⟨hj, _⟩ := List.getElem?_eq_some_iff.1 e
    refine ⟨hj, ?_⟩
    rw [List.getD_eq_getElem?_getD, e]
    exact h.symm
theorem c8_get {l : List Nat} {j : Nat} (h : j < l.length) : (c8 l)[j]? = some (.int .u8 (l.getD j 0 : Nat)) := by
  unfold c8
  rw [List.getElem?_map, List.getElem?_eq_getElem h, List.getD_eq_getElem?_getD, List.getElem?_eq_getElem h]; rfl
theorem Sm8.getD {l : List Nat} (h : Sm8 l) (j : Nat) : l.getD j 0 < 256 := by
  rw [List.getD_eq_getElem?_getD]
  cases e : l[j]? with
  | none => decide
  | some d => exact h d (List.mem_of_getElem? e)
theorem Sm8.append {l m : List Nat} (h : Sm8 l) (k : Sm8 m) : Sm8 (l ++ m) := by
  intro d hd
  rcases List.mem_append.1 hd with e | e
  · exact h d e
  · exact k d e
theorem Sm8.take {l : List Nat} (h : Sm8 l) (n : Nat) : Sm8 (l.take n) := fun d hd => h d (List.mem_of_mem_take hd)
theorem Sm8.drop {l : List Nat} (h : Sm8 l) (n : Nat) : Sm8 (l.drop n) := fun d hd => h d (List.mem_of_mem_drop hd)

theorem OW.br {w : World} {B : Nat} {v : Value} {l : List Nat} (h : OW w B v l) : BR w v l := by
  refine ⟨h.1, ?_⟩
  have h2 := h.2
  rcases h2.2 with ⟨rfl, h0⟩ | ⟨g, cap, cur, rfl, hb, hg, r1, r2, r3, r4⟩
  · have : l = [] := List.eq_nil_of_length_eq_zero h0
    subst this
    exact ⟨none, 0, rfl, Nat.le_refl _, by unfold maxLen; omega, Or.inl ⟨rfl, rfl⟩⟩
  · refine ⟨some ⟨g, 0, none⟩, cap, rfl, r1, r2, Or.inr ⟨_, rfl, ?_⟩⟩
    intro i hi
    exact h2.cells (g := g) rfl i _ (c8_get hi)
theorem OW.base {w : World} {B C : Nat} {v : Value} {l : List Nat} (h : OW w B v l) (hC : C ≤ B) : OW w C v l := by
  refine ⟨h.1, h.2.1, ?_⟩
  rcases h.2.2 with c | ⟨g, cap, cur, rfl, hb, r⟩
  · exact Or.inl c
  · exact Or.inr ⟨g, cap, cur, rfl, by omega, r⟩
/-- What is read stays, where its block is among the first ones that are kept. -/
theorem BR.below {w w' : World} {B : Nat} {v : Value} {l : List Nat} (h : BR w v l) (hg : Below B w w') (hB : w.heap.size ≤ B) : BR w' v l := by
  obtain ⟨h1, a, cap, h2, h3, h4, h5⟩ := h
  refine ⟨h1, a, cap, h2, h3, h4, ?_⟩
  rcases h5 with c | ⟨x, e, hc⟩
  · exact Or.inl c
  · refine Or.inr ⟨x, e, fun i hi => ?_⟩
    have := World.block_lt_of_cell? w _ (hc i hi)
    rw [← hc i hi]
    exact World.cell?_of_block (hg.block _ (by omega))
theorem BR.drew {w : World} {v : Value} {l : List Nat} (h : BR w v l) : BR w.drew v l := h
theorem BR.drewN {w : World} {v : Value} {l : List Nat} (h : BR w v l) (n : Nat) : BR (w.drewN n) v l := h
theorem ownsRow_far {w w' : World} {B e s n g : Nat} {v : Value} {xs : List Value} (h : w.ownsRow B e s v n xs) (hg : w'.heap[g]? = w.heap[g]?) (hv : v.ownBlock = some g) : w'.ownsRow B e s v n xs := by
  refine ⟨h.1, ?_⟩
  rcases h.2 with hn | ⟨g', cap, cur, rfl, h0, hg', rest⟩
  · exact .inl hn
  · refine .inr ⟨g', cap, cur, rfl, h0, ?_, rest⟩
    have e : g' = g := by simpa [Value.ownBlock] using hv
    rw [e, hg, ← e]
    exact hg'
theorem OW.below {w w' : World} {B C : Nat} {v : Value} {l : List Nat} (h : OW w C v l) (hg : Below B w w') (hB : w.heap.size ≤ B) : OW w' C v l := by
  refine ⟨h.1, ?_⟩
  cases e : v.ownBlock with
  | none =>
    refine ⟨h.2.1, ?_⟩
    rcases h.2.2 with c | ⟨g, cap, cur, rfl, _⟩
    · exact Or.inl c
    · cases e
  | some g => exact ownsRow_far h.2 (hg.block g (by have := (h.2.lt g e).2; omega)) e

/-- A part of what is read, as slicing gives it. -/
theorem BR.cut {w : World} {a : Option Addr} {n cap : Nat} {l : List Nat} (h : BR w (.slice a n cap) l) {lo hi : Nat} (h1 : lo ≤ hi) (h2 : hi ≤ l.length) : BR w (sliced a lo hi cap 1) ((l.take hi).drop lo) := by
  obtain ⟨s1, a', cap', e, s3, s4, s5⟩ := h
  have hl : ((l.take hi).drop lo).length = hi - lo := by rw [List.length_drop, List.length_take]; omega
  simp only [Value.slice.injEq] at e
  obtain ⟨rfl, rfl, rfl⟩ := e
  unfold sliced
  rcases s5 with ⟨rfl, rfl⟩ | ⟨x, rfl, hc⟩
  · refine ⟨(s1.take hi).drop lo, none, 0 - lo, by rw [hl]; simp, by rw [hl]; omega, by omega, Or.inl ⟨rfl, by omega⟩⟩
  · by_cases e : cap = lo
    · refine ⟨(s1.take hi).drop lo, some x, cap - lo, by rw [hl, if_pos e], by rw [hl]; omega, by omega, Or.inr ⟨x, rfl, fun i hi' => ?_⟩⟩
      rw [hl] at hi'
      omega
    · refine ⟨(s1.take hi).drop lo, some (x.add lo), cap - lo, by rw [hl, if_neg e]; simp, by rw [hl]; omega, by omega, Or.inr ⟨_, rfl, fun i hi' => ?_⟩⟩
      rw [hl] at hi'
      have e1 : (x.add lo).add i = x.add (lo + i) := by
        unfold Addr.add
        by_cases c1 : lo = 0
        · subst c1; simp
        · by_cases c2 : i = 0
          · subst c2; simp [c1]
          · simp [c1, c2, Nat.add_assoc]
      rw [e1, hc (lo + i) (by omega)]
      congr 3
      rw [List.getD_eq_getElem?_getD, List.getD_eq_getElem?_getD, List.getElem?_drop, List.getElem?_take_of_lt (by omega)]

theorem Addr_add_zero (x : Addr) : x.add 0 = x := by unfold Addr.add; rw [if_pos rfl]
/-- The first ones of what is read. -/
theorem BR.head {w : World} {a : Option Addr} {n cap : Nat} {l : List Nat} (h : BR w (.slice a n cap) l) {hi : Nat} (h2 : hi ≤ l.length) : BR w (.slice a hi cap) (l.take hi) := by
  have := h.cut (lo := 0) (Nat.zero_le _) h2
  unfold sliced at this
  have e : (if cap = 0 then a else a.map fun x => x.add (0 * 1)) = a := by
    split
    · rfl
    · cases a with
      | none => rfl
      | some x => rw [Nat.zero_mul]; show some (x.add 0) = some x; rw [Addr_add_zero]
  rw [e] at this
  simpa using this

theorem BR.cell {w : World} {a : Option Addr} {n cap : Nat} {l : List Nat} (h : BR w (.slice a n cap) l) {i : Nat} (hi : i < l.length) : ∃ x, a = some x ∧ w.cell? (x.add i) = some (.int .u8 (l.getD i 0 : Nat)) ∧ l.getD i 0 < 256 := by
  obtain ⟨s1, a', cap', e, s3, s4, s5⟩ := h
  simp only [Value.slice.injEq] at e
  obtain ⟨rfl, rfl, rfl⟩ := e
  rcases s5 with ⟨rfl, rfl⟩ | ⟨x, rfl, hc⟩
  · omega
  · exact ⟨x, rfl, hc i hi, s1.getD i⟩
/-- Where bytes lie, if there are any. -/
theorem BR.lies {w : World} {a : Option Addr} {n cap : Nat} {l : List Nat} (h : BR w (.slice a n cap) l) (h0 : 0 < l.length) :
    ∃ b o, a = some ⟨b, o, none⟩ ∧ b < w.heap.size ∧ ∀ i, i < l.length → w.cell? ⟨b, o + i, none⟩ = some (.int .u8 (l.getD i 0 : Nat)) := by
  obtain ⟨⟨b, o, s⟩, rfl, hc, _⟩ := h.cell h0
  rw [Addr_add_zero] at hc
  have hs : s = none := by
    cases s with
    | none => rfl
    | some k =>
      unfold World.cell? at hc
      split at hc <;> simp at hc
  subst hs
  refine ⟨b, o, rfl, World.block_lt_of_cell? w _ hc, fun i hi => ?_⟩
  obtain ⟨y, e, hy, _⟩ := h.cell hi
  obtain rfl := Option.some.inj e
  have : (⟨b, o, none⟩ : Addr).add i = ⟨b, o + i, none⟩ := by unfold Addr.add; split <;> simp_all
  rw [this] at hy
  exact hy
theorem Below.undrew {B : Nat} {a b : World} (h : Below B a.drew b) : Below B a b := ⟨h.os, h.tape, h.output, h.size, h.block⟩
theorem Below.then {w a b : World} (h : Below w.heap.size w a) (k : Below a.heap.size a b) : Below w.heap.size w b := h.trans (k.mono h.size)
theorem grown_below {w a b : World} {v : Value} {n : Nat} {xs : List Value} {e s : Nat} (h : Below w.heap.size w a) (ho : a.ownsRow w.heap.size e s v n xs) (hg : a.grownBy b v.ownBlock) : Below w.heap.size w b :=
  h.grown hg h.size (fun k hk => (ho.lt k hk).1)

/-- The empty slice that is made. -/
theorem OW_empty (w : World) : OW (w.alloc (.cells #[] 5)) w.heap.size (.slice (some ⟨w.heap.size, 0, none⟩) 0 0) [] :=
  ⟨fun d hd => (by cases hd), World.ownsRow_made (size := 1) w #[] 0 (Nat.le_refl _) (by decide) rfl⟩

end Go.Proofs.Ytgkgflkcnigeaaa
