/-
  Layer 7: trees of which it is told in which blocks they lie.
-/
import Derived.Test.YtcblknghkgihcaaDoorCdSame
namespace Go.Proofs.YtcblknghkgihcaaDoor
set_option maxRecDepth 100000
open Go.RowKit Crc

/-- The value v reads as the tree, whose lists lie in blocks of which S holds. -/
def CS (w : World) (S : Nat → Prop) (t : Tr) (v : Value) : Prop :=
  ∀ P : Tr → Value → Prop, (∀ (k : Int) (n : Nat) (s : ByteArray) (ts : List Tr) (a : Option Addr) (cap : Nat) (ks : Nat → Int) (ns : Nat → Nat) (ss : Nat → ByteArray) (us : Nat → Value)
      (hk : -9223372036854775808 ≤ k ∧ k ≤ 9223372036854775807) (hn : n < 18446744073709551616) (hs : s.size ≤ 9223372036854775807) (hl : ts.length ≤ cap) (hc : cap ≤ 9223372036854775807) (h0 : a = none → ts = []) (hS : ∀ x, a = some x → ts ≠ [] → S x.block)
      (hx : ∀ x i, a = some x → i < ts.length → x.spot = none ∧ Lies w x.block x.off i (ks i) (ns i) (ss i) (us i))
      (_ : ∀ i (h : i < ts.length), P ts[i] (cellV (ks i) (ns i) (ss i) (us i))), P (.mk k n s ts) (cellV k n s (.slice a ts.length cap))) → P t v

theorem CS.mk {w : World} {S : Nat → Prop} (k : Int) (n : Nat) (s : ByteArray) (ts : List Tr) (a : Option Addr) (cap : Nat) (ks : Nat → Int) (ns : Nat → Nat) (ss : Nat → ByteArray) (us : Nat → Value)
      (hk : -9223372036854775808 ≤ k ∧ k ≤ 9223372036854775807) (hn : n < 18446744073709551616) (hs : s.size ≤ 9223372036854775807) (hl : ts.length ≤ cap) (hc : cap ≤ 9223372036854775807) (h0 : a = none → ts = []) (hS : ∀ x, a = some x → ts ≠ [] → S x.block)
      (hx : ∀ x i, a = some x → i < ts.length → x.spot = none ∧ Lies w x.block x.off i (ks i) (ns i) (ss i) (us i))
      (hr : ∀ i (h : i < ts.length), CS w S ts[i] (cellV (ks i) (ns i) (ss i) (us i))) : CS w S (.mk k n s ts) (cellV k n s (.slice a ts.length cap)) :=
  fun P hP => hP k n s ts a cap ks ns ss us hk hn hs hl hc h0 hS hx (fun i h => hr i h P hP)

theorem CS.ind {w : World} {S : Nat → Prop} {motive : ∀ t v, CS w S t v → Prop} (mk : ∀ (k : Int) (n : Nat) (s : ByteArray) (ts : List Tr) (a : Option Addr) (cap : Nat) (ks : Nat → Int) (ns : Nat → Nat) (ss : Nat → ByteArray) (us : Nat → Value)
      (hk : -9223372036854775808 ≤ k ∧ k ≤ 9223372036854775807) (hn : n < 18446744073709551616) (hs : s.size ≤ 9223372036854775807) (hl : ts.length ≤ cap) (hc : cap ≤ 9223372036854775807) (h0 : a = none → ts = []) (hS : ∀ x, a = some x → ts ≠ [] → S x.block)
      (hx : ∀ x i, a = some x → i < ts.length → x.spot = none ∧ Lies w x.block x.off i (ks i) (ns i) (ss i) (us i))
      (hr : ∀ i (h : i < ts.length), CS w S ts[i] (cellV (ks i) (ns i) (ss i) (us i))) (_ : ∀ i (h : i < ts.length), motive ts[i] (cellV (ks i) (ns i) (ss i) (us i)) (hr i h)), motive (.mk k n s ts) (cellV k n s (.slice a ts.length cap)) (CS.mk k n s ts a cap ks ns ss us hk hn hs hl hc h0 hS hx hr)) {t : Tr} {v : Value} (h : CS w S t v) : motive t v h := by
  have key : ∃ h' : CS w S t v, motive t v h' := h (fun t v => ∃ h', motive t v h') (fun k n s ts a cap ks ns ss us hk hn hs hl hc h0 hS hx hr => ⟨CS.mk k n s ts a cap ks ns ss us hk hn hs hl hc h0 hS hx (fun i h => (hr i h).elim (fun a _ => a)), mk k n s ts a cap ks ns ss us hk hn hs hl hc h0 hS hx (fun i h => (hr i h).elim (fun a _ => a)) (fun i h => (hr i h).elim (fun _ b => b))⟩)
  exact key.elim (fun _ b => b)

theorem CS.elim {w : World} {S : Nat → Prop} {motive : ∀ t v, CS w S t v → Prop} (mk : ∀ (k : Int) (n : Nat) (s : ByteArray) (ts : List Tr) (a : Option Addr) (cap : Nat) (ks : Nat → Int) (ns : Nat → Nat) (ss : Nat → ByteArray) (us : Nat → Value)
      (hk : -9223372036854775808 ≤ k ∧ k ≤ 9223372036854775807) (hn : n < 18446744073709551616) (hs : s.size ≤ 9223372036854775807) (hl : ts.length ≤ cap) (hc : cap ≤ 9223372036854775807) (h0 : a = none → ts = []) (hS : ∀ x, a = some x → ts ≠ [] → S x.block)
      (hx : ∀ x i, a = some x → i < ts.length → x.spot = none ∧ Lies w x.block x.off i (ks i) (ns i) (ss i) (us i))
      (hr : ∀ i (h : i < ts.length), CS w S ts[i] (cellV (ks i) (ns i) (ss i) (us i))), motive (.mk k n s ts) (cellV k n s (.slice a ts.length cap)) (CS.mk k n s ts a cap ks ns ss us hk hn hs hl hc h0 hS hx hr)) {t : Tr} {v : Value} (h : CS w S t v) : motive t v h :=
  CS.ind (fun k n s ts a cap ks ns ss us hk hn hs hl hc h0 hS hx hr _ => mk k n s ts a cap ks ns ss us hk hn hs hl hc h0 hS hx hr) h

theorem CS.cr {w : World} {S : Nat → Prop} {t : Tr} {v : Value} (h : CS w S t v) : CR w t v := by
  induction h using CS.ind with
  | mk k n s ts a cap ks ns ss us hk hn hs hl hc h0 hS hx hr ih => exact CR.mk k n s ts a cap ks ns ss us hk hn hs hl hc h0 hx ih

theorem CS.widen {w : World} {S S' : Nat → Prop} {t : Tr} {v : Value} (h : CS w S t v) (hS' : ∀ k, S k → S' k) : CS w S' t v := by
  induction h using CS.ind with
  | mk k n s ts a cap ks ns ss us hk hn hs hl hc h0 hS hx hr ih => exact CS.mk k n s ts a cap ks ns ss us hk hn hs hl hc h0 (fun x e hne => hS' _ (hS x e hne)) hx ih

theorem Lies.same {w w' : World} {g o i : Nat} {k : Int} {n : Nat} {s : ByteArray} {u : Value} (h : Lies w g o i k n s u) (hg : w'.heap[g]? = w.heap[g]?) : Lies w' g o i k n s u := by
  obtain ⟨h0, h1, h2, h3⟩ := h
  refine ⟨?_, ?_, ?_, ?_⟩
  · unfold World.cell? at h0 ⊢; simp only at h0 ⊢; rw [hg]; exact h0
  · unfold World.cell? at h1 ⊢; simp only at h1 ⊢; rw [hg]; exact h1
  · unfold World.cell? at h2 ⊢; simp only at h2 ⊢; rw [hg]; exact h2
  · unfold World.cell? at h3 ⊢; simp only at h3 ⊢; rw [hg]; exact h3

/-- It reads so still where none of its blocks has turned. -/
theorem CS.kept {w w' : World} {S : Nat → Prop} {t : Tr} {v : Value} (h : CS w S t v) (hg : ∀ k, S k → w'.heap[k]? = w.heap[k]?) : CS w' S t v := by
  induction h using CS.ind with
  | mk k n s ts a cap ks ns ss us hk hn hs hl hc h0 hS hx hr ih =>
    exact CS.mk k n s ts a cap ks ns ss us hk hn hs hl hc h0 hS (fun x i e hi => ⟨(hx x i e hi).1, (hx x i e hi).2.same (hg _ (hS x e (fun e2 => by rw [e2] at hi; exact absurd hi (by simp))))⟩) ih

/-- All that is read lies in blocks that there are. -/
theorem CR.cs {w : World} {t : Tr} {v : Value} (h : CR w t v) : CS w (fun k => k < w.heap.size) t v := by
  induction h using CR.ind with
  | mk k n s ts a cap ks ns ss us hk hn hs hl hc h0 hx hr ih =>
    refine CS.mk k n s ts a cap ks ns ss us hk hn hs hl hc h0 (fun x e hne => ?_) hx ih
    have h1 := (hx x 0 e (List.length_pos_iff.mpr hne)).2.c0
    rcases Nat.lt_or_ge x.block w.heap.size with h2 | h2
    · exact h2
    · exfalso
      unfold World.cell? at h1
      simp only at h1
      rw [Array.getElem?_eq_none h2] at h1
      simp at h1

end Go.Proofs.YtcblknghkgihcaaDoor
