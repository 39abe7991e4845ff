/-
  Layer 7: cells as trees, and how they lie in memory.
-/
import Derived.Test.YtcblknghkgihcaaDoorCdTake
namespace Go.Proofs.YtcblknghkgihcaaDoor
set_option maxRecDepth 100000
open Go.RowKit Crc

structure Tr where
  mk ::
  k : Int
  n : Nat
  s : ByteArray
  l : List Tr

/-- What goes from the parts of each tree to it holds of all. -/
theorem Tr.ind {P : Tr → Prop} {Q : List Tr → Prop} (h1 : ∀ k n s ts, Q ts → P (.mk k n s ts)) (h2 : Q []) (h3 : ∀ t ts, P t → Q ts → Q (t :: ts)) : (∀ t, P t) ∧ ∀ ts, Q ts := by
  have h4 : ∀ t, P t := fun t => Tr.rec (motive_1 := P) (motive_2 := Q) h1 h2 h3 t
  refine ⟨h4, fun ts => ?_⟩
  induction ts with
  | nil => exact h2
  | cons t ts ih => exact h3 t ts (h4 t) ih

/-- The four cells at the place i of a slice that begins at o in the block g. -/
structure Lies (w : World) (g o i : Nat) (k : Int) (n : Nat) (s : ByteArray) (u : Value) : Prop where
  c0 : w.cell? ⟨g, o + i * 4, none⟩ = some (.int .i64 k)
  c1 : w.cell? ⟨g, o + i * 4 + 1, none⟩ = some (.int .u64 n)
  c2 : w.cell? ⟨g, o + i * 4 + 2, none⟩ = some (.string s)
  c3 : w.cell? ⟨g, o + i * 4 + 3, none⟩ = some u

def cellV (k : Int) (n : Nat) (s : ByteArray) (u : Value) : Value := .agg #[.int .i64 k, .int .u64 n, .string s, u]

/-- The value v reads as the tree. -/
def CR (w : World) (t : Tr) (v : Value) : Prop :=
  ∀ P : Tr → Value → Prop, (∀ (k : Int) (n : Nat) (s : ByteArray) (ts : List Tr) (a : Option Addr) (cap : Nat) (ks : Nat → Int) (ns : Nat → Nat) (ss : Nat → ByteArray) (us : Nat → Value)
      (hk : -9223372036854775808 ≤ k ∧ k ≤ 9223372036854775807) (hn : n < 18446744073709551616) (hs : s.size ≤ 9223372036854775807) (hl : ts.length ≤ cap) (hc : cap ≤ 9223372036854775807) (h0 : a = none → ts = [])
      (hx : ∀ x i, a = some x → i < ts.length → x.spot = none ∧ Lies w x.block x.off i (ks i) (ns i) (ss i) (us i))
      (_ : ∀ i (h : i < ts.length), P ts[i] (cellV (ks i) (ns i) (ss i) (us i))), P (.mk k n s ts) (cellV k n s (.slice a ts.length cap))) → P t v

theorem CR.mk {w : World} (k : Int) (n : Nat) (s : ByteArray) (ts : List Tr) (a : Option Addr) (cap : Nat) (ks : Nat → Int) (ns : Nat → Nat) (ss : Nat → ByteArray) (us : Nat → Value)
      (hk : -9223372036854775808 ≤ k ∧ k ≤ 9223372036854775807) (hn : n < 18446744073709551616) (hs : s.size ≤ 9223372036854775807) (hl : ts.length ≤ cap) (hc : cap ≤ 9223372036854775807) (h0 : a = none → ts = [])
      (hx : ∀ x i, a = some x → i < ts.length → x.spot = none ∧ Lies w x.block x.off i (ks i) (ns i) (ss i) (us i))
      (hr : ∀ i (h : i < ts.length), CR w ts[i] (cellV (ks i) (ns i) (ss i) (us i))) : CR w (.mk k n s ts) (cellV k n s (.slice a ts.length cap)) :=
  fun P hP => hP k n s ts a cap ks ns ss us hk hn hs hl hc h0 hx (fun i h => hr i h P hP)

theorem CR.ind {w : World} {motive : ∀ t v, CR w t v → Prop} (mk : ∀ (k : Int) (n : Nat) (s : ByteArray) (ts : List Tr) (a : Option Addr) (cap : Nat) (ks : Nat → Int) (ns : Nat → Nat) (ss : Nat → ByteArray) (us : Nat → Value)
      (hk : -9223372036854775808 ≤ k ∧ k ≤ 9223372036854775807) (hn : n < 18446744073709551616) (hs : s.size ≤ 9223372036854775807) (hl : ts.length ≤ cap) (hc : cap ≤ 9223372036854775807) (h0 : a = none → ts = [])
      (hx : ∀ x i, a = some x → i < ts.length → x.spot = none ∧ Lies w x.block x.off i (ks i) (ns i) (ss i) (us i))
      (hr : ∀ i (h : i < ts.length), CR w ts[i] (cellV (ks i) (ns i) (ss i) (us i))) (_ : ∀ i (h : i < ts.length), motive ts[i] (cellV (ks i) (ns i) (ss i) (us i)) (hr i h)), motive (.mk k n s ts) (cellV k n s (.slice a ts.length cap)) (CR.mk k n s ts a cap ks ns ss us hk hn hs hl hc h0 hx hr)) {t : Tr} {v : Value} (h : CR w t v) : motive t v h := by
  have key : ∃ h' : CR w t v, motive t v h' := h (fun t v => ∃ h', motive t v h') (fun k n s ts a cap ks ns ss us hk hn hs hl hc h0 hx hr => ⟨CR.mk k n s ts a cap ks ns ss us hk hn hs hl hc h0 hx (fun i h => (hr i h).elim (fun a _ => a)), mk k n s ts a cap ks ns ss us hk hn hs hl hc h0 hx (fun i h => (hr i h).elim (fun a _ => a)) (fun i h => (hr i h).elim (fun _ b => b))⟩)
  exact key.elim (fun _ b => b)

theorem CR.elim {w : World} {motive : ∀ t v, CR w t v → Prop} (mk : ∀ (k : Int) (n : Nat) (s : ByteArray) (ts : List Tr) (a : Option Addr) (cap : Nat) (ks : Nat → Int) (ns : Nat → Nat) (ss : Nat → ByteArray) (us : Nat → Value)
      (hk : -9223372036854775808 ≤ k ∧ k ≤ 9223372036854775807) (hn : n < 18446744073709551616) (hs : s.size ≤ 9223372036854775807) (hl : ts.length ≤ cap) (hc : cap ≤ 9223372036854775807) (h0 : a = none → ts = [])
      (hx : ∀ x i, a = some x → i < ts.length → x.spot = none ∧ Lies w x.block x.off i (ks i) (ns i) (ss i) (us i))
      (hr : ∀ i (h : i < ts.length), CR w ts[i] (cellV (ks i) (ns i) (ss i) (us i))), motive (.mk k n s ts) (cellV k n s (.slice a ts.length cap)) (CR.mk k n s ts a cap ks ns ss us hk hn hs hl hc h0 hx hr)) {t : Tr} {v : Value} (h : CR w t v) : motive t v h :=
  CR.ind (fun k n s ts a cap ks ns ss us hk hn hs hl hc h0 hx hr _ => mk k n s ts a cap ks ns ss us hk hn hs hl hc h0 hx hr) h

theorem cell_kept {w w' : World} {B : Nat} (hg : Below B w w') (hB : w.heap.size ≤ B) {x : Addr} {u : Value} (h : w.cell? x = some u) : w'.cell? x = some u := by
  have hb : x.block < w.heap.size := by
    rcases Nat.lt_or_ge x.block w.heap.size with h1 | h1
    · exact h1
    · exfalso
      unfold World.cell? at h
      rw [Array.getElem?_eq_none h1] at h
      simp at h
  have e := hg.block x.block (by omega)
  unfold World.cell? at h ⊢
  rw [e]; exact h

theorem Lies.below {w w' : World} {B g o i : Nat} {k : Int} {n : Nat} {s : ByteArray} {u : Value} (h : Lies w g o i k n s u) (hg : Below B w w') (hB : w.heap.size ≤ B) : Lies w' g o i k n s u :=
  ⟨cell_kept hg hB h.c0, cell_kept hg hB h.c1, cell_kept hg hB h.c2, cell_kept hg hB h.c3⟩

theorem CR.kept {w w' : World} {B : Nat} {t : Tr} {v : Value} (h : CR w t v) (hg : Below B w w') (hB : w.heap.size ≤ B) : CR w' t v := by
  induction h using CR.ind with
  | mk k n s ts a cap ks ns ss us hk hn hs hl hc h0 hx hr ih =>
    exact CR.mk k n s ts a cap ks ns ss us hk hn hs hl hc h0 (fun x i e hi => ⟨(hx x i e hi).1, (hx x i e hi).2.below hg hB⟩) ih

end Go.Proofs.YtcblknghkgihcaaDoor
