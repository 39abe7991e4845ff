/-
  Layer 19: the reference's numbers, walked.
-/
import Derived.Test.YtjngknnkffbnmaaDoorGC1
import Derived.Laws.OwnMore
import Derived.BigQuiet
namespace Go.Proofs.YtjngknnkffbnmaaDoor
set_option maxRecDepth 100000
open Go.RowKit Crc

namespace Sn
theorem hide_p {p : Prop} (h : p) : Hid p := h
theorem crParts {w : World} {k0 : Int} {n0 : Nat} {s0 : ByteArray} {ts : List Tr} {a : Option Addr} {cap : Nat} (h : CR w (.mk k0 n0 s0 ts) (cellV k0 n0 s0 (.slice a ts.length cap))) :
    (-9223372036854775808 ≤ k0 ∧ k0 ≤ 9223372036854775807) ∧ n0 < 18446744073709551616 ∧ s0.size ≤ 9223372036854775807 ∧ ts.length ≤ cap ∧ cap ≤ 9223372036854775807 ∧ (a = none → ts = []) ∧
    ∃ (ks : Nat → Int) (ns : Nat → Nat) (ss : Nat → ByteArray) (us : Nat → Value), (∀ x i, a = some x → i < ts.length → x.spot = none ∧ Lies w x.block x.off i (ks i) (ns i) (ss i) (us i)) ∧ ∀ i (h : i < ts.length), CR w ts[i] (cellV (ks i) (ns i) (ss i) (us i)) := by
  generalize hv : cellV k0 n0 s0 (.slice a ts.length cap) = v0 at h
  cases h using CR.elim with
  | mk k n s _ a' cap' ks ns ss us hk hn hs hl hc h0 hx hr =>
    unfold cellV at hv
    simp only [Value.agg.injEq, Array.mk.injEq, List.cons.injEq, Value.slice.injEq, and_true, true_and] at hv
    obtain ⟨rfl, rfl⟩ := hv
    exact ⟨hk, hn, hs, hl, hc, h0, ks, ns, ss, us, hx, hr⟩
theorem crTop {w : World} {t : Tr} {k : Int} {n : Nat} {s : ByteArray} {u : Value} (h : CR w t (cellV k n s u)) : k = t.k ∧ n = t.n ∧ s = t.s ∧ ∃ a cap, u = .slice a t.l.length cap := by
  generalize hv : cellV k n s u = v0 at h
  cases h using CR.elim with
  | mk k n s ts a' cap' ks ns ss us hk hn hs hl hc h0 hx hr =>
    unfold cellV at hv
    simp at hv
    obtain ⟨rfl, e, rfl, rfl⟩ := hv
    exact ⟨rfl, Int.ofNat_inj.1 e, rfl, a', cap', rfl⟩
theorem crShape {w : World} {t : Tr} {v : Value} (h : CR w t v) : ∃ a cap, v = cellV t.k t.n t.s (.slice a t.l.length cap) := by
  cases h using CR.elim with
  | mk k n s ts a cap => exact ⟨a, cap, rfl⟩
/-- The i-th of a row. -/
theorem crGet {w : World} {k0 : Int} {n0 : Nat} {s0 : ByteArray} {ts : List Tr} {a : Option Addr} {cap : Nat} (h : CR w (.mk k0 n0 s0 ts) (cellV k0 n0 s0 (.slice a ts.length cap))) (i : Nat) (hi : i < ts.length) :
    ∃ g o b c, a = some ⟨g, o, none⟩ ∧ Lies w g o i ts[i].k ts[i].n ts[i].s (.slice b ts[i].l.length c) ∧ CR w ts[i] (cellV ts[i].k ts[i].n ts[i].s (.slice b ts[i].l.length c)) := by
  obtain ⟨-, -, -, -, -, h0, ks, ns, ss, us, hx, hr⟩ := crParts h
  cases a with
  | none => rw [h0 rfl] at hi; exact absurd hi (Nat.not_lt_zero _)
  | some x =>
    obtain ⟨g, o, sp⟩ := x
    obtain ⟨h1, h2⟩ := hx _ i rfl hi
    simp only at h1
    subst h1
    have h3 := hr i hi
    obtain ⟨e1, e2, e3, b, c, e4⟩ := crTop h3
    rw [e1, e2, e3, e4] at h2 h3
    exact ⟨g, o, b, c, rfl, h2, h3⟩
theorem crTake {w : World} {k0 : Int} {n0 : Nat} {s0 : ByteArray} {ts : List Tr} {a : Option Addr} {cap : Nat} (h : CR w (.mk k0 n0 s0 ts) (cellV k0 n0 s0 (.slice a ts.length cap))) (m : Nat) (hm : m ≤ ts.length) :
    CR w (.mk k0 n0 s0 (ts.take m)) (cellV k0 n0 s0 (.slice a (ts.take m).length cap)) := by
  obtain ⟨h1, h2, h3, h4, h5, h0, ks, ns, ss, us, hx, hr⟩ := crParts h
  have hl : (ts.take m).length = m := by rw [List.length_take]; omega
  refine CR.mk k0 n0 s0 (ts.take m) a cap ks ns ss us h1 h2 h3 (by omega) h5 (fun e => by rw [h0 e]; simp) (fun x i e hi => hx x i e (by omega)) (fun i hi => ?_)
  rw [List.getElem_take]
  exact hr i (by omega)

theorem csParts {w : World} {S : Nat → Prop} {k0 : Int} {n0 : Nat} {s0 : ByteArray} {ts : List Tr} {a : Option Addr} {cap : Nat} (h : CS w S (.mk k0 n0 s0 ts) (cellV k0 n0 s0 (.slice a ts.length cap))) :
    (a = none → ts = []) ∧ (∀ x, a = some x → ts ≠ [] → S x.block) ∧
    ∃ (ks : Nat → Int) (ns : Nat → Nat) (ss : Nat → ByteArray) (us : Nat → Value), (∀ x i, a = some x → i < ts.length → x.spot = none ∧ Lies w x.block x.off i (ks i) (ns i) (ss i) (us i)) ∧ ∀ i (h : i < ts.length), CS w S ts[i] (cellV (ks i) (ns i) (ss i) (us i)) := by
  generalize hv : cellV k0 n0 s0 (.slice a ts.length cap) = v0 at h
  cases h using CS.elim with
  | mk k n s _ a' cap' ks ns ss us hk hn hs hl hc h0 hS hx hr =>
    unfold cellV at hv
    simp only [Value.agg.injEq, Array.mk.injEq, List.cons.injEq, Value.slice.injEq, and_true, true_and] at hv
    obtain ⟨rfl, rfl⟩ := hv
    exact ⟨h0, hS, ks, ns, ss, us, hx, hr⟩
/-- The i-th of a row. -/
theorem csGet {w : World} {S : Nat → Prop} {k0 : Int} {n0 : Nat} {s0 : ByteArray} {ts : List Tr} {a : Option Addr} {cap : Nat} (h : CS w S (.mk k0 n0 s0 ts) (cellV k0 n0 s0 (.slice a ts.length cap))) (i : Nat) (hi : i < ts.length) :
    ∃ g o b c, a = some ⟨g, o, none⟩ ∧ S g ∧ Lies w g o i ts[i].k ts[i].n ts[i].s (.slice b ts[i].l.length c) ∧ CS w S ts[i] (cellV ts[i].k ts[i].n ts[i].s (.slice b ts[i].l.length c)) := by
  obtain ⟨h0, hS, ks, ns, ss, us, hx, hr⟩ := csParts h
  cases a with
  | none => rw [h0 rfl] at hi; exact absurd hi (Nat.not_lt_zero _)
  | some x =>
    have hb := hS x rfl (fun e => by rw [e] at hi; exact absurd hi (Nat.not_lt_zero _))
    obtain ⟨g, o, sp⟩ := x
    obtain ⟨h1, h2⟩ := hx _ i rfl hi
    simp only at h1
    subst h1
    have h3 := hr i hi
    obtain ⟨e1, e2, e3, b, c, e4⟩ := crTop h3.cr
    rw [e1, e2, e3, e4] at h2 h3
    exact ⟨g, o, b, c, rfl, hb, h2, h3⟩
def nob : ByteArray := ⟨#[]⟩
def uw (n : Int) : Nat := (n % 18446744073709551616).toNat
def numT (n : Int) : Tr := .mk 0 (uw n) nob []
def lisT (l : List Tr) : Tr := .mk 2 0 nob l
theorem uw_lt (n : Int) : uw n < 18446744073709551616 := by unfold uw; omega
theorem uw_val (n : Int) : ((uw n : Nat) : Int) = n % 18446744073709551616 := by unfold uw; omega

/-- A cell of four parts. -/
structure Q4 where
  k : Int
  n : Nat
  s : ByteArray
  u : Value
def Q4.l (q : Q4) : List Value := quad q.k q.n q.s q.u
def Q4.v (q : Q4) : Value := cellV q.k q.n q.s q.u
def qsL (l : List Q4) : List Value := l.flatMap Q4.l
def q0 : Q4 := ⟨0, 0, nob, .slice none 0 0⟩
theorem qsL_get : ∀ (l : List Q4) (i : Nat), i < l.length → (qsL l)[i * 4]? = some (.int .i64 (l.getD i q0).k) ∧ (qsL l)[i * 4 + 1]? = some (.int .u64 (l.getD i q0).n) ∧ (qsL l)[i * 4 + 2]? = some (.string (l.getD i q0).s) ∧ (qsL l)[i * 4 + 3]? = some (l.getD i q0).u
  | [], i, h => absurd h (Nat.not_lt_zero _)
  | q :: l, 0, _ => by
    show (q.l ++ qsL l)[0 * 4]? = _ ∧ (q.l ++ qsL l)[0 * 4 + 1]? = _ ∧ (q.l ++ qsL l)[0 * 4 + 2]? = _ ∧ (q.l ++ qsL l)[0 * 4 + 3]? = _
    simp [Q4.l, quad]
  | q :: l, i + 1, h => by
    have ih := qsL_get l i (by simpa using h)
    have e : ∀ j, (qsL (q :: l))[(i + 1) * 4 + j]? = (qsL l)[i * 4 + j]? := by
      intro j
      show (q.l ++ qsL l)[(i + 1) * 4 + j]? = _
      have hl : q.l.length = 4 := rfl
      rw [List.getElem?_append_right (by rw [hl]; omega), hl]
      congr 1
      omega
    have e0 := e 0
    simp only [Nat.add_zero] at e0
    rw [e0, e 1, e 2, e 3]
    simpa using ih
theorem qsL_quads (l : List Q4) : Quads (qsL l) l.length (fun i => (l.getD i q0).k) (fun i => (l.getD i q0).n) (fun i => (l.getD i q0).s) (fun i => (l.getD i q0).u) :=
  ⟨fun i h => (qsL_get l i h).1, fun i h => (qsL_get l i h).2.1, fun i h => (qsL_get l i h).2.2.1, fun i h => (qsL_get l i h).2.2.2⟩

theorem cs_num {w : World} {S : Nat → Prop} (n : Nat) (h : n < 18446744073709551616) : CS w S (.mk 0 n nob []) (cellV 0 n nob (.slice none 0 0)) :=
  CS.mk 0 n nob [] none 0 (fun _ => 0) (fun _ => 0) (fun _ => nob) (fun _ => .slice none 0 0) (by decide) h (by decide) (Nat.le_refl _) (by decide) (fun _ => rfl) (fun x e => by cases e) (fun x i e => by cases e) (fun i h => absurd h (Nat.not_lt_zero _))
theorem cs_numT {w : World} {S : Nat → Prop} (n : Int) : CS w S (numT n) (cellV 0 (uw n) nob (.slice none 0 0)) := cs_num _ (uw_lt n)
theorem cs_txt {w : World} {S : Nat → Prop} (s : ByteArray) (h : s.size ≤ 9223372036854775807) : CS w S (.mk 1 0 s []) (cellV 1 0 s (.slice none 0 0)) :=
  CS.mk 1 0 s [] none 0 (fun _ => 0) (fun _ => 0) (fun _ => nob) (fun _ => .slice none 0 0) (by decide) (by decide) h (Nat.le_refl _) (by decide) (fun _ => rfl) (fun x e => by cases e) (fun x i e => by cases e) (fun i h => absurd h (Nat.not_lt_zero _))

/-- Cells that lie in a block are a list. -/
theorem cs_block {w : World} {S : Nat → Prop} {g cap : Nat} {cs : Array Value} {T : TypeId} {fr : Nat × Nat} {l : List Q4} {ts : List Tr} (hb : w.heap[g]? = some (.cells cs T fr)) (hc : cs.toList = qsL l) (hl : l.length = ts.length) (hcap : ts.length ≤ cap) (hcap2 : cap ≤ 9223372036854775807) (hg : S g)
    (kid : ∀ i (h : i < ts.length), CS w S ts[i] (l.getD i q0).v) : CS w S (lisT ts) (cellV 2 0 nob (.slice (some ⟨g, 0, none⟩) ts.length cap)) := by
  have hq := qsL_quads l
  rw [← hc, hl] at hq
  refine CS.mk 2 0 nob ts _ cap _ _ _ _ (by decide) (by decide) (by decide) hcap hcap2 (fun e => by cases e) (fun x e _ => by cases e; exact hg) (fun x i e hi => ?_) kid
  cases e
  refine ⟨rfl, ?_, ?_, ?_, ?_⟩
  · rw [Lib.cell_of_heap hb]; simp only [Nat.zero_add]; rw [← Array.getElem?_toList]; exact hq.q0 i hi
  · rw [Lib.cell_of_heap hb]; simp only [Nat.zero_add]; rw [← Array.getElem?_toList]; exact hq.q1 i hi
  · rw [Lib.cell_of_heap hb]; simp only [Nat.zero_add]; rw [← Array.getElem?_toList]; exact hq.q2 i hi
  · rw [Lib.cell_of_heap hb]; simp only [Nat.zero_add]; rw [← Array.getElem?_toList]; exact hq.q3 i hi

theorem uw_wrap (n : Int) : IntKind.u64.wrap n = ((uw n : Nat) : Int) := by
  rw [uw_val]
  rfl
theorem set4_block {w : World} {b : Nat} {T : TypeId} {x0 x1 x2 x3 : Value} (h : w.heap[b]? = some (.cells #[x0, x1, x2, x3] T (0, 0))) (v0 v1 v2 v3 : Value) :
    ((((w.setCell ⟨b, 0, none⟩ v0).setCell ⟨b, 1, none⟩ v1).setCell ⟨b, 2, none⟩ v2).setCell ⟨b, 3, none⟩ v3).heap[b]? = some (.cells #[v0, v1, v2, v3] T (0, 0)) := by
  have z1 := heap_setCell_same _ _ 0 _ _ v0 h
  have z2 := heap_setCell_same _ _ 1 _ _ v1 z1
  have z3 := heap_setCell_same _ _ 2 _ _ v2 z2
  exact heap_setCell_same _ _ 3 _ _ v3 z3
theorem set4_below {w w0 : World} {b B : Nat} (hb : Below B w0 w) (h : B ≤ b) (v0 v1 v2 v3 : Value) :
    Below B w0 ((((w.setCell ⟨b, 0, none⟩ v0).setCell ⟨b, 1, none⟩ v1).setCell ⟨b, 2, none⟩ v2).setCell ⟨b, 3, none⟩ v3) :=
  (((hb.setCell (p := ⟨b, 0, none⟩) h _).setCell (p := ⟨b, 1, none⟩) h _).setCell (p := ⟨b, 2, none⟩) h _).setCell (p := ⟨b, 3, none⟩) h _
theorem set4_other {w : World} {b k : Nat} (h : k ≠ b) (v0 v1 v2 v3 : Value) :
    ((((w.setCell ⟨b, 0, none⟩ v0).setCell ⟨b, 1, none⟩ v1).setCell ⟨b, 2, none⟩ v2).setCell ⟨b, 3, none⟩ v3).heap[k]? = w.heap[k]? := by
  rw [heap_setCell_other _ _ _ _ (by simpa using h), heap_setCell_other _ _ _ _ (by simpa using h), heap_setCell_other _ _ _ _ (by simpa using h), heap_setCell_other _ _ _ _ (by simpa using h)]
/-- What is in a block of four cells. -/
theorem block4 {w : World} {b : Nat} {T : TypeId} {fr : Nat × Nat} {x0 x1 x2 x3 : Value} (h : w.heap[b]? = some (.cells #[x0, x1, x2, x3] T fr)) :
    w.cell? ⟨b, 0, none⟩ = some x0 ∧ w.cell? ⟨b, 1, none⟩ = some x1 ∧ w.cell? ⟨b, 2, none⟩ = some x2 ∧ w.cell? ⟨b, 3, none⟩ = some x3 :=
  ⟨by rw [Lib.cell_of_heap h]; rfl, by rw [Lib.cell_of_heap h]; rfl, by rw [Lib.cell_of_heap h]; rfl, by rw [Lib.cell_of_heap h]; rfl⟩

theorem heap_alloc_at (w : World) (k : Nat) (cs : Array Value) {t : TypeId} (h : w.heap.size = k) : (w.alloc (.cells cs t)).heap[k]? = some (.cells cs t (0, 0)) := by
  subst h
  exact heap_alloc_new w _
def nq (n : Int) : Q4 := ⟨0, uw n, nob, .slice none 0 0⟩
/-- A list of numbers that was just made. -/
theorem nums_cs {w2 w3 : World} {B cap : Nat} {l : List Int} {cs : Array Value} {T : TypeId} (hc : cs.toList = qsL (l.map nq)) (hB : B ≤ w2.heap.size) (hcap : l.length ≤ cap) (hcap2 : cap ≤ 9223372036854775807) (hb : Below (w2.alloc (.cells cs T)).heap.size (w2.alloc (.cells cs T)) w3) : CS w3 (fun k => B ≤ k) (lisT (l.map numT)) (cellV 2 0 nob (.slice (some ⟨w2.heap.size, 0, none⟩) l.length cap)) := by
  have h := cs_block (S := fun k => B ≤ k) (l := l.map nq) (ts := l.map numT) (cap := cap) ((hb.block w2.heap.size (by simp)).trans (heap_alloc_new w2 _)) hc (by simp) (by simpa using hcap) hcap2 hB (fun i hi => by
    have hi2 : i < l.length := by simpa using hi
    rw [List.getElem_map, List.getD_eq_getElem?_getD, List.getElem?_map, List.getElem?_eq_getElem hi2]
    exact cs_numT _)
  simpa using h

theorem csLater {w w' : World} {B : Nat} {t : Tr} {v : Value} (h : CS w (fun k => B ≤ k) t v) (hb : Below w.heap.size w w') : CS w' (fun k => B ≤ k) t v := (h.real.kept (fun q hq => hb.block q hq.2)).widen (fun _ hq => hq.1)
theorem retCell {w w5 : World} {b B : Nat} {t : Tr} {k : Int} {n : Nat} {s : ByteArray} {u x0 x1 x2 x3 : Value} (hblk : w5.heap[b]? = some (.cells #[x0, x1, x2, x3] 26 (0, 0))) (hw : w.heap.size ≤ b) (hB : b < B) (hc : CS w5 (fun k => B ≤ k) t (cellV k n s u)) (hb : Below w.heap.size w w5) (W : World)
    (hW : W = (((w5.setCell ⟨b, 0, none⟩ (.int .i64 k)).setCell ⟨b, 1, none⟩ (.int .u64 n)).setCell ⟨b, 2, none⟩ (.string s)).setCell ⟨b, 3, none⟩ u) :
    W.heap[b]? = some (.cells #[.int .i64 k, .int .u64 n, .string s, u] 26 (0, 0)) ∧ CS W (fun k => w.heap.size ≤ k) t (cellV k n s u) ∧ Below w.heap.size w W := by
  subst hW
  refine ⟨set4_block hblk _ _ _ _, ?_, set4_below hb hw _ _ _ _⟩
  exact (hc.kept (fun q hq => set4_other (by omega) _ _ _ _)).widen (fun q hq => by omega)
theorem keep2s {w w' : World} {B : Nat} {a1 a2 : Addr} {u1 u2 : Value} (h : w.cell? a1 = some u1 ∧ w.cell? a2 = some u2) (hb : Below B w w') (hB : w.heap.size ≤ B) : w'.cell? a1 = some u1 ∧ w'.cell? a2 = some u2 :=
  ⟨cell_kept hb hB h.1, cell_kept hb hB h.2⟩
def zT : Tr := .mk 0 0 nob []
def atT (t : Tr) (i : Nat) : Tr := if t.k = 2 then t.l.getD i zT else zT
theorem at_mk (n : Nat) (s : ByteArray) (l : List Tr) (i : Nat) : atT (.mk 2 n s l) i = l.getD i zT := rfl
theorem at_lis (l : List Tr) (i : Nat) : atT (lisT l) i = l.getD i zT := rfl
theorem cr_zT (w : World) : CR w zT (cellV 0 0 nob (.slice none 0 0)) := (cs_num (S := fun _ => True) 0 (by decide)).cr
/-- A row of whole numbers that is read. -/
structure NR (w : World) (v : Value) (l : List Int) : Prop where
  form : ∃ a cap, v = .slice a l.length cap ∧ l.length ≤ cap ∧ cap ≤ 9223372036854775807 ∧ (a = none → l = [] ∧ cap = 0) ∧ ∀ x, a = some x → (0 < l.length → x.spot = none) ∧ ∀ i (h : i < l.length), w.cell? ⟨x.block, x.off + i, none⟩ = some (.int .i64 l[i])
theorem NR.kept {w w' : World} {B : Nat} {v : Value} {l : List Int} (h : NR w v l) (hb : Below B w w') (hB : w.heap.size ≤ B) : NR w' v l := by
  obtain ⟨a, cap, h1, h2, h3, h4, h5⟩ := h.form
  exact ⟨a, cap, h1, h2, h3, h4, fun x hx => ⟨(h5 x hx).1, fun i hi => cell_kept hb hB ((h5 x hx).2 i hi)⟩⟩
theorem NR.get {w : World} {a : Option Addr} {n cap : Nat} {l : List Int} (h : NR w (.slice a n cap) l) {i : Nat} (hi : i < l.length) : n = l.length ∧ ∃ g o, a = some ⟨g, o, none⟩ ∧ ∀ j (hj : j < l.length), w.cell? ⟨g, o + j, none⟩ = some (.int .i64 l[j]) := by
  obtain ⟨a', cap', h1, h2, h3, h4, h5⟩ := h.form
  injection h1 with e1 e2 e3
  subst e1 e2 e3
  cases a with
  | none => rw [(h4 rfl).1] at hi; exact absurd hi (Nat.not_lt_zero _)
  | some x =>
    obtain ⟨g, o, sp⟩ := x
    obtain ⟨h6, h7⟩ := h5 _ rfl
    have h8 := h6 (by omega)
    simp only at h8
    subst h8
    exact ⟨rfl, g, o, rfl, h7⟩
/-- Whether the i-th of a row of members can be where it stands. -/
def okAt (l : List Int) (i : Nat) : Bool := decide (1 ≤ l.getD i 0) && decide (l.getD i 0 ≤ 64) && (decide (i = 0) || decide (l.getD (i - 1) 0 < l.getD i 0))
/-- Whether members can be. -/
def memB (l : List Int) : Bool := (List.range l.length).all (okAt l) && decide (0 < l.length)
theorem mem_at {l : List Int} (h : memB l = true) {i : Nat} (hi : i < l.length) : okAt l i = true := by
  unfold memB at h
  simp only [Bool.and_eq_true] at h
  exact List.all_eq_true.1 h.1 i (List.mem_range.2 hi)
theorem mem_ge {l : List Int} (h : memB l = true) : ∀ i, i < l.length → (i : Int) + 1 ≤ l.getD i 0 ∧ l.getD i 0 ≤ 64
  | 0, hi => by
    have := mem_at h hi
    unfold okAt at this
    simp only [Bool.and_eq_true, decide_eq_true_eq] at this
    omega
  | i + 1, hi => by
    have h1 := mem_at h hi
    have h2 := mem_ge h i (by omega)
    unfold okAt at h1
    simp only [Bool.and_eq_true, Bool.or_eq_true, decide_eq_true_eq, Nat.add_sub_cancel] at h1
    omega
theorem mem_len {l : List Int} (h : memB l = true) : 0 < l.length ∧ l.length ≤ 64 := by
  have h0 : 0 < l.length := by
    unfold memB at h
    simp only [Bool.and_eq_true, decide_eq_true_eq] at h
    exact h.2
  have := mem_ge h (l.length - 1) (by omega)
  omega
theorem mem_val {l : List Int} (h : memB l = true) : ∀ x ∈ l, 1 ≤ x ∧ x ≤ 64 := by
  intro x hx
  obtain ⟨i, hi, rfl⟩ := List.getElem_of_mem hx
  have := mem_ge h i hi
  rw [List.getD_eq_getElem?_getD, List.getElem?_eq_getElem hi] at this
  simp only [Option.getD_some] at this
  omega
/-- Members' tree. -/
def memT (l : List Int) : Tr := lisT (l.map numT)
end Sn

end Go.Proofs.YtjngknnkffbnmaaDoor
namespace Go.Proofs.YtjngknnkffbnmaaDoor
set_option maxRecDepth 100000
open Go.RowKit Crc Sn

namespace Sn
theorem okAt_val (l : List Int) (i : Nat) (hi : i < l.length) : okAt l i = (decide (1 ≤ l[i]) && decide (l[i] ≤ 64) && (decide (i = 0) || decide (l.getD (i - 1) 0 < l[i]))) := by
  unfold okAt
  have : l.getD i 0 = l[i] := by rw [List.getD_eq_getElem?_getD, List.getElem?_eq_getElem hi]; rfl
  rw [this]
theorem mem_bad {l : List Int} {i : Nat} (hi : i < l.length) (h : okAt l i = false) : memB l = false := by
  unfold memB
  have : (List.range l.length).all (okAt l) = false := by
    rw [List.all_eq_false]
    exact ⟨i, List.mem_range.2 hi, by simp [h]⟩
  rw [this]
  rfl
theorem range_ok {l : List Int} {i : Nat} (h : (List.range i).all (okAt l) = true) (h2 : okAt l i = true) : (List.range (i + 1)).all (okAt l) = true := by
  rw [List.range_succ, List.all_append, h]
  simp [h2]
theorem mem_end {l : List Int} (h : (List.range l.length).all (okAt l) = true) : memB l = decide (0 < l.length) := by
  unfold memB
  rw [h]
  rfl
theorem drewN_below {B : Nat} {w w' : World} (h : Below B w w') : ∀ q, Below B w (w'.drewN q)
  | 0 => h
  | q + 1 => by have := drewN_below h q; simpa using this.drew
end Sn

set_option maxHeartbeats 4000000 in
theorem rMembers_any (l : List Int) (v : Value) (w : World) (h : NR w v l) (hlen : l.length ≤ 1000000000) :
    Calls Tryd.prog 13 #[v] w fun e w' => e = .returned (.bool (memB l)) ∧ Below w.heap.size w w' := by
  obtain ⟨a, cap, rfl, hc1, hc2, -, -⟩ := h.form
  obtain ⟨N, hN⟩ : ∃ N, N = l.length := ⟨_, rfl⟩
  have HN := hide_p hN
  have HR : Hid (NR w (.slice a N cap) l) := by rw [hN]; exact h
  obtain ⟨R, hR⟩ : ∃ R, R = memB l := ⟨_, rfl⟩
  have HRR := hide_p hR
  rw [← hR, ← hN]
  rw [← hN] at hlen hc1
  have HE : Hid (N = l.length → (List.range N).all (okAt l) = true → R = decide (0 < N)) := fun e h1 => by rw [hR, e]; rw [e] at h1; exact mem_end h1
  clear h hN hR
  go_enter Tryd.func13, Tryd.ntmps13
  go_wp2_with fail
  go_loopw [3] (fun t3 wr => ∃ i : Nat, i ≤ N ∧ t3 = .int .i64 i ∧ Hid ((List.range i).all (okAt l) = true) ∧ Hid (Below w.heap.size w wr)) (fun t3 _ => N - (intOf t3).toNat)
  case atStart => exact ⟨0, Nat.zero_le _, rfl, rfl, Below.refl _ _⟩
  case round =>
    obtain ⟨i, hi, rfl, HA, HB⟩ := hrel
    by_cases c : i < N
    · have i1 : i < l.length := by rw [← HN.out]; exact c
      obtain ⟨-, g, o, rfl, hl⟩ := (HR.out.kept HB.out (Nat.le_refl _)).get i1
      have e0 := hl i i1
      have hok := okAt_val l i i1
      have HBAD := (show Hid (okAt l i = false → R = false) from fun e => by rw [HRR.out]; exact mem_bad i1 e)
      have HGO := (show Hid (okAt l i = true → (List.range (i + 1)).all (okAt l) = true) from fun e => range_ok HA.out e)
      have HBD : Hid (Below w.heap.size w wr.drew) := HB.out.drew
      by_cases b1 : l[i] < 1
      · have hR : R = false := HBAD.out (by rw [hok]; simp; omega)
        have d1 : decide (l[i] < 1) = true := decide_eq_true b1
        clear hl hok HBAD HGO HA b1
        generalize l[i] = x at *
        subst hR
        go_wp2_with fail
        go_big_quiet (fail)
        go_wp2
        go_ret
        exact ⟨rfl, drewN_below HB.out _⟩
      · have d1 : decide (l[i] < 1) = false := decide_eq_false b1
        by_cases b2 : l[i] > 64
        · have hR : R = false := HBAD.out (by rw [hok]; simp; omega)
          have d2 : decide (64 < l[i]) = true := decide_eq_true b2
          clear hl hok HBAD HGO HA b1 b2
          generalize l[i] = x at *
          subst hR
          go_wp2_with fail
          go_big_quiet (fail)
          go_wp2
          go_ret
          exact ⟨rfl, drewN_below HB.out _⟩
        · have d2 : decide (64 < l[i]) = false := decide_eq_false b2
          cases i with
          | zero =>
            have hG := HGO.out (by rw [hok]; simp; omega)
            have HGG := (show Hid ((List.range (0 + 1)).all (okAt l) = true) from hG)
            have e0' : wr.cell? ⟨g, o, none⟩ = some (.int .i64 l[0]) := by rw [← e0]; rfl
            clear hl hok HBAD HGO HA b1 b2 hG
            generalize l[0] = x at *
            go_wp2_with fail
            go_big_quiet (fail)
            go_wp2
            go_roundw
            case rel => exact ⟨0 + 1, by omega, by go_num, HGG, drewN_below HB.out _⟩
            case measure => simp [intOf]; omega
          | succ j =>
            have j1 : j < l.length := by omega
            have e1 := hl j j1
            have hgd : l.getD (j + 1 - 1) 0 = l[j] := by rw [Nat.add_sub_cancel, List.getD_eq_getElem?_getD, List.getElem?_eq_getElem j1]; rfl
            rw [hgd] at hok
            have d0 : decide ((0 : Int) < ((j + 1 : Nat) : Int)) = true := decide_eq_true (by omega)
            have d00 : decide ((0 : Int) < (j : Int) + 1) = true := decide_eq_true (by omega)
            have hj1 : ((j + 1 : Nat) : Int) = (j : Int) + 1 := by omega
            by_cases b3 : l[j + 1] ≤ l[j]
            · have hR : R = false := HBAD.out (by rw [hok]; simp; omega)
              have d3 : decide (l[j + 1] ≤ l[j]) = true := decide_eq_true b3
              clear hl hok HBAD HGO HA b1 b2 b3 hgd
              generalize l[j + 1] = x at *
              generalize l[j] = y at *
              subst hR
              go_wp2_with fail
              go_big_quiet (fail)
              go_wp2
              go_ret
              exact ⟨rfl, drewN_below HB.out _⟩
            · have hG := HGO.out (by rw [hok]; simp; omega)
              have HGG := (show Hid ((List.range (j + 1 + 1)).all (okAt l) = true) from hG)
              have d3 : decide (l[j + 1] ≤ l[j]) = false := decide_eq_false b3
              clear hl hok HBAD HGO HA b1 b2 b3 hG hgd
              generalize l[j + 1] = x at *
              generalize l[j] = y at *
              go_wp2_with fail
              go_big_quiet (fail)
              go_wp2
              go_roundw
              case rel => exact ⟨j + 1 + 1, by omega, by go_num, HGG, drewN_below HB.out _⟩
              case measure => simp [intOf]; omega
    · have e : i = N := by omega
      have hRR := HE.out HN.out (by rw [← e]; exact HA.out)
      have HB' := HB
      subst e hRR
      clear HA HB HRR HE
      go_wp2
      go_ret
      exact ⟨by first | rfl | simp, HB'.out⟩

end Go.Proofs.YtjngknnkffbnmaaDoor
namespace Go.Proofs.YtjngknnkffbnmaaDoor
set_option maxRecDepth 100000
open Go.RowKit Crc Sn

theorem Sn.twForm {w : World} {B : Nat} {v : Value} {ts : List Tr} (h : TW w B v ts) : ∃ a c, v = .slice a ts.length c := by
  obtain ⟨xs, ks, ns, ss, us, o1, o2, o3⟩ := h
  rcases o1.2 with ⟨e1, e2⟩ | ⟨g, cap, cur, e1, _⟩
  · exact ⟨none, 0, by rw [e1, e2]⟩
  · exact ⟨_, cap, e1⟩

set_option maxHeartbeats 4000000 in
theorem rmembers_any (l : List Int) (v : Value) (w : World) (h : NR w v l) (hlen : l.length ≤ 1000000) :
    Calls Tryd.prog 33 #[v] w fun e w' => ∃ u, e = .returned u ∧ CS w' (fun k => w.heap.size ≤ k) (memT l) u ∧ Below w.heap.size w w' := by
  obtain ⟨i0, hi0, hz0, hz1, hz2⟩ := info_parts info25b
  obtain ⟨a, cap, rfl, hc1, hc2, -, -⟩ := h.form
  obtain ⟨N, hN⟩ : ∃ N, N = l.length := ⟨_, rfl⟩
  have HN := hide_p hN
  have HR : Hid (NR w (.slice a N cap) l) := by rw [hN]; exact h
  rw [← hN]
  rw [← hN] at hlen hc1
  have HN1 : Hid (∀ (n : Nat) (w : World), Calls Tryd.prog 32 #[.int .u64 n] w fun e w' => e = .returned (.agg #[.int .i64 0, .int .u64 n, .string nob, .slice none 0 0]) ∧ Below w.heap.size w w') := rfnumber_any
  have HL1 : Hid (∀ (a : Option Addr) (n cap : Nat) (w : World), Calls Tryd.prog 31 #[.slice a n cap] w fun e w' => e = .returned (.agg #[.int .i64 2, .int .u64 (0 : Nat), .string nob, .slice a n cap]) ∧ Below w.heap.size w w') := rflist_any
  obtain ⟨w0, hw0⟩ : ∃ w0, w0 = (w.alloc (.cells #[.int .i64 0, .int .u64 0, .string ⟨#[]⟩, .slice none 0 0] 26)).alloc (.cells #[] 26) := ⟨_, rfl⟩
  have HS0 : Hid (w0.heap.size = w.heap.size + 2) := by show _ = _; rw [hw0]; simp
  have HB0 : Hid (Below w.heap.size w w0) := by show Below _ _ _; rw [hw0]; exact ((Below.refl _ _).alloc (Nat.le_refl _) _).alloc (by simp) _
  have HA0 : Hid (w0.heap[w.heap.size]? = some (.cells #[.int .i64 0, .int .u64 0, .string ⟨#[]⟩, .slice none 0 0] 26 (0, 0))) := by
    show _ = _
    rw [hw0, Below.heap_alloc _ _ _ (by simp)]
    exact heap_alloc_new _ _
  have HT0 : Hid (TW w0 (w.heap.size + 1) (.slice (some ⟨w.heap.size + 1, 0, none⟩) 0 0) []) := by
    refine ⟨[], fun _ => 0, fun _ => 0, fun _ => ⟨#[]⟩, fun _ => .slice none 0 0, ?_, ⟨fun i h => absurd h (Nat.not_lt_zero _), fun i h => absurd h (Nat.not_lt_zero _), fun i h => absurd h (Nat.not_lt_zero _), fun i h => absurd h (Nat.not_lt_zero _)⟩, fun i h => absurd h (Nat.not_lt_zero _)⟩
    have := World.ownsRow_made (e := 26) (size := 4) (base := w.heap.size + 1) (w.alloc (.cells #[.int .i64 0, .int .u64 0, .string ⟨#[]⟩, .slice none 0 0] 26)) #[] 0 (by simp) (by decide) rfl
    rw [← hw0] at this
    simpa using this
  clear h hN
  go_enter Tryd.func33, Tryd.ntmps33
  go_upto_region 2 with fail
  rw [← hw0]
  clear hw0
  go_wp2_with fail
  go_loopw [3, 4] (fun t3 t4 wr => ∃ (i : Nat), i ≤ N ∧ t4 = .int .i64 i ∧ Hid (TW wr (w.heap.size + 1) t3 ((l.take i).map numT)) ∧ Hid (Below (w.heap.size + 1) w0 wr)) (fun _ t4 _ => N - (intOf t4).toNat)
  case atStart => exact ⟨0, Nat.zero_le _, rfl, HT0, Below.refl _ _⟩
  case round =>
    obtain ⟨i, hi, rfl, HT, HW⟩ := hrel
    have hsz := HW.out.size
    have hs0 := HS0.out
    have HBW : Hid (Below w.heap.size w wr) := HB0.out.trans (HW.out.mono (by omega))
    by_cases c : i < N
    · have i1 : i < l.length := by rw [← HN.out]; exact c
      obtain ⟨-, g, o, rfl, hl⟩ := (HR.out.kept HBW.out (Nat.le_refl _)).get i1
      have e0 := hl i i1
      have hlen2 : ((l.take i).map numT).length = i := by rw [List.length_map, List.length_take]; have := HN.out; omega
      have HTK : Hid ((l.take (i + 1)).map numT = (l.take i).map numT ++ [numT l[i]]) := by
        show _ = _
        rw [List.take_succ_eq_append_getElem i1, List.map_append]
        rfl
      generalize l[i] = x at *
      have hx := uw_wrap x
      have hcall := HN1.out (uw x) wr
      clear hl i1 hs0
      go_wp2_with fail
      refine hcall.mono ?_
      rintro e w2 ⟨rfl, hb2⟩
      obtain ⟨xs, -, ho, hnx⟩ := HT.out.snoc (by have := HS0.out; omega) hb2 (cs_numT (S := fun k => wr.heap.size ≤ k) (w := w2) x) (.cells #[.int .i64 0, .int .u64 (uw x), .string nob, .slice none 0 0] 26)
      rw [hlen2] at ho hnx
      have HNX := hide_p hnx
      have HB2 := hide_p hb2
      have hs2 := hb2.size
      clear hb2 hnx hcall e0
      go_wp2_with (at_builtin; refine wpList_append_lies _ rfl _ _ 24 rfl (w.heap.size + 1) 26 i0 _ 4 56 Tryd.underlying24 hi0 hz0 hz1 hz2 rfl (by decide) _ i xs rfl ho ⟨w2.heap.size, 0, none⟩ 1 1 (quad 0 (uw x) nob (.slice none 0 0)) rfl rfl (cells_quad _ _ _ _ _ _) (by intro u hu; simp [quad] at hu; rcases hu with rfl | rfl | rfl | rfl <;> rfl) (by decide) (by unfold maxLen; omega) (by omega) (by have := HS0.out; simp; omega) _ rfl ?_)
      intro g8 cap8 w8 hown hgrow hat hlt
      have ht8 := HNX.out w8 g8 cap8 hown hgrow (by simpa using hat)
      have HT8 : Hid (TW w8 (w.heap.size + 1) (.slice (some ⟨g8, 0, none⟩) (i + 1) cap8) ((l.take (i + 1)).map numT)) := by
        show TW _ _ _ _
        rw [HTK.out]
        exact ht8
      have HW8 : Hid (Below (w.heap.size + 1) w0 w8) := by
        have h1 : Below (w.heap.size + 1) w0 w2 := HW.out.trans (HB2.out.mono (by have := HS0.out; omega))
        exact (h1.alloc (by have := HS0.out; omega) _).grown hgrow (by simp; have := HS0.out; omega) (fun k hk => (ho.lt k hk).1)
      clear ht8 HNX hown hgrow hat hlt ho
      go_wp2
      go_roundw
      case rel => exact ⟨i + 1, by omega, by go_num, HT8, HW8⟩
      case measure => simp [intOf]; omega
    · have e : i = N := by omega
      have et : l.take i = l := List.take_of_length_le (by have := HN.out; omega)
      rw [et] at HT
      obtain ⟨a3, c3, hv⟩ := twForm HT.out
      subst hv
      have hln : (l.map numT).length = i := by rw [List.length_map]; have := HN.out; omega
      rw [hln] at HT ⊢
      have HCS : Hid (CS wr (fun k => w.heap.size + 1 ≤ k) (memT l) (cellV 2 0 nob (.slice a3 i c3))) := HT.out.cs hln.symm 2 0 nob (by decide) (by decide) (by decide)
      have hcall := HL1.out a3 i c3 wr
      clear et hln
      subst e
      go_wp2_with fail
      refine hcall.mono ?_
      rintro e w5 ⟨rfl, hb5⟩
      have hblk := ((hb5.block w.heap.size (by omega)).trans (HW.out.block _ (by omega))).trans HA0.out
      obtain ⟨c0, c1, c2, c3'⟩ := block4 hblk
      have fz := Lib.frozen_of_heap hblk
      have f0 := fz 0
      have f1 := fz 1
      have f2 := fz 2
      have f3 := fz 3
      have HE := hide_p (retCell (w := w) (B := w.heap.size + 1) hblk (Nat.le_refl _) (Nat.lt_succ_self _) (csLater HCS.out hb5) (HBW.out.trans (hb5.mono HBW.out.size)))
      clear hblk fz hb5 hcall
      go_wp2
      obtain ⟨y1, y2, y3⟩ := HE.out _ rfl
      exact bodyPost_ret (results_cell_row rfl _ _ w.heap.size _ _ _ _ rfl y1 Tryd.underlying26 rfl info25) rfl ⟨_, rfl, y2, y3⟩

set_option maxHeartbeats 2000000 in
theorem rpart_cs (S : Nat → Prop) (t : Tr) (v : Value) (w : World) (h : CS w S t v) (i : Nat) :
    ∃ b c, CS w S (atT t i) (cellV (atT t i).k (atT t i).n (atT t i).s (.slice b (atT t i).l.length c)) ∧ ∀ w', Below w.heap.size w w' → Calls Tryd.prog 40 #[v, .int .i64 i] w' fun e w'' => e = .returned (cellV (atT t i).k (atT t i).n (atT t i).s (.slice b (atT t i).l.length c)) ∧ Below w'.heap.size w' w'' := by
  obtain ⟨a, cap, rfl⟩ := crShape h.cr
  obtain ⟨k, n, s, l⟩ := t
  simp only at h ⊢
  have hcap := (crParts h.cr).2.2.2.1
  have hcap2 := (crParts h.cr).2.2.2.2.1
  by_cases hk : k = 2 ∧ i < l.length
  · obtain ⟨hk, hi⟩ := hk
    subst hk
    obtain ⟨g, o, b, c, rfl, -, hl, hc⟩ := csGet h i hi
    have e : atT (.mk 2 n s l) i = l[i] := by rw [at_mk, List.getD_eq_getElem?_getD, List.getElem?_eq_getElem hi]; rfl
    rw [e]
    refine ⟨b, c, hc, fun w' hb => ?_⟩
    obtain ⟨l0, l1, l2, l3⟩ := hl.below hb (Nat.le_refl _)
    clear hl hc h hb e
    generalize l[i].n = n1 at *
    generalize l[i].k = k1 at *
    generalize l[i].s = s1 at *
    generalize l[i].l.length = m1 at *
    generalize l.length = m at *
    unfold cellV
    obtain ⟨w1, hw1⟩ : ∃ w1, w1 = (w'.alloc (.cells #[.int .i64 2, .int .u64 n, .string s, .slice (some ⟨g, o, none⟩) m cap] 26)).alloc (.cells #[.int .i64 0, .int .u64 0, .string ⟨#[]⟩, .slice none 0 0] 26) := ⟨_, rfl⟩
    have HB1 : Hid (Below w'.heap.size w' w1) := by show Below _ _ _; rw [hw1]; exact ((Below.refl _ _).alloc (Nat.le_refl _) _).alloc (by simp) _
    have HA1 : Hid (w1.heap[w'.heap.size]? = some (.cells #[.int .i64 2, .int .u64 n, .string s, .slice (some ⟨g, o, none⟩) m cap] 26 (0, 0)) ∧ w1.heap[w'.heap.size + 1]? = some (.cells #[.int .i64 0, .int .u64 0, .string ⟨#[]⟩, .slice none 0 0] 26 (0, 0))) := by
      show _ ∧ _
      rw [hw1]
      refine ⟨?_, heap_alloc_at _ _ _ (by simp)⟩
      rw [Below.heap_alloc _ _ _ (by simp)]
      exact heap_alloc_new _ _
    obtain ⟨x0, x1, x2, x3⟩ := block4 HA1.out.1
    obtain ⟨y0, y1, y2, y3⟩ := block4 HA1.out.2
    have hfz := Lib.frozen_of_heap HA1.out.2
    have f0 := hfz 0
    have f1 := hfz 1
    have f2 := hfz 2
    have f3 := hfz 3
    have l0' := cell_kept HB1.out (Nat.le_refl _) l0
    have l1' := cell_kept HB1.out (Nat.le_refl _) l1
    have l2' := cell_kept HB1.out (Nat.le_refl _) l2
    have l3' := cell_kept HB1.out (Nat.le_refl _) l3
    have HE : Hid (∀ W, W = (((w1.setCell ⟨w'.heap.size + 1, 0, none⟩ (.int .i64 k1)).setCell ⟨w'.heap.size + 1, 1, none⟩ (.int .u64 n1)).setCell ⟨w'.heap.size + 1, 2, none⟩ (.string s1)).setCell ⟨w'.heap.size + 1, 3, none⟩ (.slice b m1 c) → W.heap[w'.heap.size + 1]? = some (.cells #[.int .i64 k1, .int .u64 n1, .string s1, .slice b m1 c] 26 (0, 0)) ∧ Below w'.heap.size w' W) := by
      intro W hW
      rw [hW]
      exact ⟨set4_block HA1.out.2 _ _ _ _, set4_below HB1.out (Nat.le_succ _) _ _ _ _⟩
    clear hfz l0 l1 l2 l3
    go_enter Tryd.func40, Tryd.ntmps40
    go_upto_region 1 with fail
    rw [← hw1]
    clear hw1
    go_wp2
    obtain ⟨z1, z2⟩ := HE.out _ rfl
    exact bodyPost_ret (results_cell_row rfl _ _ (w'.heap.size + 1) _ _ _ _ rfl z1 Tryd.underlying26 rfl info25) rfl ⟨rfl, z2⟩
  · have e : atT (.mk k n s l) i = zT := by
      unfold atT
      by_cases h2 : k = 2
      · rw [if_pos h2, List.getD_eq_getElem?_getD, List.getElem?_eq_none (by show l.length ≤ i; omega)]; rfl
      · rw [if_neg h2]
    rw [e]
    refine ⟨none, 0, cs_num 0 (by decide), fun w' hb => ?_⟩
    have hcase : ¬ k = 2 ∨ (k = 2 ∧ (i : Int) ≥ (l.length : Int)) := by omega
    clear h hb e hk
    generalize l.length = m at *
    unfold cellV zT
    simp only [List.length_nil]
    obtain ⟨w1, hw1⟩ : ∃ w1, w1 = (w'.alloc (.cells #[.int .i64 k, .int .u64 n, .string s, .slice a m cap] 26)).alloc (.cells #[.int .i64 0, .int .u64 0, .string ⟨#[]⟩, .slice none 0 0] 26) := ⟨_, rfl⟩
    have HB1 : Hid (Below w'.heap.size w' w1) := by show Below _ _ _; rw [hw1]; exact ((Below.refl _ _).alloc (Nat.le_refl _) _).alloc (by simp) _
    have HA1 : Hid (w1.heap[w'.heap.size]? = some (.cells #[.int .i64 k, .int .u64 n, .string s, .slice a m cap] 26 (0, 0)) ∧ w1.heap[w'.heap.size + 1]? = some (.cells #[.int .i64 0, .int .u64 0, .string ⟨#[]⟩, .slice none 0 0] 26 (0, 0))) := by
      show _ ∧ _
      rw [hw1]
      refine ⟨?_, heap_alloc_at _ _ _ (by simp)⟩
      rw [Below.heap_alloc _ _ _ (by simp)]
      exact heap_alloc_new _ _
    obtain ⟨x0, x1, x2, x3⟩ := block4 HA1.out.1
    obtain ⟨y0, y1, y2, y3⟩ := block4 HA1.out.2
    have hfz := Lib.frozen_of_heap HA1.out.2
    have f0 := hfz 0
    have f1 := hfz 1
    have f2 := hfz 2
    have f3 := hfz 3
    have HE : Hid (∀ W, W = (((w1.setCell ⟨w'.heap.size + 1, 0, none⟩ (.int .i64 0)).setCell ⟨w'.heap.size + 1, 1, none⟩ (.int .u64 0)).setCell ⟨w'.heap.size + 1, 2, none⟩ (.string ⟨#[]⟩)).setCell ⟨w'.heap.size + 1, 3, none⟩ (.slice none 0 0) → W.heap[w'.heap.size + 1]? = some (.cells #[.int .i64 0, .int .u64 0, .string ⟨#[]⟩, .slice none 0 0] 26 (0, 0)) ∧ Below w'.heap.size w' W) := by
      intro W hW
      rw [hW]
      exact ⟨set4_block HA1.out.2 _ _ _ _, set4_below HB1.out (Nat.le_succ _) _ _ _ _⟩
    clear hfz
    rcases hcase with c | ⟨rfl, c⟩
    all_goals
      go_enter Tryd.func40, Tryd.ntmps40
      go_upto_region 1 with fail
      rw [← hw1]
      clear hw1
      go_wp2
      obtain ⟨z1, z2⟩ := HE.out _ rfl
      exact bodyPost_ret (results_cell_row rfl _ _ (w'.heap.size + 1) _ _ _ _ rfl z1 Tryd.underlying26 rfl info25) rfl ⟨rfl, z2⟩
theorem rpart_any (t : Tr) (v : Value) (w : World) (h : CR w t v) (i : Nat) :
    ∃ b c, CR w (atT t i) (cellV (atT t i).k (atT t i).n (atT t i).s (.slice b (atT t i).l.length c)) ∧ ∀ w', Below w.heap.size w w' → Calls Tryd.prog 40 #[v, .int .i64 i] w' fun e w'' => e = .returned (cellV (atT t i).k (atT t i).n (atT t i).s (.slice b (atT t i).l.length c)) ∧ Below w'.heap.size w' w'' := by
  obtain ⟨b, c, h1, h2⟩ := rpart_cs _ t v w h.cs i
  exact ⟨b, c, h1.cr, h2⟩

end Go.Proofs.YtjngknnkffbnmaaDoor
namespace Go.Proofs.YtjngknnkffbnmaaDoor
set_option maxRecDepth 100000
open Go.RowKit Crc Sn

namespace Sn
theorem infoInt : (Tryd.prog.info? 3).map (fun i => (i.zero, i.size, i.bytes)) = some (some (.int .i64 0), 1, 8) := by kernel_rfl
def intV (x : Int) : Value := .int .i64 x
/-- A row of whole numbers of one's own. -/
def NO (w : World) (B : Nat) (v : Value) (l : List Int) : Prop := w.ownsRow B 3 1 v l.length (l.map intV)
theorem cells_one (w : World) (x : Value) (T : TypeId) : ∀ j u, [x][j]? = some u → (w.alloc (.cells #[x] T)).cell? (Addr.add ⟨w.heap.size, 0, none⟩ j) = some u := by
  intro j u hu
  have ha : Addr.add ⟨w.heap.size, 0, none⟩ j = ⟨w.heap.size, 0 + j, none⟩ := by unfold Addr.add; split <;> simp_all
  rw [ha, World.cell?_alloc_new]
  match j, hu with
  | 0, hu => simpa using hu
theorem NO.form {w : World} {B : Nat} {v : Value} {l : List Int} (h : NO w B v l) : ∃ a c, v = .slice a l.length c := by
  rcases h.2 with ⟨e1, e2⟩ | ⟨g, cap, cur, e1, _⟩
  · exact ⟨none, 0, by rw [e1, e2]⟩
  · exact ⟨_, cap, e1⟩
theorem NO.far {w w' : World} {B B' : Nat} {v : Value} {l : List Int} (h : NO w B v l) (hb : Below B' w w') (hB : w.heap.size ≤ B') : NO w' B v l := by
  cases e : v.ownBlock with
  | none =>
    obtain ⟨l1, l2⟩ := h
    refine ⟨l1, ?_⟩
    rcases l2 with l2 | ⟨g, cap, cur, rfl, _⟩
    · exact Or.inl l2
    · simp [Value.ownBlock] at e
  | some g => exact ownsRow_far h (hb.block g (Nat.lt_of_lt_of_le (World.ownsRow.lt h g e).2 hB)) e
theorem NO.nr {w : World} {B : Nat} {v : Value} {l : List Int} (h : NO w B v l) : NR w v l := by
  have h0 := h
  rcases h.2 with ⟨e1, e2⟩ | ⟨g, cap, cur, e1, b1, hg, h3, h4, h5⟩
  · exact ⟨⟨none, 0, by rw [e1, e2], by omega, by decide, fun _ => ⟨List.eq_nil_of_length_eq_zero e2, rfl⟩, fun x e => by cases e⟩⟩
  · unfold maxLen at h4
    refine ⟨⟨some ⟨g, 0, none⟩, cap, e1, h3, by omega, (fun e => by cases e), fun x e => ?_⟩⟩
    cases e
    refine ⟨fun _ => rfl, fun i hi => ?_⟩
    rw [Lib.cell_of_heap hg]
    show cur[0 + i]? = _
    have h6 := h5.2
    have h7 : (cur.toList.take (l.length * 1))[i]? = some (intV l[i]) := by
      rw [h6, List.getElem?_map, List.getElem?_eq_getElem hi]
      rfl
    rw [List.getElem?_take_of_lt (by omega)] at h7
    rw [Nat.zero_add, ← Array.getElem?_toList]
    exact h7
theorem NO.low {w : World} {B B' : Nat} {v : Value} {l : List Int} (h : NO w B v l) (hB : B' ≤ B) : NO w B' v l := by
  obtain ⟨l1, l2⟩ := h
  refine ⟨l1, ?_⟩
  rcases l2 with l2 | ⟨g, cap, cur, e1, b1, h2⟩
  · exact Or.inl l2
  · exact Or.inr ⟨g, cap, cur, e1, Nat.le_trans hB b1, h2⟩
theorem crN {w : World} {t : Tr} {v : Value} (h : CR w t v) : t.n < 18446744073709551616 := by
  cases h using CR.elim with
  | mk k n s ts a cap ks ns ss us hk hn => exact hn
/-- What numbers a tree has. -/
def numsL (t : Tr) : List Int := if t.k = 2 then t.l.map (fun x => if x.n ≤ 64 then (x.n : Int) else 0) else []
end Sn

set_option maxHeartbeats 4000000 in
theorem rnumbers_any (t : Tr) (v : Value) (w : World) (h : CR w t v) (hlen : t.l.length ≤ 1000000) :
    Calls Tryd.prog 41 #[v] w fun e w' => ∃ u, e = .returned u ∧ NO w' w.heap.size u (numsL t) ∧ Below w.heap.size w w' := by
  obtain ⟨i0, hi0, hz0, hz1, hz2⟩ := info_parts infoInt
  obtain ⟨a, cap, rfl⟩ := crShape h
  obtain ⟨k, n, s, l⟩ := t
  simp only at h hlen ⊢
  have hcap := (crParts h).2.2.2.1
  have hcap2 := (crParts h).2.2.2.2.1
  have HG := hide_p (fun i hi => crGet h i hi)
  have HNX : Hid (∀ i (h : i < l.length), l[i].n < 18446744073709551616) := by
    intro i hi
    obtain ⟨g, o, b, c, -, -, hc⟩ := crGet h i hi
    exact crN hc
  obtain ⟨N, hN⟩ : ∃ N, N = l.length := ⟨_, rfl⟩
  have HN := hide_p hN
  obtain ⟨w0, hw0⟩ : ∃ w0, w0 = (w.alloc (.cells #[.int .i64 k, .int .u64 n, .string s, .slice a N cap] 26)).alloc (.cells #[] 3) := ⟨_, rfl⟩
  have HS0 : Hid (w0.heap.size = w.heap.size + 2) := by show _ = _; rw [hw0]; simp
  have HB0 : Hid (Below w.heap.size w w0) := by show Below _ _ _; rw [hw0]; exact ((Below.refl _ _).alloc (Nat.le_refl _) _).alloc (by simp) _
  have HA0 : Hid (w0.heap[w.heap.size]? = some (.cells #[.int .i64 k, .int .u64 n, .string s, .slice a N cap] 26 (0, 0))) := by
    show _ = _
    rw [hw0, Below.heap_alloc _ _ _ (by simp)]
    exact heap_alloc_new _ _
  have HT0 : Hid (NO w0 (w.heap.size + 1) (.slice (some ⟨w.heap.size + 1, 0, none⟩) 0 0) []) := by
    have := World.ownsRow_made (e := 3) (size := 1) (base := w.heap.size + 1) (w.alloc (.cells #[.int .i64 k, .int .u64 n, .string s, .slice a N cap] 26)) #[] 0 (by simp) (by decide) rfl
    rw [← hw0] at this
    show World.ownsRow _ _ _ _ _ _ _
    simpa using this
  obtain ⟨F, hF⟩ : ∃ F : Nat → Int, F = fun i => if (l.getD i zT).n ≤ 64 then ((l.getD i zT).n : Int) else 0 := ⟨_, rfl⟩
  have HFI : Hid (∀ i (h : i < l.length), F i = if l[i].n ≤ 64 then (l[i].n : Int) else 0) := by
    intro i hi
    rw [hF]
    simp only [List.getD_eq_getElem?_getD, List.getElem?_eq_getElem hi, Option.getD_some]
  have HR : Hid (numsL (.mk k n s l) = if k = 2 then (List.range l.length).map F else []) := by
    show _ = _
    unfold numsL
    simp only
    split
    · apply List.ext_getElem
      · simp
      · intro i h1 h2
        have hi : i < l.length := by simpa using h1
        rw [List.getElem_map, List.getElem_map, List.getElem_range, HFI.out i hi]
    · rfl
  rw [HR.out]
  rw [← hN] at hlen hcap ⊢
  clear h hN hF
  unfold cellV
  by_cases hk : k = 2
  · subst hk
    rw [if_pos rfl]
    go_enter Tryd.func41, Tryd.ntmps41
    go_upto_region 2 with fail
    rw [← hw0]
    clear hw0
    go_wp2_with fail
    go_loopw [3, 4, 5] (fun t3 t4 t5 wr => ∃ (i : Nat), i ≤ N ∧ t4 = .int .i64 i ∧ Hid (NO wr (w.heap.size + 1) t3 ((List.range i).map F)) ∧ Hid (Below (w.heap.size + 1) w0 wr)) (fun _ t4 _ _ => N - (intOf t4).toNat)
    case atStart => exact ⟨0, Nat.zero_le _, rfl, HT0, Below.refl _ _⟩
    case round =>
      obtain ⟨i, hi, rfl, HT, HW⟩ := hrel
      have hsz := HW.out.size
      have HBW : Hid (Below w.heap.size w wr) := HB0.out.trans (HW.out.mono (by have := HS0.out; omega))
      have hblk := (HW.out.block w.heap.size (by have := HS0.out; omega)).trans HA0.out
      obtain ⟨c0, c1, c2, c3⟩ := block4 hblk
      clear hblk
      by_cases c : i < N
      · have i1 : i < l.length := by rw [← HN.out]; exact c
        obtain ⟨g, o, b, cc, rfl, hlies, -⟩ := HG.out i i1
        have l1 := (hlies.below HBW.out (Nat.le_refl _)).c1
        have hln : ((List.range i).map F).length = i := by simp
        have HTK : Hid ((List.range (i + 1)).map F = (List.range i).map F ++ [F i]) := by show _ = _; rw [List.range_succ, List.map_append]; rfl
        have hFi := HFI.out i i1
        have hnb := HNX.out i i1
        have ho := HT.out
        unfold NO at ho
        rw [hln, List.map_map] at ho
        clear hlies
        generalize l[i].n = x at *
        by_cases hx : x ≤ 64
        · have hx2 : (x : Int) ≤ 64 := by omega
          have hFx : F i = (x : Int) := by rw [hFi, if_pos hx]
          have HFx := hide_p hFx
          clear hFi hFx i1
          go_wp2_with (at_builtin; refine wpList_append_lies _ rfl _ _ 23 rfl (w.heap.size + 1) 3 i0 _ 1 8 Tryd.underlying23 hi0 hz0 hz1 hz2 rfl (by decide) _ i _ rfl (ho.alloc _) ⟨wr.heap.size, 0, none⟩ 1 1 [.int .i64 (x : Int)] rfl rfl (cells_one _ _ _) (by intro u hu; simp at hu; subst hu; rfl) (by decide) (by unfold maxLen; omega) (by omega) (by have := HS0.out; simp; omega) _ rfl ?_)
          intro g8 cap8 w8 hown hgrow hat hlt
          have HT8 : Hid (NO w8 (w.heap.size + 1) (.slice (some ⟨g8, 0, none⟩) (i + 1) cap8) ((List.range (i + 1)).map F)) := by
            show World.ownsRow _ _ _ _ _ _ _
            rw [HTK.out, HFx.out, List.length_append, hln, List.map_append, List.map_map]
            exact hown
          have HW8 : Hid (Below (w.heap.size + 1) w0 w8) := by
            exact (HW.out.alloc (by have := HS0.out; omega) _).grown hgrow (by simp; have := HS0.out; omega) (fun k hk => (ho.lt k hk).1)
          clear hown hgrow hat hlt ho
          go_wp2
          go_roundw
          case rel => exact ⟨i + 1, by omega, by go_num, HT8, HW8⟩
          case measure => simp [intOf]; omega
        · have hx2 : ¬ (x : Int) ≤ 64 := by omega
          have hFx : F i = 0 := by rw [hFi, if_neg hx]
          have HFx := hide_p hFx
          clear hFi hFx i1
          go_wp2_with (at_builtin; refine wpList_append_lies _ rfl _ _ 23 rfl (w.heap.size + 1) 3 i0 _ 1 8 Tryd.underlying23 hi0 hz0 hz1 hz2 rfl (by decide) _ i _ rfl (ho.alloc _) ⟨wr.heap.size, 0, none⟩ 1 1 [.int .i64 0] rfl rfl (cells_one _ _ _) (by intro u hu; simp at hu; subst hu; rfl) (by decide) (by unfold maxLen; omega) (by omega) (by have := HS0.out; simp; omega) _ rfl ?_)
          intro g8 cap8 w8 hown hgrow hat hlt
          have HT8 : Hid (NO w8 (w.heap.size + 1) (.slice (some ⟨g8, 0, none⟩) (i + 1) cap8) ((List.range (i + 1)).map F)) := by
            show World.ownsRow _ _ _ _ _ _ _
            rw [HTK.out, HFx.out, List.length_append, hln, List.map_append, List.map_map]
            exact hown
          have HW8 : Hid (Below (w.heap.size + 1) w0 w8) := by
            exact (HW.out.alloc (by have := HS0.out; omega) _).grown hgrow (by simp; have := HS0.out; omega) (fun k hk => (ho.lt k hk).1)
          clear hown hgrow hat hlt ho
          go_wp2
          go_roundw
          case rel => exact ⟨i + 1, by omega, by go_num, HT8, HW8⟩
          case measure => simp [intOf]; omega
      · have e : i = N := by omega
        obtain ⟨a3, c3', hv⟩ := HT.out.form
        subst hv
        have hln : ((List.range i).map F).length = i := by simp
        rw [hln] at HT ⊢
        clear hln
        subst e
        have HTT : Hid (NO wr w.heap.size (.slice a3 i c3') ((List.range i).map F)) := NO.low HT.out (Nat.le_succ _)
        go_wp2
        go_ret
        exact ⟨_, rfl, HTT.out, HBW.out⟩
  · rw [if_neg hk]
    go_enter Tryd.func41, Tryd.ntmps41
    go_upto_region 2 with fail
    rw [← hw0]
    clear hw0
    go_wp2_with fail
    go_loopw [3, 4, 5] (fun t3 t4 t5 wr => t3 = .slice (some ⟨w.heap.size + 1, 0, none⟩) 0 0 ∧ t4 = .int .i64 0 ∧ wr = w0) (fun _ _ _ _ => 0)
    case atStart => exact ⟨rfl, rfl, rfl⟩
    case round =>
      obtain ⟨rfl, rfl, rfl⟩ := hrel
      obtain ⟨c0, c1, c2, c3⟩ := block4 HA0.out
      have HTT : Hid (NO wr w.heap.size (.slice (some ⟨w.heap.size + 1, 0, none⟩) 0 0) []) := NO.low HT0.out (Nat.le_succ _)
      go_wp2
      go_ret
      exact ⟨_, rfl, HTT.out, HB0.out⟩

end Go.Proofs.YtjngknnkffbnmaaDoor
