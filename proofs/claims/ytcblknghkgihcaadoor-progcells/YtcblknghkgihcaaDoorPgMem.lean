/-
  Layer 13: functions as trees, and how they lie in memory.
-/
import Derived.Test.YtcblknghkgihcaaDoorCdTree
namespace Go.Proofs.YtcblknghkgihcaaDoor
set_option maxRecDepth 100000
open Go.RowKit

namespace Pg
structure Ins where
  op : Int
  a : Int
  b : Int
  c : Int
structure Upp where
  own : Bool
  pl : Int
structure Vl where
  k : Int
  n : Int
  s : ByteArray
  o : Int
structure Pr where
  mk ::
  pa : Int
  rg : Int
  us : List Upp
  cs : List Ins
  ks : List Vl
  ps : List Pr

/-- What goes from the parts of each function to it holds of all. -/
theorem Pr.ind {P : Pr → Prop} {Q : List Pr → Prop} (h1 : ∀ pa rg us cs ks ps, Q ps → P (.mk pa rg us cs ks ps)) (h2 : Q []) (h3 : ∀ t ts, P t → Q ts → Q (t :: ts)) : (∀ t, P t) ∧ ∀ ts, Q ts := by
  have h4 : ∀ t, P t := fun t => Pr.rec (motive_1 := P) (motive_2 := Q) h1 h2 h3 t
  refine ⟨h4, fun ts => ?_⟩
  induction ts with
  | nil => exact h2
  | cons t ts ih => exact h3 t ts (h4 t) ih
theorem Pr.ind' {P : Pr → Prop} (h1 : ∀ pa rg us cs ks ps, (∀ q ∈ ps, P q) → P (.mk pa rg us cs ks ps)) : ∀ t, P t :=
  (Pr.ind (P := P) (Q := fun ps => ∀ q ∈ ps, P q) h1 (fun q h => by cases h) (fun t ts h hs q hq => by rcases List.mem_cons.1 hq with rfl | hq; exact h; exact hs q hq)).1

def i64 (x : Int) : Prop := -9223372036854775808 ≤ x ∧ x ≤ 9223372036854775807
def far : Nat := 281474976710656

/-- A slice of n parts of z cells each, the j-th of the i-th of which is what F says. -/
structure SL (w : World) (v : Value) (n z : Nat) (F : Nat → Nat → Value → Prop) : Prop where
  form : ∃ a cap, v = .slice a n cap ∧ n ≤ cap ∧ cap ≤ 9223372036854775807 ∧ n ≤ far ∧ (a = none → n = 0 ∧ cap = 0) ∧ ∀ x, a = some x → (0 < n → x.spot = none) ∧ ∀ i, i < n → ∀ j, j < z → ∃ u, w.cell? ⟨x.block, x.off + i * z + j, none⟩ = some u ∧ F i j u

def insF (l : List Ins) (i j : Nat) (u : Value) : Prop := ∃ x, l[i]? = some x ∧ u = .int .i64 (if j = 0 then x.op else if j = 1 then x.a else if j = 2 then x.b else x.c)
def uppF (l : List Upp) (i j : Nat) (u : Value) : Prop := ∃ x, l[i]? = some x ∧ u = (if j = 0 then .bool x.own else .int .i64 x.pl)
def vlF (l : List Vl) (i j : Nat) (u : Value) : Prop := ∃ x, l[i]? = some x ∧ u = (if j = 0 then .int .i64 x.k else if j = 1 then .int .u64 x.n else if j = 2 then .string x.s else .int .i64 x.o)

def Ins.ok (x : Ins) : Prop := i64 x.op ∧ i64 x.a ∧ i64 x.b ∧ i64 x.c
def Upp.ok (x : Upp) : Prop := i64 x.pl
def Vl.ok (x : Vl) : Prop := i64 x.k ∧ (0 ≤ x.n ∧ x.n < 18446744073709551616) ∧ x.s.size ≤ far ∧ i64 x.o
def SI (w : World) (v : Value) (l : List Ins) : Prop := SL w v l.length 4 (insF l) ∧ ∀ x ∈ l, x.ok
def SU (w : World) (v : Value) (l : List Upp) : Prop := SL w v l.length 2 (uppF l) ∧ ∀ x ∈ l, x.ok
def SV (w : World) (v : Value) (l : List Vl) : Prop := SL w v l.length 4 (vlF l) ∧ ∀ x ∈ l, x.ok

structure Six where
  pa : Int
  rg : Int
  u : Value
  c : Value
  k : Value
  p : Value
def Six.v (x : Six) : Value := .agg #[.int .i64 x.pa, .int .i64 x.rg, x.u, x.c, x.k, x.p]
def Six.at (x : Six) (j : Nat) : Value := if j = 0 then .int .i64 x.pa else if j = 1 then .int .i64 x.rg else if j = 2 then x.u else if j = 3 then x.c else if j = 4 then x.k else x.p

/-- The value reads as the function. -/
def PR (w : World) : Pr → Six → Prop
  | .mk pa rg us cs ks ps => fun x => x.pa = pa ∧ x.rg = rg ∧ i64 pa ∧ i64 rg ∧ SU w x.u us ∧ SI w x.c cs ∧ SV w x.k ks ∧ ∃ f : Nat → Six, SL w x.p ps.length 6 (fun i j u => u = (f i).at j) ∧ ∀ i (h : i < ps.length), PR w ps[i] (f i)
  termination_by t => t
  decreasing_by
    have := List.sizeOf_lt_of_mem (List.getElem_mem h)
    simp only [Pr.mk.sizeOf_spec]
    omega

theorem PR_mk {w : World} {pa rg : Int} {us : List Upp} {cs : List Ins} {ks : List Vl} {ps : List Pr} {x : Six} : PR w (.mk pa rg us cs ks ps) x ↔ x.pa = pa ∧ x.rg = rg ∧ i64 pa ∧ i64 rg ∧ SU w x.u us ∧ SI w x.c cs ∧ SV w x.k ks ∧ ∃ f : Nat → Six, SL w x.p ps.length 6 (fun i j u => u = (f i).at j) ∧ ∀ i (h : i < ps.length), PR w ps[i] (f i) := by
  rw [PR]

theorem SL.kept {w w' : World} {B : Nat} {v : Value} {n z : Nat} {F : Nat → Nat → Value → Prop} (h : SL w v n z F) (hg : Below B w w') (hB : w.heap.size ≤ B) : SL w' v n z F := by
  obtain ⟨a, cap, h1, h2, h3, h4, h5, h6⟩ := h.form
  refine ⟨a, cap, h1, h2, h3, h4, h5, fun x hx => ⟨(h6 x hx).1, fun i hi j hj => ?_⟩⟩
  obtain ⟨u, hu, hF⟩ := (h6 x hx).2 i hi j hj
  exact ⟨u, cell_kept hg hB hu, hF⟩
theorem SI.kept {w w' : World} {B : Nat} {v : Value} {l : List Ins} (h : SI w v l) (hg : Below B w w') (hB : w.heap.size ≤ B) : SI w' v l := ⟨h.1.kept hg hB, h.2⟩
theorem SU.kept {w w' : World} {B : Nat} {v : Value} {l : List Upp} (h : SU w v l) (hg : Below B w w') (hB : w.heap.size ≤ B) : SU w' v l := ⟨h.1.kept hg hB, h.2⟩
theorem SV.kept {w w' : World} {B : Nat} {v : Value} {l : List Vl} (h : SV w v l) (hg : Below B w w') (hB : w.heap.size ≤ B) : SV w' v l := ⟨h.1.kept hg hB, h.2⟩
theorem PR.kept {w w' : World} {B : Nat} (hg : Below B w w') (hB : w.heap.size ≤ B) : ∀ (t : Pr) (x : Six), PR w t x → PR w' t x := by
  refine Pr.ind' fun pa rg us cs ks ps ih x h => ?_
  rw [PR_mk] at h ⊢
  obtain ⟨h1, h2, h3, h4, h5, h6, h7, f, h8, h9⟩ := h
  exact ⟨h1, h2, h3, h4, h5.kept hg hB, h6.kept hg hB, h7.kept hg hB, f, h8.kept hg hB, fun i hi => ih _ (List.getElem_mem hi) _ (h9 i hi)⟩

/-- What a slice is, whatever it holds. -/
theorem SL.val {w : World} {v : Value} {n z : Nat} {F : Nat → Nat → Value → Prop} (h : SL w v n z F) : ∃ a cap, v = .slice a n cap ∧ n ≤ cap ∧ cap ≤ 9223372036854775807 ∧ n ≤ far := by
  obtain ⟨a, cap, h1, h2, h3, h4, _, _⟩ := h.form
  exact ⟨a, cap, h1, h2, h3, h4⟩
theorem SL.get {w : World} {a : Option Addr} {m cap n z : Nat} {F : Nat → Nat → Value → Prop} (h : SL w (.slice a m cap) n z F) {i : Nat} (hi : i < n) : m = n ∧ ∃ g o, a = some ⟨g, o, none⟩ ∧ ∀ j, j < z → ∃ u, w.cell? ⟨g, o + i * z + j, none⟩ = some u ∧ F i j u := by
  obtain ⟨a', cap', h1, h2, h3, h4, h5, h6⟩ := h.form
  injection h1 with e1 e2 e3
  subst e1 e2 e3
  cases a with
  | none => have := h5 rfl; omega
  | some x =>
    obtain ⟨g, o, s⟩ := x
    have := (h6 _ rfl).1 (by omega)
    simp only at this
    subst this
    exact ⟨rfl, g, o, rfl, (h6 _ rfl).2 i hi⟩

theorem SI.get {w : World} {a : Option Addr} {m cap : Nat} {l : List Ins} (h : SI w (.slice a m cap) l) {i : Nat} (hi : i < l.length) : m = l.length ∧ ∃ g o, a = some ⟨g, o, none⟩ ∧ ∃ p q r s, l[i] = ⟨p, q, r, s⟩ ∧ (i64 p ∧ i64 q ∧ i64 r ∧ i64 s) ∧ w.cell? ⟨g, o + i * 4, none⟩ = some (.int .i64 p) ∧ w.cell? ⟨g, o + i * 4 + 1, none⟩ = some (.int .i64 q) ∧ w.cell? ⟨g, o + i * 4 + 2, none⟩ = some (.int .i64 r) ∧ w.cell? ⟨g, o + i * 4 + 3, none⟩ = some (.int .i64 s) := by
  obtain ⟨e, g, o, ha, hc⟩ := h.1.get hi
  have hk : ∀ j, j < 4 → w.cell? ⟨g, o + i * 4 + j, none⟩ = some (.int .i64 (if j = 0 then l[i].op else if j = 1 then l[i].a else if j = 2 then l[i].b else l[i].c)) := by
    intro j hj
    obtain ⟨u, hu, x, hx, rfl⟩ := hc j hj
    rw [List.getElem?_eq_getElem hi] at hx
    injection hx with hx
    rw [hu, hx]
  exact ⟨e, g, o, ha, _, _, _, _, rfl, h.2 _ (List.getElem_mem hi), hk 0 (by decide), hk 1 (by decide), hk 2 (by decide), hk 3 (by decide)⟩
theorem SU.get {w : World} {a : Option Addr} {m cap : Nat} {l : List Upp} (h : SU w (.slice a m cap) l) {i : Nat} (hi : i < l.length) : m = l.length ∧ ∃ g o, a = some ⟨g, o, none⟩ ∧ ∃ p q, l[i] = ⟨p, q⟩ ∧ i64 q ∧ w.cell? ⟨g, o + i * 2, none⟩ = some (.bool p) ∧ w.cell? ⟨g, o + i * 2 + 1, none⟩ = some (.int .i64 q) := by
  obtain ⟨e, g, o, ha, hc⟩ := h.1.get hi
  have hk : ∀ j, j < 2 → w.cell? ⟨g, o + i * 2 + j, none⟩ = some (if j = 0 then .bool l[i].own else .int .i64 l[i].pl) := by
    intro j hj
    obtain ⟨u, hu, x, hx, rfl⟩ := hc j hj
    rw [List.getElem?_eq_getElem hi] at hx
    injection hx with hx
    rw [hu, hx]
  exact ⟨e, g, o, ha, _, _, rfl, h.2 _ (List.getElem_mem hi), hk 0 (by decide), hk 1 (by decide)⟩
theorem SV.get {w : World} {a : Option Addr} {m cap : Nat} {l : List Vl} (h : SV w (.slice a m cap) l) {i : Nat} (hi : i < l.length) : m = l.length ∧ ∃ g o, a = some ⟨g, o, none⟩ ∧ ∃ p q r s, l[i] = ⟨p, q, r, s⟩ ∧ (i64 p ∧ (0 ≤ q ∧ q < 18446744073709551616) ∧ r.size ≤ far ∧ i64 s) ∧ w.cell? ⟨g, o + i * 4, none⟩ = some (.int .i64 p) ∧ w.cell? ⟨g, o + i * 4 + 1, none⟩ = some (.int .u64 q) ∧ w.cell? ⟨g, o + i * 4 + 2, none⟩ = some (.string r) ∧ w.cell? ⟨g, o + i * 4 + 3, none⟩ = some (.int .i64 s) := by
  obtain ⟨e, g, o, ha, hc⟩ := h.1.get hi
  have hk : ∀ j, j < 4 → w.cell? ⟨g, o + i * 4 + j, none⟩ = some (if j = 0 then .int .i64 l[i].k else if j = 1 then .int .u64 l[i].n else if j = 2 then .string l[i].s else .int .i64 l[i].o) := by
    intro j hj
    obtain ⟨u, hu, x, hx, rfl⟩ := hc j hj
    rw [List.getElem?_eq_getElem hi] at hx
    injection hx with hx
    rw [hu, hx]
  exact ⟨e, g, o, ha, _, _, _, _, rfl, h.2 _ (List.getElem_mem hi), hk 0 (by decide), hk 1 (by decide), hk 2 (by decide), hk 3 (by decide)⟩
/-- The cells of the i-th function of a row. -/
theorem SP.get {w : World} {a : Option Addr} {m cap n : Nat} {f : Nat → Six} (h : SL w (.slice a m cap) n 6 (fun i j u => u = (f i).at j)) {i : Nat} (hi : i < n) : m = n ∧ ∃ g o, a = some ⟨g, o, none⟩ ∧
    w.cell? ⟨g, o + i * 6, none⟩ = some (.int .i64 (f i).pa) ∧ w.cell? ⟨g, o + i * 6 + 1, none⟩ = some (.int .i64 (f i).rg) ∧ w.cell? ⟨g, o + i * 6 + 2, none⟩ = some (f i).u ∧ w.cell? ⟨g, o + i * 6 + 3, none⟩ = some (f i).c ∧ w.cell? ⟨g, o + i * 6 + 4, none⟩ = some (f i).k ∧ w.cell? ⟨g, o + i * 6 + 5, none⟩ = some (f i).p := by
  obtain ⟨e, g, o, ha, hc⟩ := h.get hi
  have hk : ∀ j, j < 6 → w.cell? ⟨g, o + i * 6 + j, none⟩ = some ((f i).at j) := by
    intro j hj
    obtain ⟨u, hu, rfl⟩ := hc j hj
    exact hu
  exact ⟨e, g, o, ha, hk 0 (by decide), hk 1 (by decide), hk 2 (by decide), hk 3 (by decide), hk 4 (by decide), hk 5 (by decide)⟩
end Pg
end Go.Proofs.YtcblknghkgihcaaDoor
