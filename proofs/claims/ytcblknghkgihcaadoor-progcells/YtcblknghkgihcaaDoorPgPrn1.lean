/-
  Layer 13: what is printed, as lists of bytes; what a writer leaves as it was.
-/
import Derived.Test.YtcblknghkgihcaaDoorPgBuild
import Derived.Test.YtcblknghkgihcaaDoorPgChk4
import Derived.Deep.RegionHeld3
namespace Go.Proofs.YtcblknghkgihcaaDoor
set_option maxRecDepth 100000
open Go.RowKit Txt Pg

def opT (o v : Int) : List UInt8 := if o = 0 then [] else 32 :: Lib.itoa v
def headT (i : Nat) (op : Int) : List UInt8 := Lib.itoa i ++ [32] ++ (rowOf op).1
def lineT (i : Nat) (x : Ins) : List UInt8 := headT i x.op ++ opT (rowOf x.op).2.2.1 x.a ++ opT (rowOf x.op).2.2.2.1 x.b ++ opT (rowOf x.op).2.2.2.2 x.c ++ [10]
def linesF : Nat → List Ins → List UInt8
  | _, [] => []
  | k, x :: l => lineT k x ++ linesF (k + 1) l
theorem linesF_append : ∀ (k : Nat) (l m : List Ins), linesF k (l ++ m) = linesF k l ++ linesF (k + l.length) m
  | k, [], m => by simp [linesF]
  | k, x :: l, m => by
    rw [List.cons_append, linesF, linesF, linesF_append (k + 1) l m, List.length_cons, List.append_assoc, show k + 1 + l.length = k + (l.length + 1) by omega]
theorem linesF_take (l : List Ins) (i : Nat) (h : i < l.length) : linesF 0 (l.take (i + 1)) = linesF 0 (l.take i) ++ lineT i l[i] := by
  rw [List.take_succ_eq_append_getElem h, linesF_append, List.length_take, Nat.min_eq_left (by omega)]
  simp [linesF]
theorem linesF_len (l : List Ins) (i : Nat) : (linesF 0 (l.take i)).length ≤ (linesF 0 l).length := by
  have := linesF_append 0 (l.take i) (l.drop i)
  rw [List.take_append_drop] at this
  rw [this, List.length_append]
  omega

def funT : List UInt8 := [102, 117, 110, 99, 116, 105, 111, 110, 32]
/-- What is printed of a function. -/
def prnT : Pr → List UInt8
  | .mk _ _ _ cs _ ps => linesF 0 cs ++ (ps.foldl (fun r q => (r.1 + 1, r.2 ++ (funT ++ Lib.itoa (r.1 : Nat) ++ [10] ++ prnT q))) ((0 : Nat), ([] : List UInt8))).2
def prnL (ps : List Pr) : Nat × List UInt8 := ps.foldl (fun r q => (r.1 + 1, r.2 ++ (funT ++ Lib.itoa (r.1 : Nat) ++ [10] ++ prnT q))) (0, [])
theorem prnT_mk (pa rg : Int) (us : List Upp) (cs : List Ins) (ks : List Vl) (ps : List Pr) : prnT (.mk pa rg us cs ks ps) = linesF 0 cs ++ (prnL ps).2 := by rw [prnT]; rfl
theorem prnL_fst : ∀ (ps : List Pr), (prnL ps).1 = ps.length := by
  have : ∀ (ps : List Pr) (r : Nat × List UInt8), (ps.foldl (fun r q => (r.1 + 1, r.2 ++ (funT ++ Lib.itoa (r.1 : Nat) ++ [10] ++ prnT q))) r).1 = r.1 + ps.length := by
    intro ps
    induction ps with
    | nil => intro r; rfl
    | cons q ps ih => intro r; rw [List.foldl_cons, ih]; simp only [List.length_cons]; omega
  intro ps
  have := this ps (0, [])
  unfold prnL
  rw [this]; simp
theorem prnL_take (ps : List Pr) (i : Nat) (h : i < ps.length) : (prnL (ps.take (i + 1))).2 = (prnL (ps.take i)).2 ++ (funT ++ Lib.itoa (i : Nat) ++ [10] ++ prnT ps[i]) := by
  have e := prnL_fst (ps.take i)
  rw [List.length_take, Nat.min_eq_left (by omega)] at e
  have : prnL (ps.take (i + 1)) = ((prnL (ps.take i)).1 + 1, (prnL (ps.take i)).2 ++ (funT ++ Lib.itoa ((prnL (ps.take i)).1 : Nat) ++ [10] ++ prnT ps[i])) := by
    unfold prnL
    rw [List.take_succ_eq_append_getElem h, List.foldl_append]
    rfl
  rw [this, e]
theorem prnL_len (ps : List Pr) (i : Nat) : (prnL (ps.take i)).2.length ≤ (prnL ps).2.length := by
  have mono : ∀ (l : List Pr) (r : Nat × List UInt8), r.2.length ≤ (l.foldl (fun r q => (r.1 + 1, r.2 ++ (funT ++ Lib.itoa (r.1 : Nat) ++ [10] ++ prnT q))) r).2.length := by
    intro l
    induction l with
    | nil => intro r; exact Nat.le_refl _
    | cons q l ih =>
      intro r
      rw [List.foldl_cons]
      refine Nat.le_trans ?_ (ih _)
      rw [List.length_append]
      omega
  have e : prnL ps = (ps.drop i).foldl (fun r q => (r.1 + 1, r.2 ++ (funT ++ Lib.itoa (r.1 : Nat) ++ [10] ++ prnT q))) (prnL (ps.take i)) := by
    unfold prnL
    rw [← List.foldl_append, List.take_append_drop]
  rw [e]
  exact mono _ _

namespace Pg
/-- A builder since the world w0. -/
structure Wt (B b : Nat) (g0 : Option Nat) (w0 : World) (g : Option Nat) (w : World) (l : List UInt8) : Prop where
  bd : Bd w B b g l
  mv : Moved w0 g0 g
  kg : Kg b g0 w0 w
theorem Wt.start {B b : Nat} {g : Option Nat} {w : World} {l : List UInt8} (h : Bd w B b g l) : Wt B b g w g w l := ⟨h, Moved.refl _ _, Kg.refl _ _ _⟩
theorem Wt.below {B b : Nat} {g0 g : Option Nat} {w0 w w' : World} {l : List UInt8} (h : Wt B b g0 w0 g w l) (e : Below w.heap.size w w') : Wt B b g0 w0 g w' l :=
  ⟨h.bd.kept e, h.mv, h.kg.trans (Kg.of_below e) (Or.inl rfl)⟩
theorem Wt.more {B b : Nat} {g0 g g' : Option Nat} {w0 w w' : World} {l m : List UInt8} (h : Wt B b g0 w0 g w l) (h1 : Bd w' B b g' m) (h2 : Moved w g g') (h3 : Kg b g w w') : Wt B b g0 w0 g' w' m :=
  ⟨h1, h.mv.trans h2 h.kg.size, h.kg.trans h3 h.mv⟩
/-- What lay below all that the builder owns is as it was. -/
theorem Wt.base {B b : Nat} {g0 g : Option Nat} {w0 w : World} {l l0 : List UInt8} (h : Wt B b g0 w0 g w l) (h0 : Bd w0 B b g0 l0) (hB : B ≤ b) (hs : B ≤ w0.heap.size) : Below B w0 w :=
  ⟨h.kg.os, h.kg.tape, h.kg.output, h.kg.size, fun k hk => h.kg.block k (by omega) (by omega) (fun e => by have := (h0.at.2 k e.symm).1; omega)⟩
/-- What lies in a block behind the builder's. -/
theorem Wt.cell {B b : Nat} {g0 g : Option Nat} {w0 w : World} {l : List UInt8} (h : Wt B b g0 w0 g w l) {k j : Nat} (hk : k < w0.heap.size) (hb : k ≠ b) (hg : ∀ i, g0 = some i → i ≠ k) {v : Value} (hv : w0.cell? ⟨k, j, none⟩ = some v) : w.cell? ⟨k, j, none⟩ = some v :=
  h.kg.cell hk hb (fun e => hg k e.symm rfl) hv
end Pg

/-- A text is written. -/
theorem put_any (B b : Nat) (g : Option Nat) (l s : List UInt8) (S : ByteArray) (w : World) (hS : S = bs s) (h : Bd w B b g l) (hBw : B ≤ w.heap.size) (hlen : l.length + s.length ≤ 140737488355328) :
    Calls Tryd.prog 66 #[.pointer (some ⟨b, 0, none⟩), .string S] w fun e w' => e = .returned (.tuple #[.int .i64 s.length, .nilIface]) ∧ ∃ g', Bd w' B b g' (l ++ s) ∧ Moved w g g' ∧ Kg b g w w' := by
  rw [hS]; exact wstring_any B b g l s w h hBw hlen

theorem hide_p {p : Prop} (h : p) : Hid p := h
theorem nDigits_le : ∀ (k u : Nat), u < 10 ^ (k + 1) → Lib.nDigits u ≤ k + 1
  | 0, u, h => by rw [Lib.nDigits_small (by omega)]; omega
  | k + 1, u, h => by
    by_cases c : u < 10
    · rw [Lib.nDigits_small c]; omega
    · rw [Lib.nDigits_big c]
      have := nDigits_le k (u / 10) (by rw [Nat.pow_succ] at h; omega)
      omega
theorem itoa_len (n : Int) (h : i64 n) : (Lib.itoa n).length ≤ 20 := by
  unfold i64 at h
  unfold Lib.itoa
  split
  · have := nDigits_le 18 n.natAbs (by omega)
    simp only [List.length_cons, Lib.decDigits_length]
    omega
  · have := nDigits_le 18 n.toNat (by omega)
    rw [Lib.decDigits_length]
    omega
theorem name_len (op : Int) : (rowOf op).1.length ≤ 9 := by
  have h : ∀ x ∈ noRow :: ordL, x.1.length ≤ 9 := by decide
  exact h _ (rowOf_mem op)

end Go.Proofs.YtcblknghkgihcaaDoor
