/-
  What the rows' readings give the walks of layer 7: cells that came in are trees.
-/
import Derived.Test.YtjngknnkffbnmaaDoorCdMath2q
import Derived.Test.YtjngknnkffbnmaaDoorRows
import Derived.WalkKit
import Derived.ProofKit
import Derived.OpenShut
import Derived.ChangeArms
import Derived.SizedLaws
import Derived.Carry
import Derived.JoinedCond
import Derived.HandedShaped
import Derived.Lib.LaidTab
namespace Go.Proofs.YtjngknnkffbnmaaDoor
set_option maxRecDepth 100000
open Go.ChangeShapes Go.WideShapes Go.ChangeAt Go.RowKit Crc

theorem cellsCell : Tryd.prog.cellsOf 26 = 4 := by kernel_rfl
theorem cellsInt : Tryd.prog.cellsOf 3 = 1 := by kernel_rfl
theorem cellsU64 : Tryd.prog.cellsOf 22 = 1 := by kernel_rfl
theorem cellsStr : Tryd.prog.cellsOf 9 = 1 := by kernel_rfl
theorem cellsRow : Tryd.prog.cellsOf 24 = 1 := by kernel_rfl

theorem list4 {l : List Value} (h : l.length = 4) : ∃ a b c d, l = [a, b, c, d] := by
  match l, h with
  | [a, b, c, d], _ => exact ⟨a, b, c, d, rfl⟩

theorem some_at {α : Type} {l : List α} {n i : Nat} (h : l.length = n) (hi : i < n) : ∃ x, l[i]? = some x := ⟨l[i]'(by omega), List.getElem?_eq_getElem (by omega)⟩

/-- Four cells in a row. -/
theorem cells_four {W : World} {a : Addr} {cs : List Value} (h : W.cells? 0 a 4 = some cs) : ∃ c0 c1 c2 c3, cs = [c0, c1, c2, c3] ∧ W.cell? a = some c0 ∧ W.cell? (a.add 1) = some c1 ∧ W.cell? (a.add 2) = some c2 ∧ W.cell? (a.add 3) = some c3 := by
  unfold World.cells? at h
  rw [if_pos (Nat.zero_le _)] at h
  have hl := Lib.mapM_length h
  obtain ⟨b0, e0, f0⟩ := Lib.mapM_at h 0 0 (by simp)
  obtain ⟨b1, e1, f1⟩ := Lib.mapM_at h 1 1 (by simp)
  obtain ⟨b2, e2, f2⟩ := Lib.mapM_at h 2 2 (by simp)
  obtain ⟨b3, e3, f3⟩ := Lib.mapM_at h 3 3 (by simp)
  obtain ⟨c0, c1, c2, c3, rfl⟩ := list4 (hl.trans (by simp))
  simp at e0 e1 e2 e3
  subst e0 e1 e2 e3
  rw [Addr_add_zero] at f0
  exact ⟨_, _, _, _, rfl, f0, f1, f2, f3⟩

theorem spot_none {W : World} {a : Addr} {u : Value} (h : W.cell? a = some u) : a.spot = none := by
  obtain ⟨b, o, s⟩ := a
  cases s with
  | none => rfl
  | some k =>
    unfold World.cell? at h
    split at h <;> simp at h

theorem add_mk (b o n : Nat) : Addr.add ⟨b, o, none⟩ n = ⟨b, o + n, none⟩ := by unfold Addr.add; split <;> simp_all

/-- Cells in a row, each of which is a tree, are a list. -/
theorem row_tree {H : Type} {enc : TypeId × Value → H} {W : World} {sp : Nat → Bool} {held : Bool} {a : Addr} {len cap q : Nat} {elems : List (DataW H × List MemPlace)} (k : Int) (N : Nat) (s : ByteArray)
    (bk : -9223372036854775808 ≤ k ∧ k ≤ 9223372036854775807) (bn : N < 18446744073709551616) (bs : s.size ≤ 9223372036854775807) (hlc : len ≤ cap) (hcm : cap ≤ maxLen) (hel : elems.length = len)
    (hat0 : ∀ i, i < len → (W.cells? 0 (a.add (i * Tryd.prog.cellsOf 26)) (Tryd.prog.cellsOf 26)).bind (DataW.trod enc Tryd.prog W 0 sp held q 26) = elems[i]?)
    (ih : ∀ (cs : List Value) (x : DataW H × List MemPlace), DataW.trod enc Tryd.prog W 0 sp held q 26 cs = some x → ∃ (t : Tr) (k : Int) (n : Nat) (s : ByteArray) (u : Value), cs = [.int .i64 k, .int .u64 n, .string s, u] ∧ CR W t (cellV k n s u)) :
    ∃ ts, CR W (.mk k N s ts) (cellV k N s (.slice (some a) len cap)) := by
  have hat := hat0
  unfold maxLen at hcm
  rw [cellsCell] at hat
  have key : ∀ i, ∃ f : Tr × Int × Nat × ByteArray × Value, i < len → (a.spot = none ∧ Lies W a.block a.off i f.2.1 f.2.2.1 f.2.2.2.1 f.2.2.2.2) ∧ CR W f.1 (cellV f.2.1 f.2.2.1 f.2.2.2.1 f.2.2.2.2) := by
    intro i
    by_cases hi : i < len
    · obtain ⟨y, ey⟩ := some_at hel hi
      have hb := hat i hi
      rw [ey] at hb
      obtain ⟨cs, hcs, htr⟩ := Option.bind_eq_some_iff.1 hb
      obtain ⟨t, k', n', s', u', rfl, hcr⟩ := ih cs y htr
      obtain ⟨c0, c1, c2, c3, e, g0, g1, g2, g3⟩ := cells_four hcs
      simp only [List.cons.injEq, and_true] at e
      obtain ⟨rfl, rfl, rfl, rfl⟩ := e
      refine ⟨(t, k', n', s', u'), fun _ => ⟨?_, hcr⟩⟩
      have hsp : a.spot = none := by
        obtain ⟨y, ey⟩ := some_at hel (show 0 < len by omega)
        have hb := hat 0 (by omega)
        rw [ey] at hb
        obtain ⟨cs, hcs, htr⟩ := Option.bind_eq_some_iff.1 hb
        obtain ⟨_, _, _, _, _, g0, _⟩ := cells_four hcs
        rw [Nat.zero_mul, Addr_add_zero] at g0
        exact spot_none g0
      refine ⟨hsp, ?_⟩
      obtain ⟨b, o, sp⟩ := a
      simp only at hsp
      subst hsp
      rw [add_mk] at g0 g1 g2 g3
      rw [add_mk] at g1 g2 g3
      exact ⟨g0, g1, g2, g3⟩
    · exact ⟨(.mk 0 0 ⟨#[]⟩ [], 0, 0, ⟨#[]⟩, .slice none 0 0), fun h => absurd h hi⟩
  obtain ⟨f, hf⟩ := Classical.axiomOfChoice key
  have hl : ((List.range len).map (fun i => (f i).1)).length = len := by simp
  refine ⟨(List.range len).map (fun i => (f i).1), ?_⟩
  have := CR.mk (w := W) k N s ((List.range len).map (fun i => (f i).1)) (some a) cap (fun i => (f i).2.1) (fun i => (f i).2.2.1) (fun i => (f i).2.2.2.1) (fun i => (f i).2.2.2.2) bk bn bs (by rw [hl]; exact hlc) (by omega) (fun e => by cases e)
    (fun x i e hi => by cases e; rw [hl] at hi; exact (hf i hi).1) (fun i hi => by
      have hi2 : i < len := by rw [hl] at hi; exact hi
      simp only [List.getElem_map, List.getElem_range]
      exact (hf i hi2).2)
  rw [hl] at this
  exact this

theorem trod_cell {H : Type} {enc : TypeId × Value → H} {W : World} {sp : Nat → Bool} {held : Bool} : ∀ (fuel : Nat) (cs : List Value) (x : DataW H × List MemPlace), DataW.trod enc Tryd.prog W 0 sp held fuel 26 cs = some x →
    ∃ (t : Tr) (k : Int) (n : Nat) (s : ByteArray) (u : Value), cs = [.int .i64 k, .int .u64 n, .string s, u] ∧ CR W t (cellV k n s u) := by
  intro fuel
  induction fuel using Nat.strongRecOn with
  | _ fuel ih =>
  intro cs x h
  obtain ⟨xs, n, rfl, rfl, hlen, hxl, hf⟩ := DataW.trod_struct Tryd.underlying26 h
  rw [cellsCell] at hlen
  obtain ⟨c0, c1, c2, c3, rfl⟩ := list4 hlen
  have h0 : DataW.trod enc Tryd.prog W 0 sp held n 3 (([c0, c1, c2, c3].drop 0).take (Tryd.prog.cellsOf 3)) = xs[0]? := hf 0 _ rfl
  have h1 : DataW.trod enc Tryd.prog W 0 sp held n 22 (([c0, c1, c2, c3].drop 1).take (Tryd.prog.cellsOf 22)) = xs[1]? := hf 1 _ rfl
  have h2 : DataW.trod enc Tryd.prog W 0 sp held n 9 (([c0, c1, c2, c3].drop 2).take (Tryd.prog.cellsOf 9)) = xs[2]? := hf 2 _ rfl
  have h3 : DataW.trod enc Tryd.prog W 0 sp held n 24 (([c0, c1, c2, c3].drop 3).take (Tryd.prog.cellsOf 24)) = xs[3]? := hf 3 _ rfl
  obtain ⟨y0, e0⟩ := some_at hxl (i := 0) (by decide)
  obtain ⟨y1, e1⟩ := some_at hxl (i := 1) (by decide)
  obtain ⟨y2, e2⟩ := some_at hxl (i := 2) (by decide)
  obtain ⟨y3, e3⟩ := some_at hxl (i := 3) (by decide)
  rw [e0] at h0
  rw [e1] at h1
  rw [e2] at h2
  rw [e3] at h3
  simp only [cellsInt, cellsU64, cellsStr, cellsRow, List.drop_zero, List.drop_succ_cons, List.take_succ_cons, List.take_zero] at h0 h1 h2 h3
  obtain ⟨k, hk, _, wk⟩ := DataW.trod_int Tryd.underlying3 h0
  obtain ⟨m, hm, _, wm⟩ := DataW.trod_int Tryd.underlying22 h1
  obtain ⟨s, hs, _, ws⟩ := DataW.trod_string Tryd.underlying9 h2
  injection hk with hk _
  injection hm with hm _
  injection hs with hs _
  subst hk hm hs
  have bk : -9223372036854775808 ≤ k ∧ k ≤ 9223372036854775807 := by simpa [Lit.wf, IntKind.min, IntKind.max, IntKind.signed, IntKind.bits] using wk
  have bm : 0 ≤ m ∧ m ≤ 18446744073709551615 := by simpa [Lit.wf, IntKind.min, IntKind.max, IntKind.signed, IntKind.bits] using wm
  unfold maxLen at ws
  obtain ⟨N, rfl⟩ : ∃ N : Nat, m = (N : Int) := ⟨m.toNat, by omega⟩
  rcases DataW.trod_slice Tryd.underlying24 h3 with ⟨hc, _⟩ | ⟨a, len, cap, elems, rest, q, rfl, hc, _, _, hlc, hcm, hel, hat, _⟩
  · injection hc with hc _
    subst hc
    exact ⟨_, k, N, s, _, rfl, (CS_flat W (fun _ => True) k N s bk (by omega) (by omega)).cr⟩
  · injection hc with hc _
    subst hc
    unfold maxLen at hcm
    obtain ⟨ts, hts⟩ := row_tree k N s bk (by omega) (by omega) hlc (by unfold maxLen; omega) hel hat (fun cs y h => ih q (by omega) cs y h)
    exact ⟨_, k, N, s, _, rfl, hts⟩

/-- A cell that came in. -/
theorem open_cell {H : Type} {enc : TypeId × Value → H} {W : World} {base : Nat} {v : Value} {d : DataW H} {p : List MemPlace}
    (hval : Value.okWide Tryd.prog W .any base 26 v) (h0 : DataW.Trod enc Tryd.prog W 0 (fun _ => true) true 26 v d p) : ∃ t, CR W t v := by
  obtain ⟨fuel, hf⟩ := h0
  obtain ⟨t, k, n, s, u, e, hc⟩ := trod_cell fuel _ _ hf
  simp only [Value.okWide, Tryd.underlying26] at hval
  obtain ⟨cs, rfl, _⟩ := hval
  have : cs = #[.int .i64 k, .int .u64 n, .string s, u] := by
    simp [Value.cells] at e
    apply Array.ext'
    exact e
  subst this
  exact ⟨t, hc⟩

end Go.Proofs.YtjngknnkffbnmaaDoor
