/-
  Layer 15: bytes in a block of their own; a text's part.
-/
import Derived.Test.YtflbolbhdiloeaaTtMath
import Derived.Test.YtflbolbhdiloeaaProg
import Derived.WalkKit
import Derived.ProofKit
import Derived.Below
import Derived.Laws.AppendOwn
import Derived.Deep.AppendLies
import Derived.Deep.Light
import Derived.Deep.DeepCutAuto
import Derived.Deep.QuietTactic
import Derived.Deep.LoopGhost
import Derived.Deep.RegionWith
import Derived.Deep.RegionHeld3
import Derived.BigQuiet
import Derived.Lib.AppendStr
import Derived.Laws.Strings2
import Derived.Laws.Strings3
import Derived.Laws.DeepStrings4
namespace Go.Proofs.Ytflbolbhdiloeaa
set_option maxRecDepth 100000
open Go.RowKit Txt Tt

theorem rowKeep {w w' : World} {B e s n : Nat} {v : Value} {xs : List Value} (h : w.ownsRow B e s v n xs) (hk : ∀ k, B ≤ k → k < w.heap.size → w'.heap[k]? = w.heap[k]?) : w'.ownsRow B e s v n xs := by
  refine ⟨h.1, ?_⟩
  rcases h.2 with hn | ⟨g, cap, cur, rfl, h0, hg, rest⟩
  · exact .inl hn
  · refine .inr ⟨g, cap, cur, rfl, h0, ?_, rest⟩
    rw [hk g h0 ?_]
    · exact hg
    · rcases Nat.lt_or_ge g w.heap.size with c | c
      · exact c
      · rw [Array.getElem?_eq_none c] at hg; cases hg
theorem rowShape {w : World} {B e s n : Nat} {v : Value} {xs : List Value} (h : w.ownsRow B e s v n xs) : ∃ a cap, v = .slice a n cap := by
  rcases h.2 with ⟨rfl, rfl⟩ | ⟨g, cap, cur, rfl, _⟩
  · exact ⟨_, _, rfl⟩
  · exact ⟨_, _, rfl⟩
theorem info8x : (Try.prog.info? 5).map (fun i => (i.zero, i.size, i.bytes)) = some (some (.int .u8 0), 1, 1) := by kernel_rfl
def b8 (l : List UInt8) : List Value := l.map fun c => Value.int .u8 (c.toNat : Int)
theorem b8_length (l : List UInt8) : (b8 l).length = l.length := by unfold b8; simp
theorem b8_snoc (l : List UInt8) (c : UInt8) : b8 (l ++ [c]) = b8 l ++ [.int .u8 (c.toNat : Int)] := by unfold b8; simp
/-- The slice v, in a block not below B that is all its own, holds the bytes l. -/
def OB (w : World) (B : Nat) (v : Value) (l : List UInt8) : Prop := w.ownsRow B 5 1 v l.length (b8 l)
theorem OB.keep {w w' : World} {B : Nat} {v : Value} {l : List UInt8} (h : OB w B v l) (hk : ∀ k, B ≤ k → k < w.heap.size → w'.heap[k]? = w.heap[k]?) : OB w' B v l := rowKeep h hk
theorem bs_nums (l : List UInt8) : strOfNums (l.map fun c => (c.toNat : Int)) = bs l := by
  apply Go.WideShapes.bytes_inj
  rw [strOfNums_data, bs_list, List.map_map]
  conv => rhs; rw [← List.map_id l]
  apply List.map_congr_left
  intro c _
  simp [Function.comp]
theorem OB.conv {w : World} {B : Nat} {v : Value} {l : List UInt8} (h : OB w B v l) : (convert 42 9 v).run Try.prog w = .ok (.string (bs l)) w := by
  rcases id h.2 with ⟨rfl, h0⟩ | ⟨g, cap, cur, rfl, hb, hg, r1, r2, r3, r4⟩
  · have : l = [] := List.eq_nil_of_length_eq_zero h0
    subst this
    exact run_convert_bytes_nil w _ _ Try.underlying42 Try.underlying5 _ _ _ Try.underlying9
  · rw [← bs_nums]
    refine run_convert_bytes_arg w _ _ Try.underlying42 Try.underlying5 g 0 l.length cap (l.map fun c => (c.toNat : Int)) (by rw [List.length_map]) ?_ _ Try.underlying9
    intro i hi
    have := World.ownsRow.cells h (g := g) rfl i (.int .u8 ((l.map fun c => (c.toNat : Int)).getD i 0)) ?_
    · have e : (⟨g, 0 + i, none⟩ : Addr) = Addr.add ⟨g, 0, none⟩ i := by rw [Addr.add_mid]
      rw [e]; exact this
    · unfold b8
      rw [List.getElem?_map, List.getElem?_eq_getElem hi, List.getD_eq_getElem?_getD, List.getElem?_map, List.getElem?_eq_getElem hi]; rfl
theorem cell_newb (w : World) (u : Value) (t : TypeId) : ∀ j y, [u][j]? = some y → (w.alloc (.cells #[u] t)).cell? (Addr.add ⟨w.heap.size, 0, none⟩ j) = some y := by
  intro j y hy
  match j, hy with
  | 0, hy =>
    rw [Addr.add_mid, World.cell?_alloc_at _ _ _ _ rfl]
    simpa using hy
theorem OB.laid {w w2 : World} {B g cap : Nat} {v : Value} {acc : List UInt8} {c : UInt8} (h : OB w B v acc) (o : Obj) (hB : B ≤ w.heap.size)
    (hown : w2.ownsRow B 5 1 (.slice (some ⟨g, 0, none⟩) (acc.length + 1) cap) (acc.length + 1) (b8 acc ++ [.int .u8 (c.toNat : Int)])) (hgrow : (w.alloc o).grownBy w2 v.ownBlock) :
    OB w2 B (.slice (some ⟨g, 0, none⟩) (acc.length + 1) cap) (acc ++ [c]) ∧ Below B w w2 := by
  refine ⟨?_, ((Below.refl B w).alloc hB o).grown hgrow (by simp; omega) (fun k hk => (World.ownsRow.lt h k hk).1)⟩
  unfold OB
  rw [b8_snoc, List.length_append]
  exact hown

end Go.Proofs.Ytflbolbhdiloeaa
