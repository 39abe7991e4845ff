/-
  Layer 7: bytes put behind bytes of one's own.
-/
import Derived.Test.YtjngknnkffbnmaaDoorCdMath2q
import Derived.Deep.DeepAppendWide
import Derived.Laws.AppendOwnNone
namespace Go.Proofs.YtjngknnkffbnmaaDoor
set_option maxRecDepth 100000
open Go.RowKit Crc

theorem wpList_append_br {w : World} {ops : Array Oper} {rest : List Oper} {o : Oper} {a : Act} {Q : Exit → Act → World → Prop} (hgd : o.guard = none) (s x : Operand)
    (ho : o.op = .call { callee := .builtin .append, args := #[s, x], argTypes := #[31, 31] }) (B : Nat) (v y : Value) (l m : List Nat) (hs : a.eval s = v) (hx : a.eval x = y)
    (hO : OW w B v l) (hR : BR w y m) (hlen : (l.length + m.length) + (l.length + m.length) / 4 + 192 ≤ 281474976710656) (hB : B ≤ w.heap.size)
    (h : ∀ v' w', OW w' B v' (l ++ m) → w.grownBy w' v.ownBlock → wpList Tryd.prog ops Q rest (a.put o.dst v') w') : wpList Tryd.prog ops Q (o :: rest) a w := by
  obtain ⟨i0, hi0, hz0, hz1, hz2⟩ := info_parts info8
  obtain ⟨s1, ad, cap, rfl, h3, h4, h5⟩ := hR
  rcases h5 with ⟨rfl, rfl⟩ | ⟨ad, rfl, hc⟩
  · have e : m = [] := List.eq_nil_of_length_eq_zero (by omega)
    subst e
    refine wpList_append_own_none hgd s x 31 ho B 5 i0 1 Tryd.underlying31 hi0 v l.length (c8 l) hs hO.2 hx ?_
    exact h v w (by rw [List.append_nil]; exact hO) ⟨rfl, rfl, rfl, Nat.le_refl _, fun _ _ _ => rfl⟩
  · refine wpList_append_own_wide w hgd s x 31 ho B 5 i0 (.int .u8 0) 1 1 Tryd.underlying31 hi0 hz0 hz1 hz2 rfl (by decide) v l.length (c8 l) hs hO.2 ad m.length cap (c8 m) hx (by rw [c8_length, Nat.mul_one]) ?_ (c8_one m) (by unfold maxLen; omega) (by omega) hB ?_
    · intro j u hu
      obtain ⟨e1, rfl⟩ := c8_at hu
      exact hc j e1
    · intro v' w' hown hgrow _
      refine h v' w' ⟨hO.1.append s1, ?_⟩ hgrow
      rw [List.length_append, c8_append]; exact hown

theorem OW.grown {w w' : World} {B : Nat} {v : Value} {l : List Nat} (hO : OW w B v l) (hg : w.grownBy w' v.ownBlock) {w0 : World} (hb : Below B w0 w) (hB : B ≤ w.heap.size) : Below B w0 w' := hb.grown hg hB (fun k hk => (hO.2.lt k hk).1)

theorem OW.alloc {w : World} {B : Nat} {v : Value} {l : List Nat} (h : OW w B v l) (o : Obj) : OW (w.alloc o) B v l := ⟨h.1, h.2.alloc o⟩
theorem br_one (w : World) (d : Nat) (hd : d < 256) : BR (w.alloc (.cells #[.int .u8 (d : Int)] 5)) (.slice (some ⟨w.heap.size, 0, none⟩) 1 1) [d] := by
  refine ⟨fun x hx => by simp at hx; omega, some ⟨w.heap.size, 0, none⟩, 1, rfl, Nat.le_refl _, by unfold maxLen; omega, Or.inr ⟨_, rfl, fun i hi => ?_⟩⟩
  simp at hi
  subst hi
  rw [Addr_add_zero, World.cell?_alloc_new]
  rfl

end Go.Proofs.YtjngknnkffbnmaaDoor
