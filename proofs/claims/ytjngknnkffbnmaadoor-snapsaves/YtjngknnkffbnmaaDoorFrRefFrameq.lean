/-
  Bytes put behind bytes of one's own; the reference's Frame, walked.
-/
import Derived.Test.YtjngknnkffbnmaaDoorFrTurnedq
import Derived.Deep.DeepAppendWide
namespace Go.Proofs.YtjngknnkffbnmaaDoor
set_option maxRecDepth 100000
open Go.RowKit Crc

theorem wpList_append_br {w : World} {ops : Array Oper} {rest : List Oper} {o : Oper} {a : Act} {Q : Exit → Act → World → Prop} (hgd : o.guard = none) (s x : Operand)
    (ho : o.op = .call { callee := .builtin .append, args := #[s, x], argTypes := #[31, 31] }) (B : Nat) (v y : Value) (l m : List Nat) (hs : a.eval s = v) (hx : a.eval x = y)
    (hO : OW w B v l) (hR : BR w y m) (hlen : (l.length + m.length) + (l.length + m.length) / 4 + 192 ≤ 281474976710656) (hB : B ≤ w.heap.size)
    (h : ∀ v' w', OW w' B v' (l ++ m) → w.grownBy w' v.ownBlock → wpList Tryd.prog ops Q rest (a.put o.dst v') w') : wpList Tryd.prog ops Q (o :: rest) a w := by
  obtain ⟨i0, hi0, hz0, hz1, hz2⟩ := info_parts info8
  obtain ⟨s1, ad, cap, rfl, h3, h4, h5⟩ := hR
  rcases h5 with ⟨rfl, rfl⟩ | ⟨ad, rfl, hc⟩
  · have e : m = [] := List.eq_nil_of_length_eq_zero (by omega)
    subst e
    refine wpList_append_own_none hgd s x 31 ho B 5 i0 1 Tryd.underlying31 hi0 v l.length (c8 l) hs hO.2 hx ?_
    exact h v w (by rw [List.append_nil]; exact hO) ⟨rfl, rfl, rfl, Nat.le_refl _, fun _ _ _ => rfl⟩
  · refine wpList_append_own_wide w hgd s x 31 ho B 5 i0 (.int .u8 0) 1 1 Tryd.underlying31 hi0 hz0 hz1 hz2 rfl (by decide) v l.length (c8 l) hs hO.2 ad m.length cap (c8 m) hx (by rw [c8_length, Nat.mul_one]) ?_ (c8_one m) (by unfold maxLen; omega) (by omega) hB ?_
    · intro j u hu
      obtain ⟨e1, rfl⟩ := c8_at hu
      exact hc j e1
    · intro v' w' hown hgrow _
      refine h v' w' ⟨hO.1.append s1, ?_⟩ hgrow
      rw [List.length_append, c8_append]; exact hown

theorem OW.grown {w w' : World} {B : Nat} {v : Value} {l : List Nat} (hO : OW w B v l) (hg : w.grownBy w' v.ownBlock) {w0 : World} (hb : Below B w0 w) (hB : B ≤ w.heap.size) : Below B w0 w' := hb.grown hg hB (fun k hk => (hO.2.lt k hk).1)

set_option maxHeartbeats 1000000 in
theorem refFrame_any (v : Value) (l : List Nat) (w : World) (h : BR w v l) (hl : l.length ≤ 1048576) :
    Calls Tryd.prog 34 #[v] w fun e w' => ∃ v', e = .returned v' ∧ OW w' w.heap.size v' (frm l) ∧ Below w.heap.size w w' := by
  have HR : Hid (BR w v l) := h
  obtain ⟨s1, a, cap, rfl, h3, h4, h5⟩ := h
  clear h5
  have HS : Hid (Sm8 l) := s1
  have HF : Hid (frm l = be4 l.length ++ be4 (sumN (be4 l.length ++ l)) ++ l) := rfl
  have hsl : sumN (be4 l.length ++ l) < 4294967296 := sumN_lt ((be4_sm _).append s1)
  obtain ⟨n, hn⟩ : ∃ n, n = l.length := ⟨_, rfl⟩
  have HN : Hid (n = l.length) := hn
  rw [← hn] at hl h3 HF HR hsl ⊢
  have hn1 : (n : Int) % 4294967296 = (n : Int) := by omega
  clear hn s1
  go_enter Tryd.func34, Tryd.ntmps34
  go_wp2_with fail
  refine (four_any n w (by omega)).mono ?_
  rintro e w1 ⟨v1, rfl, ho1, hb1⟩
  have z1 := hb1.size
  have hO1 := OW_empty w1
  have hb2 : Below w1.heap.size w1 (w1.alloc (.cells #[] 5)) := (Below.refl _ _).alloc (Nat.le_refl _) _
  have hr1 := ho1.br.below hb2 (Nat.le_refl _)
  go_wp2_with (at_builtin; refine wpList_append_br rfl _ _ rfl w1.heap.size _ _ [] (be4 n) rfl rfl hO1 hr1 (by unfold be4; simp) (by simp) ?_)
  intro v2 w2 ho2 hg2
  have K2 := OW.grown hO1 hg2 hb2 (by simp)
  have z2 := K2.size
  have hl2 := HR.out.below (hb1.trans (K2.mono z1)) (Nat.le_refl _)
  clear hO1 hr1 hb2 hg2
  go_wp2_with (at_builtin; refine wpList_append_br rfl _ _ rfl w1.heap.size _ _ (be4 n) l rfl rfl ho2 hl2 (by have := HN.out; unfold be4; simp; omega) z2 ?_)
  intro v3 w3 ho3 hg3
  have K3 := ho2.grown hg3 K2 z2
  have z3 := K3.size
  clear ho2 hg3 hl2 K2
  go_wp2_with fail
  refine (refSum_any v3 _ w3 ho3.br).mono ?_
  rintro e w4 ⟨rfl, hw4⟩
  rw [hw4]
  clear hw4
  go_wp2_with fail
  refine (four_any _ w3 hsl).mono ?_
  generalize sumN (be4 n ++ l) = sm at *
  rintro e w5 ⟨v5, rfl, ho5, hb5⟩
  have K5 := K3.trans (hb5.mono z3)
  have z5 := hb5.size
  have h15 := ho1.below K5 (Nat.le_refl _)
  have hl5 := HR.out.below (hb1.trans (K5.mono z1)) (Nat.le_refl _)
  have HB5 : Hid (Below w.heap.size w w5) := hb1.trans (K5.mono z1)
  have hO5 := OW_empty w5
  have hb6 : Below w5.heap.size w5 (w5.alloc (.cells #[] 5)) := (Below.refl _ _).alloc (Nat.le_refl _) _
  have h16 := h15.br.below hb6 (Nat.le_refl _)
  clear K3 K5 hb5 ho3 ho1 hb1
  go_wp2_with (at_builtin; refine wpList_append_br rfl _ _ rfl w5.heap.size _ _ [] (be4 n) rfl rfl hO5 h16 (by unfold be4; simp) (by simp) ?_)
  intro v7 w7 ho7 hg7
  have M7 := OW.grown hO5 hg7 hb6 (by simp)
  have z7 := M7.size
  have h57 := ho5.br.below M7 (Nat.le_refl _)
  clear hO5 h16 hb6 hg7
  go_wp2_with (at_builtin; refine wpList_append_br rfl _ _ rfl w5.heap.size _ _ (be4 n) (be4 sm) rfl rfl ho7 h57 (by unfold be4; simp) z7 ?_)
  intro v8 w8 ho8 hg8
  have M8 := ho7.grown hg8 M7 z7
  have z8 := M8.size
  have hl8 := hl5.below M8 (Nat.le_refl _)
  clear ho7 h57 hg8 M7
  go_wp2_with (at_builtin; refine wpList_append_br rfl _ _ rfl w5.heap.size _ _ (be4 n ++ be4 sm) l rfl rfl ho8 hl8 (by have := HN.out; unfold be4; simp; omega) z8 ?_)
  intro v9 w9 ho9 hg9
  have M9 := ho8.grown hg9 M8 z8
  have HQ : Hid (OW w9 w.heap.size v9 (frm l) ∧ Below w.heap.size w w9) := ⟨by rw [HF.out]; exact OW.base ho9 (by omega), HB5.out.trans (M9.mono (by omega))⟩
  clear ho9 hg9 M9
  go_wp2
  go_ret
  exact ⟨_, rfl, HQ.out⟩

end Go.Proofs.YtjngknnkffbnmaaDoor
